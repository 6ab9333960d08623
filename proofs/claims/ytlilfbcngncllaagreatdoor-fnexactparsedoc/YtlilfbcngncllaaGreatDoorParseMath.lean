/- What reading tokens into a document is, in plain terms. -/
import Derived.Test.YtlilfbcngncllaaGreatDoorLexSpec
import Derived.Test.YtlilfbcngncllaaGreatDoorDocMath
namespace Go.Proofs.YtlilfbcngncllaaGreatDoor
set_option linter.unusedVariables false

/-- What a reading comes to: something and the tokens left, or that the form is none, or that it is too deep. -/
inductive PR (α : Type) where
  | ok (a : α) (rest : List Tk)
  | form
  | deep
def mkB (l : List UInt8) (t : Tk) : Bool := (t.k == 4) && (t.t.toList == l)
/-- At a mark. -/
def atM (l : List UInt8) : List Tk → Bool
  | [] => false
  | t :: _ => mkB l t
/-- The name here, if any. -/
def nmAt : List Tk → Option ByteArray
  | [] => none
  | t :: _ => if t.k = 1 then some t.t else none
def pVal : List Tk → Option (Va × List Tk)
  | [] => none
  | t :: r =>
    if t.k = 2 then some (⟨1, t.n, ⟨#[]⟩⟩, r)
    else if t.k = 3 then some (⟨4, 0, t.t⟩, r)
    else if t.k = 1 then
      (if t.t.toList = [116, 114, 117, 101] then some (⟨2, 1, ⟨#[]⟩⟩, r)
       else if t.t.toList = [102, 97, 108, 115, 101] then some (⟨2, 0, ⟨#[]⟩⟩, r)
       else if t.t.toList = [110, 117, 108, 108] then some (⟨3, 0, ⟨#[]⟩⟩, r)
       else none)
    else none
/-- NAME: VALUE -/
def pArg (l : List Tk) : Option (Ar × List Tk) :=
  match nmAt l with
  | none => none
  | some nm => if atM [58] (l.drop 1) then (pVal (l.drop 2)).map fun x => (⟨nm, x.1⟩, x.2) else none
/-- Arguments up to the mark that ends them. -/
def pArgsF : Nat → List Tk → Option (List Ar × List Tk)
  | 0, _ => none
  | f + 1, l => if atM [41] l then some ([], l.drop 1) else
      (match pArg l with
      | none => none
      | some (a, r) => (pArgsF f r).map fun x => (a :: x.1, x.2))
def pArgs (l : List Tk) : Option (List Ar × List Tk) := pArgsF (l.length + 1) l
/-- Behind '@': skip or include, and one argument, if. -/
def pDir (l : List Tk) : Option (Di × List Tk) :=
  match nmAt l with
  | none => none
  | some nm =>
    if nm.toList = [115, 107, 105, 112] ∨ nm.toList = [105, 110, 99, 108, 117, 100, 101] then
      (if atM [40] (l.drop 1) then
        (match pArg (l.drop 2) with
        | none => none
        | some (a, r) => if a.nm.toList = [105, 102] ∧ atM [41] r = true then some (⟨nm.toList == [115, 107, 105, 112], a.v⟩, r.drop 1) else none)
       else none)
    else none
def pDirsF : Nat → List Tk → Option (List Di × List Tk)
  | 0, _ => none
  | f + 1, l => if atM [64] l then
      (match pDir (l.drop 1) with
      | none => none
      | some (a, r) => (pDirsF f r).map fun x => (a :: x.1, x.2))
      else some ([], l)
def pDirs (l : List Tk) : Option (List Di × List Tk) := pDirsF (l.length + 1) l
/-- A field's arguments: some in '( )', or none. -/
def pArgsAny (l : List Tk) : Option (List Ar × List Tk) :=
  if atM [40] l then (match pArgs (l.drop 1) with | some (a :: bs, r) => some (a :: bs, r) | _ => none) else some ([], l)
/-- A selection up to its set: whether one comes. -/
def pHead (l : List Tk) : Option (Hd × Bool × List Tk) :=
  if atM [46, 46, 46] l then
    (match nmAt (l.drop 1) with
    | none => (pDirs (l.drop 1)).map fun x => (⟨3, ⟨#[]⟩, ⟨#[]⟩, [], x.1⟩, true, x.2)
    | some nm => if nm.toList = [111, 110] then
        (match nmAt (l.drop 2) with
        | none => none
        | some ty => (pDirs (l.drop 3)).map fun x => (⟨3, ⟨#[]⟩, ty, [], x.1⟩, true, x.2))
      else (pDirs (l.drop 2)).map fun x => (⟨2, ⟨#[]⟩, nm, [], x.1⟩, false, x.2))
  else
    (match nmAt l with
    | none => none
    | some nm =>
      if atM [58] (l.drop 1) then
        (match nmAt (l.drop 2) with
        | none => none
        | some n2 => (pArgsAny (l.drop 3)).bind fun x => (pDirs x.2).map fun y => (⟨1, nm, n2, x.1, y.1⟩, atM [123] y.2, y.2))
      else (pArgsAny (l.drop 1)).bind fun x => (pDirs x.2).map fun y => (⟨1, ⟨#[]⟩, nm, x.1, y.1⟩, atM [123] y.2, y.2))
/-- Selections up to the mark that ends their set; d sets may still stand in one another. -/
def pLoop : Nat → Nat → List Tk → PR Sels
  | 0, _, _ => .form
  | f + 1, d, l => if atM [125] l then .ok .nil (l.drop 1) else
      (match pHead l with
      | none => .form
      | some (h, false, r) => (match pLoop f d r with | .ok rest r2 => .ok (.cons h .nil rest) r2 | .form => .form | .deep => .deep)
      | some (h, true, r) =>
        if atM [123] r then
          (if d ≤ 1 then .deep else
            (match pLoop f (d - 1) (r.drop 1) with
            | .ok .nil _ => .form
            | .ok sub r1 => (match pLoop f d r1 with | .ok rest r2 => .ok (.cons h sub rest) r2 | .form => .form | .deep => .deep)
            | .form => .form
            | .deep => .deep))
        else .form)
def pL (d : Nat) (l : List Tk) : PR Sels := pLoop (l.length + 1) d l
/-- A set of d sets in one another at most. -/
def pSet (d : Nat) (l : List Tk) : PR Sels :=
  if atM [123] l then (if d = 0 then .deep else match pL d (l.drop 1) with | .ok .nil _ => .form | x => x) else .form
def pDefHead (l : List Tk) : Option (Int × ByteArray × ByteArray × List Tk) :=
  if atM [123] l then some (1, ⟨#[]⟩, ⟨#[]⟩, l) else
  match nmAt l with
  | none => none
  | some wd =>
    if wd.toList = [113, 117, 101, 114, 121] ∨ wd.toList = [109, 117, 116, 97, 116, 105, 111, 110] then
      (match nmAt (l.drop 1) with
      | none => some (if wd.toList = [113, 117, 101, 114, 121] then 1 else 2, ⟨#[]⟩, ⟨#[]⟩, l.drop 1)
      | some nm => some (if wd.toList = [113, 117, 101, 114, 121] then 1 else 2, nm, ⟨#[]⟩, l.drop 2))
    else if wd.toList = [102, 114, 97, 103, 109, 101, 110, 116] then
      (match nmAt (l.drop 1), nmAt (l.drop 2), nmAt (l.drop 3) with
      | some nm, some o, some ty => if nm.toList ≠ [111, 110] ∧ o.toList = [111, 110] then some (3, nm, ty, l.drop 4) else none
      | _, _, _ => none)
    else none
def pDef (l : List Tk) : PR De :=
  match pDefHead l with
  | none => .form
  | some (k, nm, on, r) => (match pSet 7 r with | .ok s r1 => .ok ⟨k, nm, on, s⟩ r1 | .form => .form | .deep => .deep)
def pDefsF : Nat → List Tk → PR (List De)
  | 0, _ => .form
  | f + 1, l => match pDef l with
    | .ok x [] => .ok [x] []
    | .ok x r => (match pDefsF f r with | .ok xs r2 => .ok (x :: xs) r2 | .form => .form | .deep => .deep)
    | .form => .form
    | .deep => .deep
def pDoc (l : List Tk) : PR (List De) := pDefsF (l.length + 1) l
/-- What a text reads as, and the code. -/
def parseB (s : ByteArray) : List De × Int :=
  if (lexB s).2 = 0 then
    (match pDoc (lexB s).1 with
    | .ok d _ => if docB d then (d, 0) else ([], 6)
    | .form => ([], 3)
    | .deep => ([], 8))
  else ([], (lexB s).2)

theorem pVal_len {l r : List Tk} {v : Va} (h : pVal l = some (v, r)) : r.length + 1 = l.length := by
  cases l with
  | nil => cases h
  | cons t q =>
    unfold pVal at h
    dsimp only at h
    by_cases h1 : t.k = 2
    · rw [if_pos h1] at h; cases h; rfl
    rw [if_neg h1] at h
    by_cases h2 : t.k = 3
    · rw [if_pos h2] at h; cases h; rfl
    rw [if_neg h2] at h
    by_cases h3 : t.k = 1
    · rw [if_pos h3] at h
      by_cases h4 : t.t.toList = [116, 114, 117, 101]
      · rw [if_pos h4] at h; cases h; rfl
      rw [if_neg h4] at h
      by_cases h5 : t.t.toList = [102, 97, 108, 115, 101]
      · rw [if_pos h5] at h; cases h; rfl
      rw [if_neg h5] at h
      by_cases h6 : t.t.toList = [110, 117, 108, 108]
      · rw [if_pos h6] at h; cases h; rfl
      rw [if_neg h6] at h; cases h
    · rw [if_neg h3] at h; cases h
theorem nmAt_len {l : List Tk} {nm : ByteArray} (h : nmAt l = some nm) : 0 < l.length := by
  cases l with
  | nil => cases h
  | cons t q => simp
theorem atM_len {m : List UInt8} {l : List Tk} (h : atM m l = true) : 0 < l.length := by
  cases l with
  | nil => cases h
  | cons t q => simp
theorem pArg_len {l r : List Tk} {a : Ar} (h : pArg l = some (a, r)) : r.length < l.length := by
  unfold pArg at h
  split at h
  · cases h
  · rename_i nm hn
    split at h
    · obtain ⟨x, hx, he⟩ := Option.map_eq_some_iff.1 h
      cases he
      have := pVal_len (v := x.1) (r := x.2) hx
      simp only [List.length_drop] at this; omega
    · cases h
theorem pArgsF_len : ∀ {f : Nat} {l r : List Tk} {bs : List Ar}, pArgsF f l = some (bs, r) → r.length < l.length
  | 0, _, _, _, h => by cases h
  | f + 1, l, r, bs, h => by
    unfold pArgsF at h
    split at h
    · rename_i hm
      cases h
      have := atM_len hm
      simp only [List.length_drop]; omega
    · split at h
      · cases h
      · rename_i a q ha
        obtain ⟨x, hx, he⟩ := Option.map_eq_some_iff.1 h
        cases he
        have h1 := pArg_len ha
        have h2 := pArgsF_len (bs := x.1) (r := x.2) hx
        omega
theorem pArgsF_fuel : ∀ (f g : Nat) (l : List Tk), l.length < f → l.length < g → pArgsF f l = pArgsF g l
  | 0, _, _, h, _ => by omega
  | _ + 1, 0, _, _, h => by omega
  | f + 1, g + 1, l, h1, h2 => by
    unfold pArgsF
    split
    · rfl
    · cases ha : pArg l with
      | none => rfl
      | some x =>
        obtain ⟨a, r⟩ := x
        have := pArg_len ha
        simp only
        rw [pArgsF_fuel f g r (by omega) (by omega)]
theorem pArgs_eq (l : List Tk) : pArgs l = if atM [41] l then some ([], l.drop 1) else
      (match pArg l with
      | none => none
      | some (a, r) => (pArgs r).map fun x => (a :: x.1, x.2)) := by
  unfold pArgs
  rw [pArgsF]
  split
  · rfl
  · cases ha : pArg l with
    | none => rfl
    | some x =>
      obtain ⟨a, r⟩ := x
      have := pArg_len ha
      simp only
      rw [pArgsF_fuel l.length (r.length + 1) r (by omega) (by omega)]
theorem pDir_len {l r : List Tk} {a : Di} (h : pDir l = some (a, r)) : r.length < l.length := by
  unfold pDir at h
  split at h
  · cases h
  · split at h
    · split at h
      · split at h
        · cases h
        · rename_i a' q ha
          have := pArg_len ha
          split at h
          · cases h
            simp only [List.length_drop] at this ⊢; omega
          · cases h
      · cases h
    · cases h
theorem pDirsF_len : ∀ {f : Nat} {l r : List Tk} {bs : List Di}, pDirsF f l = some (bs, r) → r.length ≤ l.length
  | 0, _, _, _, h => by cases h
  | f + 1, l, r, bs, h => by
    unfold pDirsF at h
    split at h
    · split at h
      · cases h
      · rename_i a q ha
        obtain ⟨x, hx, he⟩ := Option.map_eq_some_iff.1 h
        cases he
        have h1 := pDir_len ha
        have h2 := pDirsF_len (bs := x.1) (r := x.2) hx
        simp only [List.length_drop] at h1; omega
    · cases h; exact Nat.le_refl _
theorem pDirsF_fuel : ∀ (f g : Nat) (l : List Tk), l.length < f → l.length < g → pDirsF f l = pDirsF g l
  | 0, _, _, h, _ => by omega
  | _ + 1, 0, _, _, h => by omega
  | f + 1, g + 1, l, h1, h2 => by
    unfold pDirsF
    split
    · cases ha : pDir (l.drop 1) with
      | none => rfl
      | some x =>
        obtain ⟨a, r⟩ := x
        have := pDir_len ha
        simp only [List.length_drop] at this
        simp only
        rw [pDirsF_fuel f g r (by omega) (by omega)]
    · rfl
theorem pDirs_eq (l : List Tk) : pDirs l = if atM [64] l then
      (match pDir (l.drop 1) with
      | none => none
      | some (a, r) => (pDirs r).map fun x => (a :: x.1, x.2))
      else some ([], l) := by
  unfold pDirs
  rw [pDirsF]
  split
  · cases ha : pDir (l.drop 1) with
    | none => rfl
    | some x =>
      obtain ⟨a, r⟩ := x
      have := pDir_len ha
      simp only [List.length_drop] at this
      simp only
      rw [pDirsF_fuel l.length (r.length + 1) r (by omega) (by omega)]
  · rfl
theorem pDirs_len {l r : List Tk} {bs : List Di} (h : pDirs l = some (bs, r)) : r.length ≤ l.length := pDirsF_len h
theorem pArgs_len {l r : List Tk} {bs : List Ar} (h : pArgs l = some (bs, r)) : r.length < l.length := pArgsF_len h
theorem pArgsAny_len {l r : List Tk} {bs : List Ar} (h : pArgsAny l = some (bs, r)) : r.length ≤ l.length := by
  unfold pArgsAny at h
  split at h
  · split at h
    · rename_i a cs q ha
      cases h
      have := pArgs_len ha
      simp only [List.length_drop] at this; omega
    · cases h
  · cases h; exact Nat.le_refl _
theorem pHead_len {l r : List Tk} {h : Hd} {b : Bool} (hh : pHead l = some (h, b, r)) : r.length < l.length := by
  unfold pHead at hh
  split at hh
  · rename_i hm
    have h0 := atM_len hm
    split at hh
    · obtain ⟨x, hx, he⟩ := Option.map_eq_some_iff.1 hh
      cases he
      have := pDirs_len (bs := x.1) (r := x.2) hx
      simp only [List.length_drop] at this; omega
    · split at hh
      · split at hh
        · cases hh
        · obtain ⟨x, hx, he⟩ := Option.map_eq_some_iff.1 hh
          cases he
          have := pDirs_len (bs := x.1) (r := x.2) hx
          simp only [List.length_drop] at this; omega
      · obtain ⟨x, hx, he⟩ := Option.map_eq_some_iff.1 hh
        cases he
        have := pDirs_len (bs := x.1) (r := x.2) hx
        simp only [List.length_drop] at this; omega
  · split at hh
    · cases hh
    · rename_i nm hn
      have h0 := nmAt_len hn
      split at hh
      · split at hh
        · cases hh
        · obtain ⟨x, hx, hy⟩ := Option.bind_eq_some_iff.1 hh
          obtain ⟨y, hy2, he⟩ := Option.map_eq_some_iff.1 hy
          cases he
          have h1 := pArgsAny_len (bs := x.1) (r := x.2) hx
          have h2 := pDirs_len (bs := y.1) (r := y.2) hy2
          simp only [List.length_drop] at h1; omega
      · obtain ⟨x, hx, hy⟩ := Option.bind_eq_some_iff.1 hh
        obtain ⟨y, hy2, he⟩ := Option.map_eq_some_iff.1 hy
        cases he
        have h1 := pArgsAny_len (bs := x.1) (r := x.2) hx
        have h2 := pDirs_len (bs := y.1) (r := y.2) hy2
        simp only [List.length_drop] at h1; omega
end Go.Proofs.YtlilfbcngncllaaGreatDoor
