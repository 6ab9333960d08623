/- CheckTypes: the program's spots: a selection, its type and its field. -/
import Derived.Test.YtjkkphfdcoejlaaGreatTyArgs
namespace Go.Proofs.YtjkkphfdcoejlaaGreat
open Go.ChangeShapes Go.WideShapes Go.ChangeAt Go.RowKit
set_option linter.unusedVariables false

def fdW (x : G.Fd) (a : Option Addr) (c : Nat) : Value := .agg #[.string x.nm, .slice a x.args.length c, .string x.ty, .bool x.ls, .bool x.bg]
theorem ag_nil (lo hi : Nat) (w : World) (a : Option Addr) : G.AgRow lo hi w a [] := .inl rfl
theorem find_here {α : Type} {p : α → Bool} {l : List α} {k : Nat} (hk : k < l.length) (h : (l.take k).find? p = none) (h2 : p l[k] = true) : l.find? p = some l[k] := by
  have e : l.take k ++ l[k] :: l.drop (k + 1) = l := by rw [← List.drop_eq_getElem_cons hk, List.take_append_drop]
  have e2 : (l.take k ++ l[k] :: l.drop (k + 1)).find? p = some l[k] := by rw [List.find?_append, h, List.find?_cons, h2]; rfl
  rwa [e] at e2
/-- What fieldIn answers. -/
def InR (B : Nat) (w : World) (t : G.Td) (n : ByteArray) (e : Ending) : Prop := ∃ f af cf kn, e = .returned (.tuple #[fdW f af cf, .bool kn]) ∧ ((kn = false ∧ fldOf t n = none ∧ f = fd0) ∨ (kn = true ∧ fldOf t n = some f)) ∧ G.AgRow 0 B w af f.args
set_option maxHeartbeats 4000000 in
set_option maxRecDepth 40000 in
theorem fld_in (t : G.Td) (at_ : Option Addr) (ct : Nat) (n : ByteArray) (B : Nat) (w : World) (hB : B ≤ w.heap.size) (hr : G.FdRow 0 B w at_ t.fs) (hl : t.fs.length ≤ 1048576) :
    Calls Tryz.prog 90 #[.agg #[.string t.nm, .slice at_ t.fs.length ct], .string n] w fun e w' => InR B w t n e ∧ Below w.heap.size w w' := by
  have HR : Hid (G.FdRow 0 B w at_ t.fs) := hr
  clear hr
  cases e4 : (n.toList == [95, 95, 116, 121, 112, 101, 110, 97, 109, 101]) with
  | true =>
    have HN : Hid (InR B w t n (.returned (.tuple #[fdW fdTn none 0, .bool true]))) := ⟨fdTn, none, 0, true, rfl, .inr ⟨rfl, by unfold fldOf isTn; rw [e4]; rfl⟩, ag_nil _ _ _ _⟩
    go_enter Tryz.func90, Tryz.ntmps90
    go_wp2_with fail
    refine bodyPost_ret (v := .tuple #[fdW fdTn none 0, .bool true]) (by simp [results, Tryz.results90, go_sem, fdW, fdTn, G.bTn, G.bIn]) rfl ⟨HN.out, ?_⟩
    repeat (first | exact Below.refl _ _ | refine Below.setCell ?_ (by first | omega | (simp <;> omega)) _ | refine Below.alloc ?_ (by first | omega | (simp <;> omega)) _)
  | false =>
    have HE : Hid (fldOf t n = t.fs.find? fun f => f.nm.toList == n.toList) := by unfold Hid fldOf isTn; rw [e4]; rfl
    go_enter Tryz.func90, Tryz.ntmps90
    go_wp2_with fail
    go_loopw [14] (fun i w' => ∃ (k : Nat), k ≤ t.fs.length ∧ i = .int .i64 k ∧ Below (w.heap.size + 2) ((w.alloc (.cells #[.string t.nm, .slice at_ t.fs.length ct] 64)).alloc (.cells #[.string ⟨#[]⟩, .slice none 0 0, .string ⟨#[]⟩, .bool false, .bool false] 68)) w' ∧ Hid ((t.fs.take k).find? (fun f => f.nm.toList == n.toList) = none)) (fun i _ => t.fs.length - (intOf i).toNat)
    case atStart => exact ⟨0, by omega, rfl, Below.refl _ _, rfl⟩
    case round =>
      obtain ⟨k, hk, rfl, hb, HF⟩ := hrel
      have hbz : w.heap.size + 2 ≤ wr.heap.size := by have := hb.size; simpa using this
      have k11 := fun o => hb.cell (p := ⟨w.heap.size + 1, o, none⟩) (by first | omega | (simp <;> omega))
      have j11 := fun o => hb.frozen (p := ⟨w.heap.size + 1, o, none⟩) (by first | omega | (simp <;> omega))
      have HBW : Hid (Below w.heap.size w wr) := (((Below.refl _ _).alloc (Nat.le_refl _) _).alloc (by simp) _).trans (hb.mono (by omega))
      have HB : Hid _ := hb
      clear hb
      by_cases hlt : k < t.fs.length
      case neg =>
        have HN : Hid (InR B w t n (.returned (.tuple #[fdW fd0 none 0, .bool false]))) := ⟨fd0, none, 0, false, rfl, .inl ⟨rfl, by have := HF.out; rw [List.take_of_length_le (by omega)] at this; rw [HE.out, this], rfl⟩, ag_nil _ _ _ _⟩
        go_wp2_with fail
        refine bodyPost_ret (v := .tuple #[fdW fd0 none 0, .bool false]) (by simp [results, Tryz.results90, go_sem, fdW, fd0, k11]) rfl ⟨HN.out, ?_⟩
        repeat (first | exact HBW.out | refine Below.setCell ?_ (by first | omega | (simp <;> omega)) _ | refine Below.alloc ?_ (by first | omega | (simp <;> omega)) _)
      obtain ⟨b, o, a3, c3, ha, _, hbl, d0, d1, d2, d3, d4, r3⟩ := G.FdRow.cells (G.FdRow.keep HR.out (Below.agree HBW.out hB)) k hlt
      have hbl2 : b < w.heap.size := by omega
      obtain ⟨_, _, a3', c3', ha', _, _, _, d1', _, _, _, r3'⟩ := G.FdRow.cells HR.out k hlt
      have R3 : Hid (G.AgRow 0 B w a3 t.fs[k].args) := by
        rw [ha] at ha'
        injection ha' with h1; injection h1 with h1 h2
        subst h1 h2
        have := (HBW.out.cell (p := ⟨b, o + k * 5 + 1, none⟩) hbl2).symm.trans d1
        rw [d1'] at this
        injection this with h1; injection h1 with h1 h2 h3
        subst h1; exact r3'
      subst ha
      clear r3 r3' d1' ha'
      cases e5 : (t.fs[k].nm.toList == n.toList) with
      | false =>
        have HF2 : Hid ((t.fs.take (k + 1)).find? (fun f => f.nm.toList == n.toList) = none) := by
          rw [Hid, List.take_succ_eq_append_getElem hlt, List.find?_append, HF.out]; simp [e5]
        go_wp2_with fail
        exact ⟨⟨k + 1, by omega, by go_num, HB.out.alloc (by omega) _, HF2⟩, by simp [intOf]; omega⟩
      | true =>
        have HN : Hid (InR B w t n (.returned (.tuple #[fdW t.fs[k] a3 c3, .bool true]))) := by
          refine ⟨t.fs[k], a3, c3, true, rfl, .inr ⟨rfl, ?_⟩, R3.out⟩
          rw [HE.out]
          exact find_here hlt HF.out e5
        have k12 := fun v o => (((Below.refl wr.heap.size wr).alloc (Nat.le_refl _) v).cell (p := ⟨w.heap.size + 1, o, none⟩) (show w.heap.size + 1 < _ by omega)).trans (k11 o)
        have j12 := fun v o => (((Below.refl wr.heap.size wr).alloc (Nat.le_refl _) v).frozen (p := ⟨w.heap.size + 1, o, none⟩) (show w.heap.size + 1 < _ by omega)).trans (j11 o)
        go_wp2_with fail
        refine bodyPost_ret (v := .tuple #[fdW t.fs[k] a3 c3, .bool true]) (by simp [results, Tryz.results90, go_sem, fdW, k12]) rfl ⟨HN.out, ?_⟩
        repeat (first | exact HBW.out | refine Below.setCell ?_ (by first | omega | (simp <;> omega)) _ | refine Below.alloc ?_ (by first | omega | (simp <;> omega)) _)

set_option maxHeartbeats 1000000 in
theorem type_def (x : De) (a : Option Addr) (n c : Nat) (w : World) :
    Calls Tryz.prog 42 #[.agg #[.int .i64 x.k, .string x.nm, .string x.on, .slice a n c]] w fun e w' => e = .returned (.string (tyNm x)) ∧ Below w.heap.size w w' := by
  unfold tyNm
  by_cases h1 : x.k = 1
  · rw [h1]
    go_enter Tryz.func42, Tryz.ntmps42
    go_wp2_with fail
    go_ret
    exact ⟨rfl, (Below.refl _ _).alloc (Nat.le_refl _) _⟩
  have e1 : (x.k == 1) = false := by simpa using h1
  rw [if_neg h1]
  by_cases h2 : x.k = 2
  · rw [h2]
    go_enter Tryz.func42, Tryz.ntmps42
    go_wp2_with fail
    go_ret
    exact ⟨rfl, (Below.refl _ _).alloc (Nat.le_refl _) _⟩
  have e2 : (x.k == 2) = false := by simpa using h2
  rw [if_neg h2]
  go_enter Tryz.func42, Tryz.ntmps42
  go_wp2_with fail
  go_ret
  exact ⟨rfl, (Below.refl _ _).alloc (Nat.le_refl _) _⟩
end Go.Proofs.YtjkkphfdcoejlaaGreat
