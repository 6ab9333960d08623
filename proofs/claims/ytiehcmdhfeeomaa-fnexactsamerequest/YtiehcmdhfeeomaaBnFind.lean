/- Names that come once: what they are; bindings' names are found by a map. -/
import Derived.Test.YtiehcmdhfeeomaaBinds
import Derived.Maps.OwnSet
namespace Go.Proofs.Ytiehcmdhfeeomaa.B
open Go.ChangeShapes Go.WideShapes Go.ChangeAt Go.RowKit Go.Maps
open Go.WideMaps (keyOf_string_mk)
set_option linter.unusedVariables false

def seen (ns : List ByteArray) (s : ByteArray) : Bool := ns.any fun t => t.toList == s.toList
/-- All are names, and none comes twice. -/
def OkN (ns : List ByteArray) : Prop := ∀ j (h : j < ns.length), nameB ns[j] = true ∧ seen (ns.take j) ns[j] = false
/-- r is the first place of s, or -1. -/
def Fi (ns : List ByteArray) (s : ByteArray) (r : Int) : Prop := (r = -1 ∧ seen ns s = false) ∨ ∃ j, ∃ h : j < ns.length, r = j ∧ (ns[j].toList == s.toList) = true ∧ seen (ns.take j) s = false
theorem seen_take {ns : List ByteArray} {s : ByteArray} {k : Nat} (hk : k < ns.length) : seen (ns.take (k + 1)) s = (seen (ns.take k) s || (ns[k].toList == s.toList)) := by
  unfold seen; rw [List.take_succ_eq_append_getElem hk, List.any_append]; simp
theorem seen_of {ns : List ByteArray} {s : ByteArray} {k j : Nat} (hk : k < ns.length) (hj : k < j) (h : (ns[k].toList == s.toList) = true) : seen (ns.take j) s = true := by
  unfold seen
  rw [List.any_eq_true]
  exact ⟨ns[k], by rw [List.mem_take_iff_getElem]; exact ⟨k, by omega, rfl⟩, h⟩
theorem seen_of' {ns : List ByteArray} {s : ByteArray} {k : Nat} (hk : k < ns.length) (h : (ns[k].toList == s.toList) = true) : seen ns s = true := by
  unfold seen
  rw [List.any_eq_true]
  exact ⟨ns[k], List.getElem_mem hk, h⟩
theorem Fi.neg {ns : List ByteArray} {s : ByteArray} {r : Int} (h : Fi ns s r) : (r < 0 ∧ seen ns s = false) ∨ (¬ r < 0 ∧ seen ns s = true) := by
  rcases h with ⟨rfl, h⟩ | ⟨j, hj, rfl, h1, h2⟩
  · exact .inl ⟨by omega, h⟩
  · exact .inr ⟨by omega, seen_of' hj h1⟩
theorem Fi.at_ {ns : List ByteArray} {i : Nat} (hi : i < ns.length) {r : Int} (h : Fi ns ns[i] r) : (r = i ∧ seen (ns.take i) ns[i] = false) ∨ (r ≠ i ∧ seen (ns.take i) ns[i] = true) := by
  rcases h with ⟨rfl, h⟩ | ⟨j, hj, rfl, h1, h2⟩
  · have := seen_of' hi (s := ns[i]) (by simp)
    rw [h] at this; cases this
  · by_cases hji : j = i
    · subst hji; exact .inl ⟨rfl, h2⟩
    · by_cases hlt : j < i
      · exact .inr ⟨by omega, seen_of hj hlt h1⟩
      · have := seen_of (s := ns[i]) hi (show i < j by omega) (by simp)
        rw [h2] at this; cases this
theorem OkN.next {ns : List ByteArray} {k : Nat} (hk : k < ns.length) (h : ∀ j (hj : j < ns.length), j < k → nameB ns[j] = true ∧ seen (ns.take j) ns[j] = false) (h1 : nameB ns[k] = true) (h2 : seen (ns.take k) ns[k] = false) :
    ∀ j (hj : j < ns.length), j < k + 1 → nameB ns[j] = true ∧ seen (ns.take j) ns[j] = false := by
  intro j hj hlt
  by_cases hjk : j = k
  · subst hjk; exact ⟨h1, h2⟩
  · exact h j hj (by omega)

/-- A map that holds each of some names at its place. -/
def Held (w : World) (B : Nat) (ns : List ByteArray) : Prop := ∃ D : DataW Unit, w.ownsMap Try.prog 9 (plainElem Try.prog 3) B ns.length D ∧
  (∀ s : ByteArray, Maps.has D (.string s.toList) = seen ns s) ∧ ∀ i (h : i < ns.length), D.atKey (.string ns[i].toList) (.lit (.int .i64 0)) = .lit (.int .i64 i)
theorem law9 : Keyed Try.prog 9 := string_keyed Try.underlying9
theorem zero3 (w : World) : (zeroValue 3).run Try.prog w = .ok (.int .i64 0) w := by kernel_rfl
theorem make_map (n : Int) (w : World) : (Instr.makeMap 118 (some (.int .i64 n))).run Try.prog w = .ok (.map (some w.heap.size)) (w.alloc (.map #[] 0)) := by kernel_rfl
theorem key_of {s : ByteArray} (hs : s.size ≤ maxLen) : keyOf Try.prog 9 (.string s) = some (.string s.toList) := by
  rw [ByteArray.toList_eq]; exact keyOf_string_mk Try.underlying9 hs
theorem Held.lt {w : World} {B : Nat} {ns : List ByteArray} (h : Held w B ns) : B < w.heap.size := by
  obtain ⟨D, h, _⟩ := h
  exact h.lt
theorem Held.keep {w w' : World} {B C : Nat} {ns : List ByteArray} (h : Held w B ns) (hb : Below C w w') (hB : B < C) : Held w' B ns := by
  obtain ⟨D, ⟨es, clock, h1, h2⟩, h3⟩ := h
  exact ⟨D, ⟨es, clock, (hb.block B hB).trans h1, h2⟩, h3⟩
theorem Held.none (w : World) : Held (w.alloc (.map #[] 0)) w.heap.size [] :=
  ⟨.map [], World.ownsMap_made _ _ _ _, fun s => rfl, fun i h => by simp at h⟩
theorem key_ne {s t : ByteArray} (h : (t.toList == s.toList) = false) : Lit.string s.toList ≠ Lit.string t.toList := by
  intro e
  simp only [Lit.string.injEq] at e
  rw [e] at h; simp at h
theorem Held.put {w' : World} {B : Nat} {ns : List ByteArray} {t : ByteArray} {D : DataW Unit} (hD : IsMap D) (hn : seen ns t = false)
    (h1 : ∀ s : ByteArray, Maps.has D (.string s.toList) = seen ns s) (h2 : ∀ i (h : i < ns.length), D.atKey (.string ns[i].toList) (.lit (.int .i64 0)) = .lit (.int .i64 i))
    (h : w'.ownsMap Try.prog 9 (plainElem Try.prog 3) B (ns.length + 1) (D.put (.string t.toList) (.lit (.int .i64 ns.length)))) : Held w' B (ns ++ [t]) := by
  refine ⟨_, by rw [List.length_append]; exact h, fun s => ?_, fun i hi => ?_⟩
  · by_cases hs : (t.toList == s.toList) = true
    · have e : s.toList = t.toList := by simpa using (beq_iff_eq.1 hs).symm
      rw [e, has_put_same (k := .string t.toList) hD trivial]
      unfold seen; rw [List.any_append]; simp [e]
    · have hs : (t.toList == s.toList) = false := by simpa using hs
      rw [has_put_other (key_ne hs), h1]
      unfold seen; rw [List.any_append]; simp [hs]
  · by_cases hlt : i < ns.length
    · rw [List.getElem_append_left hlt]
      have hne : (t.toList == ns[i].toList) = false := by
        cases hc : (t.toList == ns[i].toList)
        · rfl
        · have := seen_of' hlt (s := t) (by rw [beq_iff_eq] at hc; simp [hc])
          rw [hn] at this; cases this
      rw [atKey_put_other (key_ne hne), h2 i hlt]
    · have hi' : i = ns.length := by simp at hi; omega
      subst hi'
      rw [List.getElem_append_right (Nat.le_refl _)]
      simp only [Nat.sub_self, List.getElem_cons_zero]
      rw [atKey_put_same (k := .string t.toList) hD trivial]

set_option maxHeartbeats 1000000 in
theorem impl_has (B : Nat) (ns : List ByteArray) (s : ByteArray) (w : World) (h : Held w B ns) (hs : s.size ≤ maxLen) :
    Calls Try.prog 87 #[.map (some B), .string s] w fun e w' => e = .returned (.bool (seen ns s)) ∧ Below w.heap.size w w' := by
  obtain ⟨D, hown, hh, _⟩ := h
  have hkey := key_of hs
  have HN : Hid (Maps.has D (.string s.toList) = seen ns s) := hh s
  clear hh
  go_enter Try.func87, Try.ntmps87
  go_wp2_with (first
    | (at_lookup; refine wpList_lookup_own_ok_int _ rfl _ _ 118 rfl 9 3 .i64 law9 Try.underlying118 Try.underlying3 (zero3 _) B ns.length _ rfl hown _ _ rfl hkey ?_; intro c hat hwc)
    | go_in)
  go_ret
  exact ⟨ret_bool HN.out, by repeat (first | exact Below.refl _ _ | refine Below.alloc ?_ (by first | omega | (simp <;> omega)) _)⟩

instance (ns : List ByteArray) : Decidable (OkN ns) := by unfold OkN; infer_instance
set_option maxHeartbeats 1000000 in
theorem impl_nm_Bn (x : Ar) (w : World) :
    Calls Try.prog 71 #[.agg #[.string x.nm, .int .i64 x.v.k, .int .i64 x.v.n, .string x.v.t]] w fun e w' => e = .returned (.string x.nm) ∧ Below w.heap.size w w' := by
  go_enter Try.func71, Try.ntmps71
  go_wp2_with fail
  go_ret
  exact ⟨rfl, (Below.refl _ _).alloc (Nat.le_refl _) _⟩
set_option maxHeartbeats 2000000 in
set_option maxRecDepth 40000 in
theorem impl_places_Bn (a : Option Addr) (c : Nat) (l : List Ar) (w : World) (hr : ArRow 0 w.heap.size w a l) (hl : l.length ≤ 1048576) (ht : ∀ x ∈ l, x.nm.size ≤ 1048576) :
    Calls Try.prog 70 #[.slice a l.length c, .func (.func 71) #[] #[]] w fun e w' => Below w.heap.size w w' ∧
      ((∃ B, e = .returned (.tuple #[.map (some B), .bool true]) ∧ OkN (l.map Ar.nm) ∧ w.heap.size ≤ B ∧ Held w' B (l.map Ar.nm)) ∨ (e = .returned (.tuple #[.map none, .bool false]) ∧ ¬ OkN (l.map Ar.nm))) := by
  have hmm := make_map l.length w
  have HR : Hid (ArRow 0 w.heap.size w a l) := hr
  have HT : Hid (∀ x ∈ l, x.nm.size ≤ 1048576) := ht
  clear hr ht
  go_enter Try.func70, Try.ntmps70
  go_wp2_with fail
  clear hmm
  go_loopw [15] (fun i w' => ∃ (k : Nat), k ≤ l.length ∧ i = .int .i64 k ∧ Below w.heap.size w w' ∧ Hid (Held w' w.heap.size ((l.map Ar.nm).take k)) ∧ Hid (∀ j (hj : j < (l.map Ar.nm).length), j < k → nameB (l.map Ar.nm)[j] = true ∧ seen ((l.map Ar.nm).take j) (l.map Ar.nm)[j] = false)) (fun i _ => l.length - (intOf i).toNat)
  case atStart => exact ⟨0, by omega, rfl, (Below.refl _ _).alloc (Nat.le_refl _) _, Held.none w, fun j hj h => by omega⟩
  case round =>
    rename_i wr
    obtain ⟨k, hk, rfl, hb, HM, HA⟩ := hrel
    by_cases hlt : k < l.length
    · obtain ⟨b, o, ha, _, hbl, d0, d1, d2, d3⟩ := (HR.out.keep (Below.agree hb (Nat.le_refl _))).cells_ar k hlt
      subst ha
      have hlt2 : k < (l.map Ar.nm).length := by simpa using hlt
      have sx : l[k].nm.size ≤ maxLen := by have := HT.out l[k] (List.getElem_mem hlt); unfold maxLen; omega
      have hN := HM.out.lt
      have HE : Hid ((l.map Ar.nm)[k] = l[k].nm) := by simp [Hid]
      go_wp2_with fail
      refine (impl_nm_Bn l[k] _).mono ?_
      rintro e w1 ⟨rfl, hb1⟩
      have p1 : Below wr.heap.size wr w1 := by
        refine Below.trans ?_ (hb1.mono (by first | omega | (simp <;> omega)))
        repeat (first | exact Below.refl _ _ | refine Below.setCell ?_ (by first | omega | (simp <;> omega)) _ | refine Below.alloc ?_ (by first | omega | (simp <;> omega)) _)
      have P1 : Hid _ := p1
      clear hb1 p1
      go_wp2_with fail
      refine (impl_nameOK l[k].nm _ sx).mono ?_
      cases hm : nameB l[k].nm
      · rintro e w2 ⟨rfl, hb2⟩
        have HN : Hid (¬ OkN (l.map Ar.nm)) := fun h => by have := (h k hlt2).1; rw [HE.out, hm] at this; cases this
        go_wp2_with fail
        go_ret2
        exact ⟨hb.trans ((P1.out.trans (hb2.mono P1.out.size)).mono hb.size), .inr ⟨rfl, HN.out⟩⟩
      rintro e w2 ⟨rfl, hb2⟩
      have P2 : Hid (Below wr.heap.size wr w2) := P1.out.trans (hb2.mono P1.out.size)
      have HM2 : Hid (Held w2 w.heap.size ((l.map Ar.nm).take k)) := HM.out.keep P2.out hN
      clear hb2
      go_wp2_with fail
      refine (impl_has w.heap.size ((l.map Ar.nm).take k) l[k].nm _ HM2.out sx).mono ?_
      cases hs : seen ((l.map Ar.nm).take k) l[k].nm
      case true =>
        rintro e w3 ⟨rfl, hb3⟩
        have HN : Hid (¬ OkN (l.map Ar.nm)) := fun h => by have := (h k hlt2).2; rw [HE.out, hs] at this; cases this
        go_wp2_with fail
        go_ret2
        exact ⟨hb.trans ((P2.out.trans (hb3.mono P2.out.size)).mono hb.size), .inr ⟨rfl, HN.out⟩⟩
      rintro e w3 ⟨rfl, hb3⟩
      have P3 : Hid (Below wr.heap.size wr w3) := P2.out.trans (hb3.mono P2.out.size)
      have HM3 : Hid (Held w3 w.heap.size ((l.map Ar.nm).take k)) := HM2.out.keep hb3 HM2.out.lt
      clear hb3
      obtain ⟨D, hown, h1, h2⟩ := HM3.out
      have htl : ((l.map Ar.nm).take k).length = k := by simp; omega
      rw [htl] at hown
      have H1 : Hid _ := h1
      have H2 : Hid _ := h2
      have hkey := key_of sx
      clear h1 h2
      go_wp2_with (first
        | (at_mapUpdate; refine wpList_mapUpdate_own _ rfl _ _ _ 118 rfl 9 3 law9 Try.underlying118 _ w.heap.size k _ rfl hown (by unfold maxLen; omega) _ _ _ rfl rfl hkey _ [] (plainElem_int Try.underlying3 (WalkArith.wf_i64 (by omega))) ?_; intro w4 hown4 hgrow4)
        | go_in)
      have HM4 : Hid (Held w4 w.heap.size ((l.map Ar.nm).take (k + 1))) := by
        have := Held.put (w' := w4) (B := w.heap.size) (t := l[k].nm) (ns := (l.map Ar.nm).take k) (hown.isMap) hs H1.out H2.out (by rw [htl]; exact hown4)
        rw [List.take_succ_eq_append_getElem hlt2, HE.out]; exact this
      have q4 : Hid (Below w.heap.size w w4) := (hb.trans (P3.out.mono hb.size)).grown hgrow4 (hb.trans (P3.out.mono hb.size)).size (fun j hj => by cases hj; exact Nat.le_refl _)
      have HA2 : Hid _ := OkN.next hlt2 HA.out (by rw [HE.out]; exact hm) (by rw [HE.out]; exact hs)
      go_roundw
      case rel => exact ⟨k + 1, by omega, by go_num, q4.out, HM4, HA2⟩
      case measure => simp [intOf]; omega
    · have HN : Hid (OkN (l.map Ar.nm) ∧ Held wr w.heap.size (l.map Ar.nm)) := by
        have h1 := HM.out
        rw [List.take_of_length_le (by simpa using hlt)] at h1
        exact ⟨fun j hj => HA.out j hj (by simp at hj; omega), h1⟩
      go_wp2_with fail
      go_ret2
      exact ⟨hb, .inl ⟨_, rfl, HN.out.1, Nat.le_refl _, HN.out.2⟩⟩

end Go.Proofs.Ytiehcmdhfeeomaa.B
