/- The specification's own copy of an answer's value. -/
import Derived.Test.YtjmkcbjfjejaaaaOuOwnMath
import Derived.Test.YtjmkcbjfjejaaaaGRegion
namespace Go.Proofs.Ytjmkcbjfjejaaaa.G
open Go.ChangeShapes Go.WideShapes Go.ChangeAt Go.RowKit
set_option linter.unusedVariables false

def dstO (i : Nat) : Nat := if i = 12 then 3 else i + 5
theorem dstO_inj (i j : Nat) (hi : i < 13) (hj : j < 13) (h : dstO i = dstO j) : i = j := by
  unfold dstO at h
  split at h <;> split at h <;> omega
def OwnS (h : Oh) (sub : Ous) : Prop := ∀ (a1 a2 : Option Addr) (c1 c2 : Nat) (w : World), KeRow 0 w.heap.size w a1 h.keys → OuRow 0 w.heap.size w a2 sub → OhBd 1048576 h → sub.len ≤ 1048576 → OusBd 1048576 sub →
    Calls Try.prog 27 #[.agg #[.int .i64 h.k, .int .i64 h.n, .string h.t, .slice a1 h.keys.length c1, .slice a2 sub.len c2]] w fun e w' => ∃ b1 d1 b2 d2, e = .returned (.agg #[.int .i64 h.k, .int .i64 h.n, .string h.t, .slice b1 h.keys.length d1, .slice b2 sub.len d2]) ∧ h.keys.length ≤ d1 ∧ KeRow w.heap.size w'.heap.size w' b1 h.keys ∧ OuRow w.heap.size w'.heap.size w' b2 sub ∧ Below w.heap.size w w'
/-- What the first region's operations tell. -/
def OsPv (w : World) (N0 : Nat) (h : Oh) (sub : Ous) (a1 a2 : Option Addr) (c1 c2 : Nat) : Nat → Value → World → Prop
  | 0, v, _ => v = .pointer (some ⟨w.heap.size, 0, none⟩)
  | 1, v, _ => v = .int .i64 h.k
  | 2, v, _ => v = .pointer (some ⟨w.heap.size, 1, none⟩)
  | 3, v, _ => v = .int .i64 h.n
  | 4, v, _ => v = .pointer (some ⟨w.heap.size, 2, none⟩)
  | 5, v, _ => v = .string h.t
  | 6, v, _ => ∃ g, v = .slice g 0 0
  | 7, v, _ => v = .pointer (some ⟨w.heap.size, 3, none⟩)
  | 8, v, _ => v = .slice a1 h.keys.length c1
  | 9, v, W => ∃ b d, v = .slice b h.keys.length d ∧ h.keys.length ≤ d ∧ KeOwn N0 W.heap.size W b h.keys
  | 10, v, W => ∃ g, v = .slice (some ⟨g, 0, none⟩) 0 0 ∧ N0 ≤ g ∧ W.heap[g]? = some (.cells #[] 30 (0, 0))
  | 11, v, W => ∃ b d g, v = .agg #[.int .i64 h.k, .int .i64 h.n, .string h.t, .slice b h.keys.length d, .slice (some ⟨g, 0, none⟩) 0 0] ∧ h.keys.length ≤ d ∧ KeOwn N0 W.heap.size W b h.keys ∧ N0 ≤ g ∧ W.heap[g]? = some (.cells #[] 30 (0, 0))
  | 12, v, W => ∃ B, v = .pointer (some ⟨B, 0, none⟩) ∧ N0 ≤ B ∧ W.heap[B]? = some (.cells #[.int .i64 0, .int .i64 0, .string ⟨#[]⟩, .slice none 0 0, .slice none 0 0] 30 (0, 0))
  | _, _, _ => True
theorem OsPv.up {w : World} {N0 : Nat} {h : Oh} {sub : Ous} {a1 a2 : Option Addr} {c1 c2 : Nat} (i : Nat) (v : Value) (W W' : World) (H : OsPv w N0 h sub a1 a2 c1 c2 i v W) (hb : Below W.heap.size W W') : OsPv w N0 h sub a1 a2 c1 c2 i v W' := by
  have bl : ∀ {g : Nat} {o : Obj}, W.heap[g]? = some o → W'.heap[g]? = some o := fun hg => (hb.block _ (Array.getElem?_eq_some_iff.1 hg).1).trans hg
  unfold OsPv at H ⊢
  split at H
  case h_10 => obtain ⟨b, d, e1, e2, e3⟩ := H; exact ⟨b, d, e1, e2, (e3.keep (agree hb (Nat.le_refl _))).wide (Nat.le_refl _) hb.size⟩
  case h_11 => obtain ⟨g, e1, e2, e3⟩ := H; exact ⟨g, e1, e2, bl e3⟩
  case h_12 => obtain ⟨b, d, g, e1, e2, e3, e4, e5⟩ := H; exact ⟨b, d, g, e1, e2, (e3.keep (agree hb (Nat.le_refl _))).wide (Nat.le_refl _) hb.size, e4, bl e5⟩
  case h_13 => obtain ⟨B, e1, e2, e3⟩ := H; exact ⟨B, e1, e2, bl e3⟩
  all_goals exact H
/-- What the second region's operations tell. -/
def OtPv (B S N k : Nat) (v : Value) (A pk : Value) (h : Oh) (sub : Ous) (a1 a2 : Option Addr) (c1 c2 : Nat) : Nat → Value → World → Prop
  | 0, y, _ => y = .pointer (some ⟨B, 4, none⟩)
  | 1, y, _ => y = v
  | 2, y, _ => y = .pointer (some ⟨S, 4, none⟩)
  | 3, y, _ => y = A
  | 4, y, _ => y = .int .i64 k
  | 5, y, _ => y = pk
  | 6, y, _ => y = .agg #[.int .i64 h.k, .int .i64 h.n, .string h.t, .slice a1 h.keys.length c1, .slice a2 sub.len c2]
  | 7, y, W => ∃ b1 d1 b2 d2, y = .agg #[.int .i64 h.k, .int .i64 h.n, .string h.t, .slice b1 h.keys.length d1, .slice b2 sub.len d2] ∧ h.keys.length ≤ d1 ∧ KeRow N W.heap.size W b1 h.keys ∧ OuRow N W.heap.size W b2 sub
  | 8, y, W => ∃ g b1 d1 b2 d2, y = .slice (some ⟨g, 0, none⟩) 1 1 ∧ N ≤ g ∧ W.heap[g]? = some (.cells #[.int .i64 h.k, .int .i64 h.n, .string h.t, .slice b1 h.keys.length d1, .slice b2 sub.len d2] 30 (0, 0)) ∧ h.keys.length ≤ d1 ∧ KeRow N W.heap.size W b1 h.keys ∧ OuRow N W.heap.size W b2 sub
  | 9, _, _ => True
  | 10, y, _ => y = .pointer (some ⟨B, 4, none⟩)
  | _, _, _ => True
theorem OtPv.up {B S N k : Nat} {v : Value} {A pk : Value} {h : Oh} {sub : Ous} {a1 a2 : Option Addr} {c1 c2 : Nat} {W W' : World} (hs : W.heap.size ≤ W'.heap.size) (hk : ∀ g, N ≤ g → g < W.heap.size → W'.heap[g]? = W.heap[g]?) {i : Nat} {y : Value} (H : OtPv B S N k v A pk h sub a1 a2 c1 c2 i y W) : OtPv B S N k v A pk h sub a1 a2 c1 c2 i y W' := by
  unfold OtPv at H ⊢
  split at H
  case h_8 => obtain ⟨b1, d1, b2, d2, e1, e2, e3, e4⟩ := H; exact ⟨b1, d1, b2, d2, e1, e2, KeRow.wide (KeRow.keep e3 hk) (Nat.le_refl _) hs, OuRow.wide (OuRow.keep e4 hk) (Nat.le_refl _) hs⟩
  case h_9 => obtain ⟨g, b1, d1, b2, d2, e1, e2, e3, e4, e5, e6⟩ := H; exact ⟨g, b1, d1, b2, d2, e1, e2, (hk g e2 (Array.getElem?_eq_some_iff.1 e3).1).trans e3, e4, KeRow.wide (KeRow.keep e5 hk) (Nat.le_refl _) hs, OuRow.wide (OuRow.keep e6 hk) (Nat.le_refl _) hs⟩
  all_goals exact H
theorem five_one {k n : Int} {t : ByteArray} {b1 b2 : Option Addr} {n1 n2 f1 f2 : Nat} : ∀ u ∈ ([.int .i64 k, .int .i64 n, .string t, .slice b1 n1 f1, .slice b2 n2 f2] : List Value), u.oneCell' = true := by
  intro u hu
  simp only [List.mem_cons, List.not_mem_nil, or_false] at hu
  rcases hu with rfl | rfl | rfl | rfl | rfl <;> rfl
set_option maxHeartbeats 16000000 in
set_option maxRecDepth 40000 in
theorem spec_own (sub : Ous) : ∀ h : Oh, OwnS h sub := by
  induction hN : sub.size using Nat.strongRecOn generalizing sub with
  | _ N ih =>
  subst hN
  intro h a1 a2 c1 c2 w r1 r2 hb hl hs
  have IH : Hid (∀ (s : Ous) (h' : Oh), s.size < sub.size → OwnS h' s) := fun s h' hlt => ih s.size hlt s rfl h'
  clear ih
  obtain ⟨x1, x2, x3⟩ := hb
  have HS : Hid _ := hs
  clear hs x3
  obtain ⟨V, hV⟩ : ∃ V, V = (w.alloc (.cells #[.int .i64 h.k, .int .i64 h.n, .string h.t, .slice a1 h.keys.length c1, .slice a2 sub.len c2] 30)).alloc (.cells #[.int .i64 0, .int .i64 0, .string ⟨#[]⟩, .slice none 0 0, .slice none 0 0] 30) := ⟨_, rfl⟩
  have BV : Below w.heap.size w V := by
    rw [hV]
    repeat (first | exact Below.refl _ _ | refine Below.alloc ?_ (by first | omega | (simp <;> omega)) _)
  have e1 : V.heap[w.heap.size + 1]? = some (.cells #[.int .i64 0, .int .i64 0, .string ⟨#[]⟩, .slice none 0 0, .slice none 0 0] 30 (0, 0)) := by
    rw [hV]
    have := heap_alloc_new (w.alloc (.cells #[.int .i64 h.k, .int .i64 h.n, .string h.t, .slice a1 h.keys.length c1, .slice a2 sub.len c2] 30)) (.cells #[.int .i64 0, .int .i64 0, .string ⟨#[]⟩, .slice none 0 0, .slice none 0 0] 30 (0, 0))
    simpa using this
  have e0 : V.heap[w.heap.size]? = some (.cells #[.int .i64 h.k, .int .i64 h.n, .string h.t, .slice a1 h.keys.length c1, .slice a2 sub.len c2] 30 (0, 0)) := by
    rw [hV]
    refine (Below.heap_alloc _ _ _ (by simp)).trans ?_
    exact heap_alloc_new _ _
  have zV : V.heap.size = w.heap.size + 2 := by rw [hV]; simp
  have KV : Hid (∀ W, Below V.heap.size V W → (∀ o, W.cell? ⟨w.heap.size, o, none⟩ = (#[.int .i64 h.k, .int .i64 h.n, .string h.t, .slice a1 h.keys.length c1, .slice a2 sub.len c2] : Array Value)[o]?) ∧ W.heap[w.heap.size + 1]? = some (.cells #[.int .i64 0, .int .i64 0, .string ⟨#[]⟩, .slice none 0 0, .slice none 0 0] 30 (0, 0)) ∧ KeRow 0 W.heap.size W a1 h.keys ∧ Below w.heap.size w W) := fun W hW =>
    have hb := BV.trans (hW.mono BV.size)
    ⟨fun o => row_cell ((hW.block _ (by omega)).trans e0) o, (hW.block _ (by omega)).trans e1, KeRow.up r1 hb, hb⟩
  have HF0 : Hid (OuFrom 0 w.heap.size w a2 0 sub) := r2.from_
  have HBV : Hid _ := BV
  clear e0 e1 BV r1 r2
  go_enter Try.func27, Try.ntmps27
  go_wp2_with fail
  rw [← hV]
  clear hV
  refine region_rel (n := 13) (by kernel_rfl) (by kernel_rfl) (by kernel_rfl) (fun u => ⟨#[.agg #[.int .i64 h.k, .int .i64 h.n, .string h.t, .slice a1 h.keys.length c1, .slice a2 sub.len c2], .pointer (some ⟨w.heap.size, 0, none⟩), .pointer (some ⟨w.heap.size + 1, 0, none⟩), u 3, undef, u 5, u 6, u 7, u 8, u 9, u 10, u 11, u 12, u 13, u 14, u 15, u 16, undef, undef, undef, undef, undef, undef, undef, undef, undef, undef, undef, undef, undef, undef, undef, undef, undef, undef, undef], []⟩) (fun _ => undef) dstO dstO_inj (OsPv w V.heap.size h sub a1 a2 c1 c2) (fun _ _ => True) OsPv.up trivial ?step ?last
  case step =>
    intro u W i hi hB _ hdep
    obtain ⟨y0, y1, y2, y3⟩ := KV.out _ hB
    have Y2 : Hid _ := y2
    have hzW := hB.size
    have hcase : i = 0 ∨ i = 1 ∨ i = 2 ∨ i = 3 ∨ i = 4 ∨ i = 5 ∨ i = 6 ∨ i = 7 ∨ i = 8 ∨ i = 9 ∨ i = 10 ∨ i = 11 ∨ i = 12 := by omega
    clear hi y1 y2 y3 hB
    rcases hcase with rfl | rfl | rfl | rfl | rfl | rfl | rfl | rfl | rfl | rfl | rfl | rfl | rfl
    · clear hdep
      refine wpOp_step rfl (fun K hK => ?_)
      go_simp
      exact hK _ _ ⟨.pointer (some ⟨w.heap.size, 0, none⟩), by simp [upd, dstO], Below.refl _ _, rfl, trivial⟩
    · have d0 : u 5 = .pointer (some ⟨w.heap.size, 0, none⟩) := hdep _ rfl ⟨0, .data⟩ (by simp) rfl
      clear hdep
      refine wpOp_step rfl (fun K hK => ?_)
      go_simp
      exact hK _ _ ⟨.int .i64 h.k, by simp [upd, dstO, d0], Below.refl _ _, rfl, trivial⟩
    · clear hdep
      refine wpOp_step rfl (fun K hK => ?_)
      go_simp
      exact hK _ _ ⟨.pointer (some ⟨w.heap.size, 1, none⟩), by simp [upd, dstO], Below.refl _ _, rfl, trivial⟩
    · have d2 : u 7 = .pointer (some ⟨w.heap.size, 1, none⟩) := hdep _ rfl ⟨2, .data⟩ (by simp) rfl
      clear hdep
      refine wpOp_step rfl (fun K hK => ?_)
      go_simp
      exact hK _ _ ⟨.int .i64 h.n, by simp [upd, dstO, d2], Below.refl _ _, rfl, trivial⟩
    · clear hdep
      refine wpOp_step rfl (fun K hK => ?_)
      go_simp
      exact hK _ _ ⟨.pointer (some ⟨w.heap.size, 2, none⟩), by simp [upd, dstO], Below.refl _ _, rfl, trivial⟩
    · have d4 : u 9 = .pointer (some ⟨w.heap.size, 2, none⟩) := hdep _ rfl ⟨4, .data⟩ (by simp) rfl
      clear hdep
      refine wpOp_step rfl (fun K hK => ?_)
      go_simp
      exact hK _ _ ⟨.string h.t, by simp [upd, dstO, d4], Below.refl _ _, rfl, trivial⟩
    · clear hdep y0
      refine wpOp_step rfl (fun K hK => ?_)
      go_simp
      exact hK _ _ ⟨.slice (some ⟨W.heap.size, 0, none⟩) 0 0, by simp [upd, dstO], (Below.refl _ _).alloc (Nat.le_refl _) _, ⟨_, rfl⟩, trivial⟩
    · clear hdep
      refine wpOp_step rfl (fun K hK => ?_)
      go_simp
      exact hK _ _ ⟨.pointer (some ⟨w.heap.size, 3, none⟩), by simp [upd, dstO], Below.refl _ _, rfl, trivial⟩
    · have d7 : u 12 = .pointer (some ⟨w.heap.size, 3, none⟩) := hdep _ rfl ⟨7, .data⟩ (by simp) rfl
      clear hdep
      refine wpOp_step rfl (fun K hK => ?_)
      go_simp
      exact hK _ _ ⟨.slice a1 h.keys.length c1, by simp [upd, dstO, d7], Below.refl _ _, rfl, trivial⟩
    · obtain ⟨g6, d6⟩ : ∃ g, u 11 = .slice g 0 0 := hdep _ rfl ⟨6, .data⟩ (by simp) rfl
      have d8 : u 13 = .slice a1 h.keys.length c1 := hdep _ rfl ⟨8, .data⟩ (by simp) rfl
      obtain ⟨a9, f9, W9, hrun, hf, ho, hb9⟩ := app_keys h.keys a1 g6 c1 W Y2.out x2
      clear hdep y0
      refine wpOp_step rfl (fun K hK => ?_)
      refine wp_append_run (.tmp 11) (.tmp 13) _ rfl _ _ _ _ d6 d8 hrun ?_
      exact hK _ _ ⟨_, by simp [Act.put, upd, dstO, d6, d8], hb9, ⟨_, _, rfl, hf, ho.wide hzW (Nat.le_refl _)⟩, trivial⟩
    · clear hdep y0
      refine wpOp_step rfl (fun K hK => ?_)
      go_simp
      exact hK _ _ ⟨.slice (some ⟨W.heap.size, 0, none⟩) 0 0, by simp [upd, dstO], (Below.refl _ _).alloc (Nat.le_refl _) _, ⟨_, rfl, hzW, heap_alloc_new _ _⟩, trivial⟩
    · have d1 : u 6 = .int .i64 h.k := hdep _ rfl ⟨1, .data⟩ (by simp) rfl
      have d3 : u 8 = .int .i64 h.n := hdep _ rfl ⟨3, .data⟩ (by simp) rfl
      have d5 : u 10 = .string h.t := hdep _ rfl ⟨5, .data⟩ (by simp) rfl
      obtain ⟨b9, f9, d9, hf9, ho9⟩ : ∃ b d, u 14 = .slice b h.keys.length d ∧ h.keys.length ≤ d ∧ KeOwn V.heap.size W.heap.size W b h.keys := hdep _ rfl ⟨9, .data⟩ (by simp) rfl
      obtain ⟨g10, d10, hg10, hh10⟩ : ∃ g, u 15 = .slice (some ⟨g, 0, none⟩) 0 0 ∧ V.heap.size ≤ g ∧ W.heap[g]? = some (.cells #[] 30 (0, 0)) := hdep _ rfl ⟨10, .data⟩ (by simp) rfl
      clear hdep y0
      refine wpOp_step rfl (fun K hK => ?_)
      go_simp
      exact hK _ _ ⟨.agg #[.int .i64 h.k, .int .i64 h.n, .string h.t, .slice b9 h.keys.length f9, .slice (some ⟨g10, 0, none⟩) 0 0], by simp [upd, dstO, d1, d3, d5, d9, d10], Below.refl _ _, ⟨_, _, _, rfl, hf9, ho9, hg10, hh10⟩, trivial⟩
    · clear hdep y0
      refine wpOp_step rfl (fun K hK => ?_)
      go_simp
      exact hK _ _ ⟨.pointer (some ⟨W.heap.size, 0, none⟩), by simp [upd, dstO], (Below.refl _ _).alloc (Nat.le_refl _) _, ⟨_, rfl, hzW, heap_alloc_new _ _⟩, trivial⟩
  case last =>
    intro u W hB _ hp
    obtain ⟨b9, f9, g10, d11, hf9, ho9, hg10, hh10⟩ : ∃ b d g, u 16 = .agg #[.int .i64 h.k, .int .i64 h.n, .string h.t, .slice b h.keys.length d, .slice (some ⟨g, 0, none⟩) 0 0] ∧ h.keys.length ≤ d ∧ KeOwn V.heap.size W.heap.size W b h.keys ∧ V.heap.size ≤ g ∧ W.heap[g]? = some (.cells #[] 30 (0, 0)) := hp 11 (by omega)
    obtain ⟨B, d12, hB12, hh12⟩ : ∃ B, u 3 = .pointer (some ⟨B, 0, none⟩) ∧ V.heap.size ≤ B ∧ W.heap[B]? = some (.cells #[.int .i64 0, .int .i64 0, .string ⟨#[]⟩, .slice none 0 0, .slice none 0 0] 30 (0, 0)) := hp 12 (by omega)
    have hgB : g10 ≠ B := fun e => by rw [e, hh12] at hh10; simp at hh10
    have zB : B < W.heap.size := (Array.getElem?_eq_some_iff.1 hh12).1
    have zW := hB.size
    have x9 := fun o => row_cell hh12 o
    have y9 := fun o => row_frozen hh12 o
    have HH12 : Hid _ := hh12
    have HH10 : Hid _ := hh10
    have HO9 : Hid _ := ho9
    have HBW : Hid _ := hB
    clear hp hh12 hh10 ho9 hB
    refine wpOp_step rfl (fun K hK => ?_)
    go_simp
    refine hK _ _ ?_
    clear hK
    obtain ⟨W1, hW1⟩ : ∃ X, X = ((((W.setCell ⟨B, 0, none⟩ (.int .i64 h.k)).setCell ⟨B, 1, none⟩ (.int .i64 h.n)).setCell ⟨B, 2, none⟩ (.string h.t)).setCell ⟨B, 3, none⟩ (.slice b9 h.keys.length f9)).setCell ⟨B, 4, none⟩ (.slice (some ⟨g10, 0, none⟩) 0 0) := ⟨_, rfl⟩
    have z1 : W1.heap.size = W.heap.size := by rw [hW1]; simp
    have s1 : ∀ g, g ≠ B → W1.heap[g]? = W.heap[g]? := fun g hg => by rw [hW1, heap_set _ _ _ _ _ hg, heap_set _ _ _ _ _ hg, heap_set _ _ _ _ _ hg, heap_set _ _ _ _ _ hg, heap_set _ _ _ _ _ hg]
    have c1B : W1.heap[B]? = some (.cells #[.int .i64 h.k, .int .i64 h.n, .string h.t, .slice b9 h.keys.length f9, .slice (some ⟨g10, 0, none⟩) 0 0] 30 (0, 0)) := by
      rw [hW1]
      have := row_set (row_set (row_set (row_set (row_set HH12.out 0 (.int .i64 h.k)) 1 (.int .i64 h.n)) 2 (.string h.t)) 3 (.slice b9 h.keys.length f9)) 4 (.slice (some ⟨g10, 0, none⟩) 0 0)
      simpa using this
    have hb1 : Below V.heap.size V W1 := by
      rw [hW1]
      repeat (refine Below.setCell ?_ (by first | omega | (simp <;> omega)) _)
      exact HBW.out
    have HG0 : Hid (GrowO V.heap.size W1.heap.size B (.int .i64 h.k) (.int .i64 h.n) (.string h.t) (.slice b9 h.keys.length f9) W1 (.slice (some ⟨g10, 0, none⟩) 0 0) [] []) :=
      ⟨c1B, ⟨rfl, .inr ⟨g10, 0, #[], rfl, hg10, (s1 g10 hgB).trans HH10.out, Nat.le_refl _, Nat.zero_le _, by simp, by simp⟩⟩, by simp [Value.ownBlock]; exact hgB, fun W' hW => trivial⟩
    have HK9 : Hid (KeOwn V.heap.size W1.heap.size W1 b9 h.keys) := by
      rw [z1]
      rcases HO9.out with e | ⟨b, cs, e2, e3, e4, e5, e6, e7⟩
      · exact .inl e
      · have hbB : b ≠ B := fun e => by
          rw [e, HH12.out] at e5
          simp at e5
        exact .inr ⟨b, cs, e2, e3, e4, (s1 b hbB).trans e5, e6, e7⟩
    have HB1 : Hid _ := hb1
    have zB1 : B < W1.heap.size := by omega
    rw [← hW1]
    clear hW1 s1 c1B hb1 x9 y9 HH12 HH10 HO9 HBW hgB
    go_wp2_with fail
    go_loopw [4] (fun x w' => ∃ (i : Nat) (v : Value) (vs : List Value) (pre : List (Oh × Ous)) (rest : Ous), Hid (sub.len = i + rest.len) ∧ x = .int .i64 i ∧ Hid (sub = appO pre rest ∧ pre.length = i) ∧ Hid (rest.size ≤ sub.size) ∧ Hid (OusBd 1048576 rest) ∧ Hid (OuFrom 0 w.heap.size w a2 i rest) ∧ Hid (Below V.heap.size V w') ∧ W1.heap.size ≤ w'.heap.size ∧ Hid (KeOwn V.heap.size W1.heap.size w' b9 h.keys) ∧ Hid (GrowO V.heap.size W1.heap.size B (.int .i64 h.k) (.int .i64 h.n) (.string h.t) (.slice b9 h.keys.length f9) w' v vs pre)) (fun x _ => sub.len - (intOf x).toNat)
    case atStart => exact ⟨0, _, _, [], sub, by simp [Hid], rfl, ⟨rfl, rfl⟩, Nat.le_refl _, HS, HF0, HB1, Nat.le_refl _, HK9, HG0⟩
    case round =>
      obtain ⟨wo, rfl⟩ : ∃ x, x = wr := ⟨_, rfl⟩
      obtain ⟨i, v, vs, pre, rest, HI, rfl, HP, HZ, HD, HF, HBO, hz1, HKO, HG⟩ := hrel
      obtain ⟨y0, y1, y2, y3⟩ := KV.out _ HBO.out
      have HY1 : Hid _ := y1
      have HY3 : Hid _ := y3
      have hzV := HBO.out.size
      cases rest with
      | nil =>
        have hsl : sub.len = i := by rw [HI.out]; rfl
        have hnl : ¬ (i : Int) < sub.len := by rw [hsl]; omega
        obtain ⟨a9, c9, hv, R9⟩ := KidsO.row HG.out.own rfl HG.out.kids (lo' := V.heap.size) (Nat.le_refl _) (by omega)
        rw [HP.out.2] at hv
        rw [← HP.out.1] at R9
        have xB := fun o => row_cell HG.out.cell o
        have x1c := fun o => row_cell y1 o
        have y1c := fun o => row_frozen y1 o
        have HR9 : Hid _ := R9
        subst hv
        clear y1 y2 y3 R9
        go_wp2_with fail
        refine bodyPost_ret (v := .agg #[.int .i64 h.k, .int .i64 h.n, .string h.t, .slice b9 h.keys.length f9, .slice a9 i c9]) (by simp [results, Try.results27, go_sem, x1c]) rfl ⟨b9, f9, a9, ⟨c9, by first | rfl | rw [hsl]⟩, hf9, ?_⟩
        have G : ∀ W' : World, W'.heap.size = wo.heap.size → Agree V.heap.size wo.heap.size wo W' → Below w.heap.size w W' → KeRow w.heap.size W'.heap.size W' b9 h.keys ∧ OuRow w.heap.size W'.heap.size W' a9 sub ∧ Below w.heap.size w W' :=
          fun W' hw ha hB => ⟨ke_row (OwnR.wide (OwnR.keep HKO.out (fun g h1 h2 => ha g h1 (by omega))) (by omega) (by omega)), OuRow.wide (OuRow.keep HR9.out (fun g h1 h2 => ha g h1 h2)) (by omega) (by omega), hB⟩
        refine G _ (by simp) ?_ ?_
        · intro g h1 h2
          repeat rw [heap_set _ _ _ _ _ (by omega)]
        · repeat (refine Below.setCell ?_ (by first | omega | (simp <;> omega)) _)
          exact HY3.out
      | cons h' sub' rest =>
        have hlt : (i : Int) < sub.len := by rw [HI.out]; simp only [Ous.len]; omega
        have HI2 : Hid (sub.len = i + 1 + rest.len) := by rw [Hid, HI.out]; simp only [Ous.len]; omega
        obtain ⟨b, o, a1', c1', a2', c2', ha, _, hbl, d0, d1, d2, d3, d4, hc', p1, p2, _⟩ := OuFrom.step (OuFrom.keep HF.out (agree HY3.out (Nat.le_refl _)))
        have HF2 : Hid (OuFrom 0 w.heap.size w a2 (i + 1) rest) := by
          obtain ⟨_, _, _, _, _, _, _, _, _, _, _, _, _, _, _, _, _, rf9⟩ := OuFrom.step HF.out
          exact rf9
        obtain ⟨g1, g2, g3, g4⟩ := HD.out
        have E1 : Hid _ := g1
        have E3 : Hid _ := g3
        have E4 : Hid _ := g4
        have HZ2 : Hid (rest.size ≤ sub.size) := by have := HZ.out; simp only [Ous.size] at this; unfold Hid; omega
        have IS : Hid (OwnS h' sub') := IH.out sub' h' (by have := HZ.out; simp only [Ous.size] at this; omega)
        have hwz : w.heap.size ≤ wo.heap.size := by omega
        have KO : Hid (∀ W, wo.grownBy W v.ownBlock → (∀ o, W.cell? ⟨w.heap.size, o, none⟩ = (#[.int .i64 h.k, .int .i64 h.n, .string h.t, .slice a1 h.keys.length c1, .slice a2 sub.len c2] : Array Value)[o]?) ∧ (∀ g, g < w.heap.size → W.heap[g]? = wo.heap[g]?)) := fun W hW =>
          have hne : ∀ g, g < V.heap.size → W.heap[g]? = wo.heap[g]? := fun g hg => hW.block g (by omega) (fun e => by have := (own_ltO HG.out.own g e.symm).1; omega)
          ⟨fun q => (World.cell?_of_block (a := ⟨w.heap.size, q, none⟩) (w := wo) (w' := W) (hne w.heap.size (by omega))).trans (y0 q), fun g hg => hne g (by omega)⟩
        have HPP : Hid (KeRow 0 w.heap.size wo a1' h'.keys ∧ OuRow 0 w.heap.size wo a2' sub') := ⟨p1, p2⟩
        have DD : Hid (wo.cell? ⟨b, o + i * 5, none⟩ = some (.int .i64 h'.k) ∧ wo.cell? ⟨b, o + i * 5 + 1, none⟩ = some (.int .i64 h'.n) ∧ wo.cell? ⟨b, o + i * 5 + 2, none⟩ = some (.string h'.t) ∧ wo.cell? ⟨b, o + i * 5 + 3, none⟩ = some (.slice a1' h'.keys.length c1') ∧ wo.cell? ⟨b, o + i * 5 + 4, none⟩ = some (.slice a2' sub'.len c2')) := ⟨d0, d1, d2, d3, d4⟩
        have HRB : Hid (∀ g, v.ownBlock = some g → g < wo.heap.size ∧ V.heap.size ≤ g) := fun g hg => ⟨(own_ltO HG.out.own g hg).2.1, (own_ltO HG.out.own g hg).1⟩
        have zBo : B < wo.heap.size := by omega
        subst ha
        clear g1 g3 g4 p1 p2 d0 d1 d2 d3 d4 y1 y2 y3
        go_wp2_with fail
        clear y0
        refine region_rel5 (n := 11) (k := 1) (by omega) (by kernel_rfl) (by kernel_rfl) (by kernel_rfl) (fun u' => ⟨#[.agg #[.int .i64 h.k, .int .i64 h.n, .string h.t, .slice a1 h.keys.length c1, .slice (some ⟨b, o, none⟩) sub.len c2], .pointer (some ⟨w.heap.size, 0, none⟩), .pointer (some ⟨w.heap.size + 1, 0, none⟩), .pointer (some ⟨B, 0, none⟩), .int .i64 (i : Int), u 5, u 6, u 7, u 8, u 9, u 10, u 11, u 12, u 13, u 14, u 15, .agg #[.int .i64 h.k, .int .i64 h.n, .string h.t, .slice b9 h.keys.length f9, .slice (some ⟨g10, 0, none⟩) 0 0], .int .i64 (i : Int), .pointer (some ⟨w.heap.size, 4, none⟩), .slice (some ⟨b, o, none⟩) sub.len c2, .int .i64 (sub.len : Int), .bool true, u22, u23, u' 24, u' 25, u' 26, u' 27, u' 28, u' 29, u' 30, u' 31, u' 32, u' 33, u' 34, undef], []⟩) (fun n => match n with | 24 => u24 | 25 => u25 | 26 => u26 | 27 => u27 | 28 => u28 | 29 => u29 | 30 => u30 | 31 => u31 | 32 => u32 | 33 => u33 | 34 => u34 | _ => undef) (fun q => q + 24) (fun i j _ _ h => by omega) (OtPv B w.heap.size wo.heap.size i v (.slice (some ⟨b, o, none⟩) sub.len c2) (.pointer (some ⟨b, o + i * 5, none⟩)) h' sub' a1' a2' c1' c2') (GrJO 9 33 V.heap.size W1.heap.size B (.int .i64 h.k) (.int .i64 h.n) (.string h.t) (.slice b9 h.keys.length f9) wo v vs pre h' sub') (GrJO.start HG.out) ?step ?last
        case step =>
          intro L u' W q hq hLs hLi hj hdep
          have hzW := hj.1.size
          obtain ⟨y0, oldb⟩ := KO.out _ hj.1
          have OLD : Hid _ := oldb
          have cells := fun (p : Nat) => World.cell?_of_block (a := ⟨b, p, none⟩) (w := wo) (w' := W) (oldb b (by omega))
          have hcase : q = 0 ∨ q = 1 ∨ q = 2 ∨ q = 3 ∨ q = 4 ∨ q = 5 ∨ q = 6 ∨ q = 7 ∨ q = 8 ∨ q = 9 ∨ q = 10 := by omega
          clear hq oldb
          rcases hcase with rfl | rfl | rfl | rfl | rfl | rfl | rfl | rfl | rfl | rfl | rfl
          · clear hdep y0 cells
            refine wpOp_step rfl (fun K hK => ?_)
            go_simp
            exact hK _ _ ⟨.pointer (some ⟨B, 4, none⟩), by simp [upd], fun _ _ hx => hx, rfl, hj.step (Below.refl _ _) (by omega) (by omega)⟩
          · have d0 : u' 24 = .pointer (some ⟨B, 4, none⟩) := (hdep _ rfl ⟨0, .data⟩ (by simp) rfl).2
            have xB := fun p => row_cell ((hj.1.block B zBo (fun e => HG.out.off e.symm)).trans HG.out.cell) p
            clear hdep y0 cells
            refine wpOp_step rfl (fun K hK => ?_)
            go_simp
            exact hK _ _ ⟨v, by simp [upd, d0], fun _ _ hx => hx, rfl, hj.step (Below.refl _ _) (by omega) (by omega)⟩
          · clear hdep y0 cells
            refine wpOp_step rfl (fun K hK => ?_)
            go_simp
            exact hK _ _ ⟨.pointer (some ⟨w.heap.size, 4, none⟩), by simp [upd], fun _ _ hx => hx, rfl, hj.step (Below.refl _ _) (by omega) (by omega)⟩
          · have d2 : u' 26 = .pointer (some ⟨w.heap.size, 4, none⟩) := (hdep _ rfl ⟨2, .data⟩ (by simp) rfl).2
            clear hdep cells
            refine wpOp_step rfl (fun K hK => ?_)
            go_simp
            exact hK _ _ ⟨(.slice (some ⟨b, o, none⟩) sub.len c2), by simp [upd, d2], fun _ _ hx => hx, rfl, hj.step (Below.refl _ _) (by omega) (by omega)⟩
          · clear hdep y0 cells
            refine wpOp_step rfl (fun K hK => ?_)
            go_simp
            exact hK _ _ ⟨.int .i64 (i : Int), by simp [upd], fun _ _ hx => hx, rfl, hj.step (Below.refl _ _) (by omega) (by omega)⟩
          · have d3 : u' 27 = (.slice (some ⟨b, o, none⟩) sub.len c2) := (hdep _ rfl ⟨3, .data⟩ (by simp) rfl).2
            have d4 : u' 28 = .int .i64 (i : Int) := (hdep _ rfl ⟨4, .data⟩ (by simp) rfl).2
            clear hdep y0 cells
            refine wpOp_step rfl (fun K hK => ?_)
            go_simp
            exact hK _ _ ⟨(.pointer (some ⟨b, o + i * 5, none⟩)), by simp [upd, d3, d4], fun _ _ hx => hx, rfl, hj.step (Below.refl _ _) (by omega) (by omega)⟩
          · have d5 : u' 29 = (.pointer (some ⟨b, o + i * 5, none⟩)) := (hdep _ rfl ⟨5, .data⟩ (by simp) rfl).2
            obtain ⟨q0, q1, q2, q3, q4⟩ := DD.out
            replace q0 := (cells _).trans q0
            replace q1 := (cells _).trans q1
            replace q2 := (cells _).trans q2
            replace q3 := (cells _).trans q3
            replace q4 := (cells _).trans q4
            clear hdep y0 cells
            refine wpOp_step rfl (fun K hK => ?_)
            go_simp
            exact hK _ _ ⟨.agg #[.int .i64 h'.k, .int .i64 h'.n, .string h'.t, .slice a1' h'.keys.length c1', .slice a2' sub'.len c2'], by simp [upd, d5], fun _ _ hx => hx, rfl, hj.step (Below.refl _ _) (by omega) (by omega)⟩
          · have d6 : u' 30 = .agg #[.int .i64 h'.k, .int .i64 h'.n, .string h'.t, .slice a1' h'.keys.length c1', .slice a2' sub'.len c2'] := (hdep _ rfl ⟨6, .data⟩ (by simp) rfl).2
            have RK : Hid (KeRow 0 W.heap.size W a1' h'.keys ∧ OuRow 0 W.heap.size W a2' sub') := ⟨KeRow.wide (KeRow.keep HPP.out.1 (fun g _ h2 => OLD.out g h2)) (Nat.le_refl _) (by omega), OuRow.wide (OuRow.keep HPP.out.2 (fun g _ h2 => OLD.out g h2)) (Nat.le_refl _) (by omega)⟩
            clear hdep y0 cells
            refine wpOp_step rfl (fun K hK => ?_)
            go_simp
            refine (IS.out a1' a2' c1' c2' W RK.out.1 RK.out.2 E1.out g2 E3.out).mono ?_
            rintro e w8 ⟨b1', f1', b2', f2', rfl, hf, hr8, hs8, hb8⟩
            exact hK _ _ ⟨.agg #[.int .i64 h'.k, .int .i64 h'.n, .string h'.t, .slice b1' h'.keys.length f1', .slice b2' sub'.len f2'], by simp [upd, d6], fun _ _ hx => OtPv.up hb8.size (fun g _ h2 => hb8.block g h2) hx, ⟨_, _, _, _, rfl, hf, KeRow.wide hr8 hzW (Nat.le_refl _), OuRow.wide hs8 hzW (Nat.le_refl _)⟩, hj.step hb8 (by omega) (by omega)⟩
          · obtain ⟨b1', f1', b2', f2', d7, hf7, hr7, hs7⟩ : ∃ b1 d1 b2 d2, u' 31 = .agg #[.int .i64 h'.k, .int .i64 h'.n, .string h'.t, .slice b1 h'.keys.length d1, .slice b2 sub'.len d2] ∧ h'.keys.length ≤ d1 ∧ KeRow wo.heap.size W.heap.size W b1 h'.keys ∧ OuRow wo.heap.size W.heap.size W b2 sub' := (hdep _ rfl ⟨7, .data⟩ (by simp) rfl).2
            clear hdep y0 cells
            refine wpOp_step rfl (fun K hK => ?_)
            go_simp
            exact hK _ _ ⟨.slice (some ⟨W.heap.size, 0, none⟩) 1 1, by simp [upd, d7], fun _ _ hx => OtPv.up (by simp) (fun g _ h2 => Below.heap_alloc _ _ _ h2) hx, ⟨W.heap.size, b1', f1', b2', f2', rfl, hzW, heap_alloc_new _ _, hf7, KeRow.wide (KeRow.keep hr7 (fun g _ h2 => Below.heap_alloc _ _ _ h2)) (Nat.le_refl _) (by simp), OuRow.wide (OuRow.keep hs7 (fun g _ h2 => Below.heap_alloc _ _ _ h2)) (Nat.le_refl _) (by simp)⟩, hj.step ((Below.refl _ _).alloc (Nat.le_refl _) _) (by omega) (by omega)⟩
          · have d1 : u' 25 = v := (hdep _ rfl ⟨1, .data⟩ (by simp) rfl).2
            obtain ⟨g8, b1', f1', b2', f2', d8, hg8, hh8, hf8, hr8, hs8⟩ : ∃ g b1 d1 b2 d2, u' 32 = .slice (some ⟨g, 0, none⟩) 1 1 ∧ wo.heap.size ≤ g ∧ W.heap[g]? = some (.cells #[.int .i64 h'.k, .int .i64 h'.n, .string h'.t, .slice b1 h'.keys.length d1, .slice b2 sub'.len d2] 30 (0, 0)) ∧ h'.keys.length ≤ d1 ∧ KeRow wo.heap.size W.heap.size W b1 h'.keys ∧ OuRow wo.heap.size W.heap.size W b2 sub' := (hdep _ rfl ⟨8, .data⟩ (by simp) rfl).2
            have hl9 : L.getD 9 false = false := by
              cases h8 : L.getD 9 false
              · rfl
              · rw [getD_both (by omega) h8] at hLi; cases hLi
            have hG := hj.2.1 hl9
            obtain ⟨g, cap, W8, hrun, q1, q2, q3, q4⟩ := app_out pre.length v _ _ _ _ _ vs _ g8 W hG.own hh8 five_one (by have h1 := HP.out.2; have h2 := HI.out; omega) (by omega)
            have HJ8 : Hid _ := GrJO.put hj (by omega) hl9 zBo hz1 (fun g hg => (HRB.out g hg).1) hf8 hr8 hs8 q1 q2 q3
            have HQ2 : Hid _ := q2
            clear hdep hG q1 q2 q3 hr8 hs8 hh8 y0 cells
            refine wpOp_step rfl (fun K hK => ?_)
            refine wp_append_run (.tmp 25) (.tmp 32) _ rfl _ _ _ _ d1 d8 hrun ?_
            exact hK _ _ ⟨_, rfl, fun _ _ hx => OtPv.up HQ2.out.size (fun g a1 h2 => HQ2.out.block g h2 (fun e => by have := (HRB.out _ e.symm).1; omega)) hx, trivial, HJ8.out⟩
          · clear hdep y0 cells
            refine wpOp_step rfl (fun K hK => ?_)
            go_simp
            exact hK _ _ ⟨.pointer (some ⟨B, 4, none⟩), by simp [upd], fun _ _ hx => hx, rfl, hj.step (Below.refl _ _) (by omega) (by omega)⟩
        case last =>
          intro L u' W hLs hL hj hp
          have d10 : u' 34 = .pointer (some ⟨B, 4, none⟩) := hp 10 (by omega)
          obtain ⟨hc, vs', hG⟩ := hj.done HG.out (hL 9 (by omega)) zB1
          obtain ⟨a9, n9, c9, e9⟩ : ∃ a n c, u' 33 = .slice a n c := by
            rcases hG.own.2 with ⟨e, _⟩ | ⟨g, cap, cur, e, _⟩
            · exact ⟨_, _, _, e⟩
            · exact ⟨_, _, _, e⟩
          have q2 := fun o => row_cell hc o
          have f2 := fun o => row_frozen hc o
          rw [e9] at hG
          have HG2 : Hid _ := hG
          have hgr := hj.1
          have HBW : Hid (Below V.heap.size V W) := HBO.out.grown hgr (by omega) (fun g hg => (HRB.out g hg).2)
          have HKW : Hid (KeOwn V.heap.size W1.heap.size (W.setCell ⟨B, 4, none⟩ (.slice a9 n9 c9)) b9 h.keys) := by
            rcases HKO.out with e | ⟨bq, cs, z1, z2, z3, z4, z5, z6⟩
            · exact .inl e
            · have n1 : bq ≠ B := fun e => by
                have := HG.out.cell
                rw [← e, z4] at this
                simp at this
              have n2 : some bq ≠ v.ownBlock := fun e => by
                obtain ⟨_, _, cs', hcs⟩ := own_ltO HG.out.own bq e.symm
                rw [z4] at hcs
                simp at hcs
              exact .inr ⟨bq, cs, z1, z2, z3, ((heap_set _ _ _ _ _ n1).trans (hgr.block bq (by omega) n2)).trans z4, z5, z6⟩
          have hzW : W1.heap.size ≤ W.heap.size := by have := hgr.size; omega
          clear hp hj hc hG hgr
          unfold wpTail
          refine wpOp_step rfl (fun K hK => ?_)
          go_simp
          refine hK _ _ ?_
          clear hK
          unfold wpTail
          go_wp2_with fail
          exact ⟨⟨i + 1, _, vs', pre ++ [(h', sub')], rest, HI2, by first | rfl | go_num, ⟨by rw [appO_snoc]; exact HP.out.1, by simp [HP.out.2]⟩, HZ2, E4, HF2, HBW.out.setCell (by first | omega | (simp <;> omega)) _, by simp; exact hzW, HKW, HG2⟩, by simp [intOf]; omega⟩
end Go.Proofs.Ytjmkcbjfjejaaaa.G
