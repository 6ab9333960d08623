/- Marks written into a field's own arguments, and held; the counts of marks are small. -/
import Derived.Test.YtcnbpdkhhkggpaaSchMark
import Derived.Test.YtcnbpdkhhkggpaaSchFld
namespace Go.Proofs.Ytcnbpdkhhkggpaa.G
open Go.ChangeShapes Go.WideShapes Go.ChangeAt Go.RowKit
set_option linter.unusedVariables false

theorem cnt_bound {α : Type} {c : α → Nat} {M : Nat} : ∀ {l : List α}, (∀ x ∈ l, c x ≤ M) → cnt c l ≤ l.length * M
  | [], h => by simp [cnt]
  | x :: r, h => by
    have h1 := h x (by simp)
    have h2 := cnt_bound (l := r) (fun y hy => h y (by simp [hy]))
    simp only [cnt, List.length_cons, Nat.add_mul, Nat.one_mul]
    omega
theorem cnt_Ags {l : List Ag} (h : l.length ≤ 1048576) : cnt cAg l ≤ 2097152 := by
  have := cnt_bound (c := cAg) (M := 2) (l := l) (fun x _ => by simp [cAg])
  omega
theorem cnt_Fds {l : List Fd} (h : FdsBd 1048576 l) : cnt cFd l ≤ 2199027449856 := by
  have := cnt_bound (c := cFd) (M := 2097156) (l := l) (fun x hx => by have := cnt_Ags (h.2 x hx).2.1.1; simp only [cFd]; omega)
  have := h.1
  omega
theorem cnt_Tds {l : List Td} (h : TdsBd 1048576 l) : cnt cTd l ≤ 2305847407261351936 := by
  have := cnt_bound (c := cTd) (M := 2199027449857) (l := l) (fun x hx => by have := cnt_Fds (h.2 x hx).2; simp only [cTd]; omega)
  have := h.1
  omega
set_option maxHeartbeats 1000000 in
theorem mark_Fd (x : Fd) (a : Option Addr) (c : Nat) (bs : List Nat) (w : World) (ho : AgOwn w a x.args bs) (hn : bs.Nodup) (hl : x.args.length ≤ 1048576) :
    Calls Try.prog 11 #[.agg #[.string x.nm, .slice a x.args.length c, .string x.ty, .bool x.ls, .bool x.bg], .int .i64 1] w fun e w' => ∃ r : Int, e = .returned (.int .i64 r) ∧ r = ((1 + cnt cAg x.args : Nat) : Int) ∧ AgOwn w' a (mks fAg cAg 1 x.args) bs ∧ Kept bs w w' := by
  have hc := cnt_Ags hl
  have HC : Hid (((1 + cnt cAg x.args : Nat) : Int) ≤ 4611686018427387904) := by unfold Hid; omega
  have HO : Hid _ := ho
  have HN : Hid _ := hn
  clear ho hn hc
  go_enter Try.func11, Try.ntmps11
  go_wp2_with fail
  refine Calls.mono (mark_Ags a c x.args bs 1 _ _ rfl (AgOwn.same HO.out ?own) HN.out (by omega) HC.out (by omega)) ?_
  case own =>
    intro g hg
    have := AgOwn.lt HO.out g hg
    exact Below.heap_alloc _ _ _ this
  rintro e w1 ⟨r, rfl, hr, o1, k1⟩
  have P1 : Hid (AgOwn w1 a (mks fAg cAg 1 x.args) bs ∧ Kept bs w w1) := ⟨o1, (Kept.of ((Below.refl _ _).alloc (Nat.le_refl _) _)).trans k1⟩
  have HR : Hid (r = ((1 + cnt cAg x.args : Nat) : Int)) := hr
  clear o1 k1 hr HC
  go_wp2_with fail
  go_ret
  exact ⟨_, rfl, HR.out, P1.out.1, P1.out.2⟩
set_option maxHeartbeats 1000000 in
theorem held_Fd (x : Fd) (a : Option Addr) (c : Nat) (w : World) (hr : AgRow 0 w.heap.size w a (mks fAg cAg 1 x.args)) (hl : x.args.length ≤ 1048576) :
    Calls Try.prog 12 #[.agg #[.string x.nm, .slice a x.args.length c, .string x.ty, .bool x.ls, .bool x.bg], .int .i64 1] w fun e w' => ∃ r : Int, e = .returned (.int .i64 r) ∧ r = ((1 + cnt cAg x.args : Nat) : Int) ∧ Below w.heap.size w w' := by
  have hc := cnt_Ags hl
  have HC : Hid (((1 + cnt cAg x.args : Nat) : Int) ≤ 4611686018427387904) := by unfold Hid; omega
  have HR : Hid _ := hr
  clear hr hc
  go_enter Try.func12, Try.ntmps12
  go_wp2_with fail
  refine Calls.mono (held_Ags a c x.args 1 _ _ rfl (AgRow.up HR.out ((Below.refl _ _).alloc (Nat.le_refl _) _)) (by omega) HC.out (by omega)) ?_
  rintro e w1 ⟨r, rfl, hr, hb1⟩
  have Q1 : Hid (Below w.heap.size w w1) := below_one hb1
  have HV : Hid (r = ((1 + cnt cAg x.args : Nat) : Int)) := hr
  have hr0 : ¬ r < 0 := by omega
  clear hb1 hr HC
  go_wp2_with fail
  go_ret
  exact ⟨_, rfl, HV.out, Q1.out⟩
/-- A field in a block of its own. -/
def FB (w : World) (g : Nat) (x : Fd) (a : Option Addr) (c : Nat) : Prop := w.heap[g]? = some (.cells #[.string x.nm, .slice a x.args.length c, .string x.ty, .bool x.ls, .bool x.bg] 28 (0, 0))
theorem FB.get {w : World} {g : Nat} {x : Fd} {a : Option Addr} {c : Nat} (h : FB w g x a c) : w.cell? ⟨g, 0, none⟩ = some (.string x.nm) ∧ w.cell? ⟨g, 1, none⟩ = some (.slice a x.args.length c) ∧ w.cell? ⟨g, 2, none⟩ = some (.string x.ty) ∧ w.cell? ⟨g, 3, none⟩ = some (.bool x.ls) ∧ w.cell? ⟨g, 4, none⟩ = some (.bool x.bg) :=
  ⟨row_cell h 0, row_cell h 1, row_cell h 2, row_cell h 3, row_cell h 4⟩
theorem FB.move {w w' : World} {g : Nat} {x : Fd} {a : Option Addr} {c : Nat} (h : FB w g x a c) (e : w'.heap[g]? = w.heap[g]?) : FB w' g x a c := e.trans h
theorem FlR.bd {l : List Td} {s t : ByteArray} {x : Fd} {y : Int} (h : FlR l s t x y) (hb : TdsBd 1048576 l) : FdBd 1048576 x := by
  have h0 : FdBd 1048576 fd0 := ⟨Nat.zero_le _, ⟨Nat.zero_le _, fun _ hx => by cases hx⟩, Nat.zero_le _⟩
  rcases h with ⟨_, rfl, _⟩ | ⟨_, _, rfl, _⟩ | ⟨_, _, _, rfl, _⟩ | ⟨_, _, j, hj, _, ⟨_, rfl, _⟩ | ⟨i, hi, _, rfl, _⟩⟩
  · exact h0
  · exact h0
  · exact h0
  · exact h0
  · exact (hb.2 _ (List.getElem_mem hj)).2.2 _ (List.getElem_mem hi)
theorem agree_kept {bs : List Nat} {w w' : World} {lo hi : Nat} (h : Kept bs w w') (hh : hi ≤ w.heap.size) (hs : ∀ g ∈ bs, g < lo) : Agree lo hi w w' := by
  intro g h1 h2
  exact h.block g (by omega) (fun hx => by have := hs g hx; omega)
end Go.Proofs.Ytcnbpdkhhkggpaa.G
