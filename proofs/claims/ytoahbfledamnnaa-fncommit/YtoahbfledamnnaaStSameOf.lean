/- The law's own comparing of stores: of one store it says yes. -/
import Derived.Test.YtoahbfledamnnaaStHad
import Derived.Test.YtoahbfledamnnaaStTxCommit
import Derived.Test.YtoahbfledamnnaaStTxImplTwo
import Derived.Test.YtoahbfledamnnaaStFgMath
import Derived.Test.YtoahbfledamnnaaStTxRead
import Derived.Test.YtoahbfledamnnaaStKids
import Derived.Test.YtoahbfledamnnaaStTxImpl
import Derived.Test.YtoahbfledamnnaaStSpecTwo
import Derived.BigQuiet
import Derived.Deep.CutRange
import Derived.Deep.CutBlock
namespace Go.Proofs.Ytoahbfledamnnaa.G
open Go.ChangeShapes Go.WideShapes Go.ChangeAt Go.RowKit
set_option linter.unusedVariables false

/-- What WriteAll answers: a store, an hour, a code. -/
def WaIs (l : Chs) (now : Int) (ps : List Ve) (m : Chs) (nr h cd : Int) : Prop :=
  (4096 < ps.length ∧ m = [] ∧ nr = 0 ∧ h = 0 ∧ cd = 2) ∨
  (ps.length ≤ 4096 ∧ storeB l now = false ∧ m = [] ∧ nr = 0 ∧ h = 0 ∧ cd = 1) ∨
  (ps.length ≤ 4096 ∧ storeB l now = true ∧ putsB ps = false ∧ m = [] ∧ nr = 0 ∧ h = 0 ∧ cd = 4) ∨
  (ps.length ≤ 4096 ∧ storeB l now = true ∧ putsB ps = true ∧ now = 100000 ∧ m = l ∧ nr = now ∧ h = 0 ∧ cd = 7) ∨
  (ps.length = 0 ∧ storeB l now = true ∧ putsB ps = true ∧ now ≠ 100000 ∧ m = l ∧ nr = now ∧ h = now ∧ cd = 0) ∨
  (0 < ps.length ∧ ps.length ≤ 4096 ∧ storeB l now = true ∧ putsB ps = true ∧ now ≠ 100000 ∧ m = wrAll (now + 1) l ps ∧ nr = now + 1 ∧ h = now + 1 ∧ cd = 0)
theorem store_small {l : Chs} {now : Int} (h : storeB l now = true) : ChsBd 100000 l := by
  have hbd := storeB_bd h
  have hn := (storeB_all h).2.2.1
  exact ⟨by have := (storeB_all h).1; omega, fun x hx => by have := hbd x hx; omega⟩
theorem wr_small {l : Chs} {now : Int} {ps : List Ve} (h : storeB l now = true) (hp : putsB ps = true) : ChsBd 100400 (wrAll (now + 1) l ps) := by
  refine ⟨by rw [wrAll_len]; have := (storeB_all h).1; omega, fun x hx => ?_⟩
  have := wrAll_bd (t := now + 1) ps (store_small h).2 x hx
  have := (putsB_all hp).1
  omega
theorem sizeN_16 {m : Chs} (h : ChsBd 100400 m) (h16 : m.length = 16) : sizeN m ≤ 16777216 := by
  have := sizeN_le (l := m) (fun x hx => by have := h.2 x hx; omega)
  omega
theorem waIs (l : Chs) (now : Int) (ps : List Ve) : ∃ m nr h cd, WaIs l now ps m nr h cd ∧ ChsBd 1048576 m ∧ sizeN m ≤ 16777216 := by
  have none_ : ChsBd 1048576 ([] : Chs) ∧ sizeN ([] : Chs) ≤ 16777216 := ⟨⟨Nat.zero_le _, by simp⟩, by simp [sizeN]⟩
  by_cases h1 : 4096 < ps.length
  · exact ⟨_, _, _, _, .inl ⟨h1, rfl, rfl, rfl, rfl⟩, none_⟩
  cases h2 : storeB l now
  · exact ⟨_, _, _, _, .inr (.inl ⟨by omega, h2, rfl, rfl, rfl, rfl⟩), none_⟩
  cases h3 : putsB ps
  · exact ⟨_, _, _, _, .inr (.inr (.inl ⟨by omega, h2, h3, rfl, rfl, rfl, rfl⟩)), none_⟩
  have hs := store_small h2
  have h16 := (storeB_all h2).1
  have hl : ChsBd 1048576 l ∧ sizeN l ≤ 16777216 := ⟨⟨by omega, fun x hx => by have := hs.2 x hx; omega⟩, sizeN_16 ⟨by omega, fun x hx => by have := hs.2 x hx; omega⟩ h16⟩
  by_cases h4 : now = 100000
  · exact ⟨_, _, _, _, .inr (.inr (.inr (.inl ⟨by omega, h2, h3, h4, rfl, rfl, rfl, rfl⟩))), hl⟩
  by_cases h0 : ps.length = 0
  · exact ⟨_, _, _, _, .inr (.inr (.inr (.inr (.inl ⟨h0, h2, h3, h4, rfl, rfl, rfl, rfl⟩)))), hl⟩
  · have hw := wr_small h2 h3
    exact ⟨_, _, _, _, .inr (.inr (.inr (.inr (.inr ⟨by omega, by omega, h2, h3, h4, rfl, rfl, rfl, rfl⟩)))), ⟨by have := hw.1; omega, fun x hx => by have := hw.2 x hx; omega⟩, sizeN_16 hw (by rw [wrAll_len]; exact h16)⟩
set_option maxHeartbeats 1000000 in
theorem impl_wa (a pa : Option Addr) (c pc : Nat) (l : Chs) (ps : List Ve) (now : Int) (w : World) (hr : ChRow 0 w.heap.size w a l) (hp : VeRow 0 w.heap.size w pa ps) (hbd : ChsBd 1048576 l) (hpl : ps.length ≤ 1048576) {m : Chs} {nr h cd : Int} (hw : WaIs l now ps m nr h cd) :
    Calls Try.prog 7 #[.agg #[.slice a l.length c, .int .i64 now], .slice pa ps.length pc] w fun e w' => ∃ a' c' bs, e = .returned (.tuple #[.agg #[.slice a' m.length c', .int .i64 nr], .int .i64 h, .int .i64 cd]) ∧ StHas w.heap.size w'.heap.size w' a' m bs ∧ Below w.heap.size w w' := by
  rcases hw with ⟨h1, rfl, rfl, rfl, rfl⟩ | ⟨h1, h2, rfl, rfl, rfl, rfl⟩ | ⟨h1, h2, h3, rfl, rfl, rfl, rfl⟩ | ⟨h1, h2, h3, h4, rfl, rfl, rfl, rfl⟩ | ⟨h0, h2, h3, h4, rfl, rfl, rfl, rfl⟩ | ⟨h0, h1, h2, h3, h4, rfl, rfl, rfl, rfl⟩
  · exact (impl_wa_long a pa c pc l ps now w hr hp hbd hpl h1).mono (by rintro e w' ⟨rfl, hb⟩; exact ⟨none, 0, fun _ => 0, rfl, .inl rfl, hb⟩)
  · exact (impl_wa_bad a pa c pc l ps now w hr hp hbd hpl h1 h2).mono (by rintro e w' ⟨rfl, hb⟩; exact ⟨none, 0, fun _ => 0, rfl, .inl rfl, hb⟩)
  · exact (impl_wa_range a pa c pc l ps now w hr hp hbd hpl h1 h2 h3).mono (by rintro e w' ⟨rfl, hb⟩; exact ⟨none, 0, fun _ => 0, rfl, .inl rfl, hb⟩)
  · exact (impl_wa_full a pa c pc _ ps _ w hr hp hbd hpl h1 h2 h3 h4).mono (by rintro e w' ⟨g, bs, rfl, hs, hb⟩; exact ⟨_, _, bs, rfl, .inr hs.own, hb⟩)
  · exact (impl_wa_nil a pa c pc _ ps _ w hr hp hbd hpl h0 h2 h3 h4).mono (by rintro e w' ⟨g, bs, rfl, hs, hb⟩; exact ⟨_, _, bs, rfl, .inr hs.own, hb⟩)
  · refine (impl_wa_some a pa c pc l ps now w hr hp hbd hpl h0 h1 h2 h3 h4).mono ?_
    rintro e w' ⟨g, bs, rfl, hs, hb⟩
    exact ⟨_, _, bs, by rw [wrAll_len], .inr hs.own, hb⟩
end Go.Proofs.Ytoahbfledamnnaa.G
namespace Go.Proofs.Ytoahbfledamnnaa.G
open Go.ChangeShapes Go.WideShapes Go.ChangeAt Go.RowKit
set_option linter.unusedVariables false

set_option maxHeartbeats 8000000 in
theorem impl_ct (a ra wa : Option Addr) (c rq wq : Nat) (l : Chs) (now st : Int) (rs : List Int) (ws : List Ve) (m : Chs) (nr h cd : Int) (w : World) (hs : ChRow 0 w.heap.size w a l) (hsb : ChsBd 1048576 l) (hr : TxRow 0 w.heap.size w ra wa rs ws) (hbd : TxBd 1048576 rs ws) (hct : CtIs l now st rs ws m nr h cd) :
    Calls Try.prog 18 #[.agg #[.slice a l.length c, .int .i64 now], .agg #[.int .i64 st, .slice ra rs.length rq, .slice wa ws.length wq]] w fun e w' => ∃ a' c' bs, e = .returned (.tuple #[.agg #[.slice a' m.length c', .int .i64 nr], .int .i64 h, .int .i64 cd]) ∧ StHas w.heap.size w'.heap.size w' a' m bs ∧ Below w.heap.size w w' := by
  have HI : Hid _ := hct
  clear hct
  obtain ⟨V, hV⟩ : ∃ V, V = ((w.alloc (.cells #[.slice a l.length c, .int .i64 now] 25)).alloc (.cells #[.int .i64 st, .slice ra rs.length rq, .slice wa ws.length wq] 30)).alloc (.cells #[.slice none 0 0, .int .i64 0] 25) := ⟨_, rfl⟩
  have bV : Below w.heap.size w V := by
    rw [hV]
    repeat (first | exact Below.refl _ _ | refine Below.alloc ?_ (by first | omega | (simp <;> omega)) _)
  have zV : w.heap.size + 3 ≤ V.heap.size := by rw [hV]; simp
  have c0 : V.heap[w.heap.size]? = some (.cells #[.slice a l.length c, .int .i64 now] 25 (0, 0)) := by
    rw [hV, Below.heap_alloc _ _ _ (by simp <;> omega), Below.heap_alloc _ _ _ (by simp <;> omega)]; exact heap_alloc_new _ _
  have c1 : V.heap[w.heap.size + 1]? = some (.cells #[.int .i64 st, .slice ra rs.length rq, .slice wa ws.length wq] 30 (0, 0)) := by
    rw [hV, Below.heap_alloc _ _ _ (by simp <;> omega)]
    have := heap_alloc_new (w.alloc (.cells #[.slice a l.length c, .int .i64 now] 25)) (.cells #[.int .i64 st, .slice ra rs.length rq, .slice wa ws.length wq] 30)
    simpa using this
  have c2 : V.heap[w.heap.size + 1 + 1]? = some (.cells #[.slice none 0 0, .int .i64 0] 25 (0, 0)) := by
    rw [hV]
    have := heap_alloc_new ((w.alloc (.cells #[.slice a l.length c, .int .i64 now] 25)).alloc (.cells #[.int .i64 st, .slice ra rs.length rq, .slice wa ws.length wq] 30)) (.cells #[.slice none 0 0, .int .i64 0] 25)
    simpa using this
  have KV : Hid (∀ W, Below V.heap.size V W → W.heap[w.heap.size]? = some (.cells #[.slice a l.length c, .int .i64 now] 25 (0, 0)) ∧ W.heap[w.heap.size + 1]? = some (.cells #[.int .i64 st, .slice ra rs.length rq, .slice wa ws.length wq] 30 (0, 0)) ∧ W.heap[w.heap.size + 1 + 1]? = some (.cells #[.slice none 0 0, .int .i64 0] 25 (0, 0)) ∧ ChRow 0 W.heap.size W a l ∧ TxRow 0 W.heap.size W ra wa rs ws ∧ Below w.heap.size w W) := fun W h =>
    have hw := bV.trans (h.mono (by omega))
    ⟨(h.block _ (by omega)).trans c0, (h.block _ (by omega)).trans c1, (h.block _ (by omega)).trans c2, ChRow.up hs hw, TxRow.up hr hw, hw⟩
  have HE : Hid (ChsBd 1048576 l) := hsb
  have HD : Hid (TxBd 1048576 rs ws) := hbd
  have x0 := fun o => row_cell c0 o
  have x1 := fun o => row_cell c1 o
  clear hs hr hbd hsb c0 c1 c2 bV
  go_enter Try.func18, Try.ntmps18
  go_upto_region 1 with fail
  rw [← hV]
  clear hV
  go_wp2_with fail
  refine (impl_txnOK a ra wa c rq wq l now st rs ws _ (KV.out _ (Below.refl _ _)).2.2.2.1 HE.out (KV.out _ (Below.refl _ _)).2.2.2.2.1 HD.out).mono ?_
  rintro e w1 ⟨rfl, hb1⟩
  have q1 : Hid (Below V.heap.size V w1) := hb1
  have z1 := hb1.size
  have xa1 := fun o => row_cell (KV.out _ q1.out).1 o
  have xb1 := fun o => row_cell (KV.out _ q1.out).2.1 o
  have xc1 := fun o => row_cell (KV.out _ q1.out).2.2.1 o
  have yc1 := fun o => row_frozen (KV.out _ q1.out).2.2.1 o
  have TB1 : Hid (Below w.heap.size w w1) := (KV.out _ q1.out).2.2.2.2.2
  clear hb1 x0 x1
  cases hS : txnB l now st rs ws
  · obtain ⟨_, rfl, rfl, rfl, rfl⟩ : txnB l now st rs ws = false ∧ m = [] ∧ nr = 0 ∧ h = 0 ∧ cd = 1 := by
      rcases HI.out with h | ⟨h, _⟩
      · exact h
      · rw [hS] at h; cases h
    clear HI hS
    go_wp2_with fail
    refine bodyPost_ret (v := .tuple #[.agg #[.slice none 0 0, .int .i64 0], .int .i64 0, .int .i64 1]) (by simp [results, Try.results18, go_sem, xc1]) rfl ⟨none, 0, fun _ => 0, rfl, .inl rfl, ?_⟩
    repeat (refine Below.setCell ?_ (by first | omega | (simp <;> omega)) _)
    exact TB1.out
  have HS : Hid (txnB l now st rs ws = true) := hS
  have HC : Hid (CoIs l now st rs ws m nr h cd) := by
    rcases HI.out with ⟨h, _⟩ | ⟨_, h⟩
    · rw [hS] at h; cases h
    · exact h
  have hal := txnB_all hS
  have HST : Hid (storeB l now = true) := hal.1
  have HPU : Hid (putsB ws = true) := hal.2.2.1
  have hwl : ws.length ≤ 400 := (putsB_all hal.2.2.1).1
  clear hS hal HI
  by_cases h0 : ws.length = 0
  · obtain ⟨e1, e2, e3, rfl⟩ : m = l ∧ nr = now ∧ h = st ∧ cd = 0 := by
      rcases HC.out with ⟨_, h1⟩ | ⟨h1, _⟩ | ⟨h1, _⟩ | ⟨h1, _⟩
      · exact h1
      all_goals omega
    replace e1 := e1.symm
    replace e2 := e2.symm
    replace e3 := e3.symm
    subst e1 e2 e3
    have h0' : ((ws.length : Int) == 0) = true := beq_iff_eq.2 (by omega)
    clear HC h0
    go_upto_region 4 with fail
    go_region_with (first
      | (go_at_call 25
         refine Calls.mono (impl_copyStore a c l now _ (KV.out _ q1.out.drew).2.2.2.1 HE.out) ?_
         rintro e v2 ⟨g, bs, rfl, p2, hb2⟩
         have P2 : Hid (StP w1.heap.size v2 g l bs) := p2
         have q2 : Hid (Below V.heap.size V v2) := q1.out.drew.trans (hb2.mono z1)
         have z2 := hb2.size
         have kb := fun o => row_cell (KV.out _ q2.out).2.1 o
         have kz := fun o => row_cell (KV.out _ q2.out).2.2.1 o
         have kf := fun o => row_frozen (KV.out _ q2.out).2.2.1 o
         have BW : Hid (Below w.heap.size w v2) := (KV.out _ q2.out).2.2.2.2.2
         clear p2 hb2))
    all_goals (try go_wp2_with fail)
    all_goals (refine bodyPost_ret (v := .tuple #[.agg #[.slice (some ⟨g, 0, none⟩) l.length l.length, .int .i64 now], .int .i64 st, .int .i64 0]) (by simp [results, Try.results18, go_sem, kz]) rfl ⟨_, _, bs, rfl, .inr (StP.own (StP.low (StP.move P2.out (by simp) (fun j h1 h2 => ?_)) (by omega))), ?_⟩)
    all_goals (first
      | (repeat (refine Below.setCell ?_ (by first | omega | (simp <;> omega)) _)
         exact BW.out)
      | (repeat rw [heap_set _ _ _ _ _ (by omega)]))
  have h0' : ((ws.length : Int) == 0) = false := beq_eq_false_iff_ne.2 (by omega)
  go_wp2_with fail
  refine (conf_any a ra wa c rq wq l now st rs ws _ (KV.out _ q1.out).2.2.2.1 HE.out (KV.out _ q1.out).2.2.2.2.1 HD.out HS.out).mono ?_
  rintro e w2 ⟨rfl, hb2⟩
  have z2 := hb2.size
  have q2 : Hid (Below V.heap.size V w2) := q1.out.trans (hb2.mono z1)
  have xa2 := fun o => row_cell (KV.out _ q2.out).1 o
  have xb2 := fun o => row_cell (KV.out _ q2.out).2.1 o
  clear hb2 xa1 xb1 xc1 yc1
  cases hF : confB l st rs ws
  · have HW : Hid (WaIs l now ws m nr h cd) := by
      rcases HC.out with ⟨h1, _⟩ | ⟨_, h1, _⟩ | ⟨h1, _, h2, h3⟩ | ⟨h1, _, h2, h3⟩
      · exact absurd h1 h0
      · rw [hF] at h1; cases h1
      · exact .inr (.inr (.inr (.inl ⟨by omega, HST.out, HPU.out, h2, h3⟩)))
      · exact .inr (.inr (.inr (.inr (.inr ⟨h1, by omega, HST.out, HPU.out, h2, h3⟩))))
    clear HC hF h0 h0'
    go_wp2_with fail
    refine (impl_wa a wa c wq l ws now _ (KV.out _ q2.out).2.2.2.1 (KV.out _ q2.out).2.2.2.2.1.2 HE.out (by omega) HW.out).mono ?_
    rintro e w3 ⟨a3, c3, bs, rfl, p3, hb3⟩
    have P3 : Hid (StHas w2.heap.size w3.heap.size w3 a3 m bs) := p3
    have z3 := hb3.size
    have q3 : Hid (Below V.heap.size V w3) := q2.out.trans (hb3.mono (by omega))
    have kz := fun o => row_cell (KV.out _ q3.out).2.2.1 o
    have kf := fun o => row_frozen (KV.out _ q3.out).2.2.1 o
    have BW : Hid (Below w.heap.size w w3) := (KV.out _ q3.out).2.2.2.2.2
    clear p3 hb3 xa2 xb2
    go_wp2_with fail
    refine bodyPost_ret (v := .tuple #[.agg #[.slice a3 m.length c3, .int .i64 nr], .int .i64 h, .int .i64 cd]) (by simp [results, Try.results18, go_sem, kz]) rfl ⟨a3, c3, bs, rfl, ?_, ?_⟩
    · have h5 := StHas.keep P3.out (w' := (w3.setCell ⟨w.heap.size + 1 + 1, 0, none⟩ (.slice a3 m.length c3)).setCell ⟨w.heap.size + 1 + 1, 1, none⟩ (.int .i64 nr)) (fun j h1 h2 => by repeat rw [heap_set _ _ _ _ _ (by omega)])
      rcases h5 with h5 | h5
      · exact .inl h5
      · exact .inr (StOwn.wide h5 (by omega) (by simp))
    · repeat (refine Below.setCell ?_ (by first | omega | (simp <;> omega)) _)
      exact BW.out
  · obtain ⟨e1, e2, rfl, rfl⟩ : m = l ∧ nr = now ∧ h = 0 ∧ cd = 16 := by
      rcases HC.out with ⟨h1, _⟩ | ⟨_, _, h1⟩ | ⟨_, h1, _⟩ | ⟨_, h1, _⟩
      · exact absurd h1 h0
      · exact h1
      all_goals rw [hF] at h1; cases h1
    replace e1 := e1.symm
    replace e2 := e2.symm
    subst e1 e2
    clear HC hF h0 h0'
    go_wp2_with fail
    refine (impl_copyStore a c l now _ (KV.out _ q2.out).2.2.2.1 HE.out).mono ?_
    rintro e w3 ⟨g, bs, rfl, p3, hb3⟩
    have P3 : Hid (StP w2.heap.size w3 g l bs) := p3
    have z3 := hb3.size
    have q3 : Hid (Below V.heap.size V w3) := q2.out.trans (hb3.mono (by omega))
    have kz := fun o => row_cell (KV.out _ q3.out).2.2.1 o
    have kf := fun o => row_frozen (KV.out _ q3.out).2.2.1 o
    have BW : Hid (Below w.heap.size w w3) := (KV.out _ q3.out).2.2.2.2.2
    clear p3 hb3 xa2 xb2
    go_wp2_with fail
    refine bodyPost_ret (v := .tuple #[.agg #[.slice (some ⟨g, 0, none⟩) l.length l.length, .int .i64 now], .int .i64 0, .int .i64 16]) (by simp [results, Try.results18, go_sem, kz]) rfl ⟨_, _, bs, rfl, .inr (StP.own (StP.low (StP.move P3.out (by simp) (fun j h1 h2 => ?_)) (by omega))), ?_⟩
    · repeat rw [heap_set _ _ _ _ _ (by omega)]
    · repeat (refine Below.setCell ?_ (by first | omega | (simp <;> omega)) _)
      exact BW.out
end Go.Proofs.Ytoahbfledamnnaa.G
namespace Go.Proofs.Ytoahbfledamnnaa.G
open Go.ChangeShapes Go.WideShapes Go.ChangeAt Go.RowKit
set_option linter.unusedVariables false

def bothB (l : Chs) (n : Int) (l2 : Chs) (n2 : Int) : Bool := storeB l n && storeB l2 n2
def sameR (l : Chs) (n : Int) (l2 : Chs) (n2 : Int) : Bool := if bothB l n l2 n2 = true then decide (vals l n = vals l2 n2) else false
def sameC (l : Chs) (n : Int) (l2 : Chs) (n2 : Int) : Int := if bothB l n l2 n2 = true then 0 else 1
/-- Two stores that lie boxed, one behind the other. -/
def TwoAt (w W : World) (a a' : Option Addr) (c c' : Nat) (l l2 : Chs) (n n2 : Int) : Prop :=
  W.heap[w.heap.size]? = some (.cells #[.slice a l.length c, .int .i64 n] 25 (0, 0)) ∧ W.heap[w.heap.size + 1]? = some (.cells #[.slice a' l2.length c', .int .i64 n2] 25 (0, 0)) ∧ Below w.heap.size w W
theorem two_at (w : World) (a a' : Option Addr) (c c' : Nat) (l l2 : Chs) (n n2 : Int) : ∃ V, V = (w.alloc (.cells #[.slice a l.length c, .int .i64 n] 25)).alloc (.cells #[.slice a' l2.length c', .int .i64 n2] 25) ∧ V.heap.size = w.heap.size + 2 ∧ TwoAt w V a a' c c' l l2 n n2 ∧ ∀ W, Below V.heap.size V W → TwoAt w W a a' c c' l l2 n n2 := by
  refine ⟨_, rfl, by simp, ?_, ?_⟩
  have key : TwoAt w ((w.alloc (.cells #[.slice a l.length c, .int .i64 n] 25)).alloc (.cells #[.slice a' l2.length c', .int .i64 n2] 25)) a a' c c' l l2 n n2 := by
    refine ⟨?_, ?_, ?_⟩
    · rw [Below.heap_alloc _ _ _ (by simp)]; exact heap_alloc_new _ _
    · have := heap_alloc_new (w.alloc (.cells #[.slice a l.length c, .int .i64 n] 25)) (.cells #[.slice a' l2.length c', .int .i64 n2] 25)
      simpa using this
    · exact ((Below.refl _ _).alloc (Nat.le_refl _) _).alloc (by simp) _
  · exact key
  · intro W h
    have key : TwoAt w ((w.alloc (.cells #[.slice a l.length c, .int .i64 n] 25)).alloc (.cells #[.slice a' l2.length c', .int .i64 n2] 25)) a a' c c' l l2 n n2 := by
      refine ⟨?_, ?_, ?_⟩
      · rw [Below.heap_alloc _ _ _ (by simp)]; exact heap_alloc_new _ _
      · have := heap_alloc_new (w.alloc (.cells #[.slice a l.length c, .int .i64 n] 25)) (.cells #[.slice a' l2.length c', .int .i64 n2] 25)
        simpa using this
      · exact ((Below.refl _ _).alloc (Nat.le_refl _) _).alloc (by simp) _
    exact ⟨(h.block _ (by simp; omega)).trans key.1, (h.block _ (by simp)).trans key.2.1, key.2.2.trans (h.mono (by simp; omega))⟩
end Go.Proofs.Ytoahbfledamnnaa.G
namespace Go.Proofs.Ytoahbfledamnnaa.G
set_option linter.unusedVariables false

/-- A store behind some writes, or behind none. -/
def StIs (l : Chs) (now : Int) (ps : List Ve) (m : Chs) (nr : Int) : Prop := (ps.length = 0 ∧ m = l ∧ nr = now) ∨ (0 < ps.length ∧ m = wrAll (now + 1) l ps ∧ nr = now + 1)
theorem stIs (l : Chs) (now : Int) (ps : List Ve) : ∃ m nr, StIs l now ps m nr := by
  by_cases h : ps.length = 0
  · exact ⟨_, _, .inl ⟨h, rfl, rfl⟩⟩
  · exact ⟨_, _, .inr ⟨by omega, rfl, rfl⟩⟩
theorem hour_ok2 {l : Chs} {now ts : Int} (h : storeB l now = true) (h0 : 0 ≤ ts) (h1 : ts ≤ now) : hourN l now ts = 0 := by simp [hourN, h, inS, h0, h1]
theorem ask_ok2 {l : Chs} {now ts : Int} {k : Nat} (h : storeB l now = true) (h0 : 0 ≤ ts) (h1 : ts ≤ now) (hk : k < 16) : askN l now k ts = 0 := by
  have h3 : keyS (k : Int) = true := (keyB_iff _).2 ⟨by omega, by omega⟩
  rw [askN, if_pos (hour_ok2 h h0 h1), if_pos h3]
theorem StIs.wa {l : Chs} {now : Int} {ps : List Ve} {m : Chs} {nr : Int} (h : StIs l now ps m nr) (hs : storeB l now = true) (hp : putsB ps = true) (hn : now ≠ 100000) : WaIs l now ps m nr nr 0 := by
  have h4 := (putsB_all hp).1
  rcases h with ⟨h0, rfl, rfl⟩ | ⟨h0, rfl, rfl⟩
  · exact .inr (.inr (.inr (.inr (.inl ⟨h0, hs, hp, hn, rfl, rfl, rfl, rfl⟩))))
  · exact .inr (.inr (.inr (.inr (.inr ⟨h0, by omega, hs, hp, hn, rfl, rfl, rfl, rfl⟩))))
theorem StIs.ok {l : Chs} {now : Int} {ps : List Ve} {m : Chs} {nr : Int} (h : StIs l now ps m nr) (hs : storeB l now = true) (hp : putsB ps = true) (hn : now + 1 ≤ 100000) : storeB m nr = true := by
  rcases h with ⟨h0, rfl, rfl⟩ | ⟨h0, rfl, rfl⟩
  · exact hs
  · exact storeB_wr hs hn (putsB_all hp).2
theorem StIs.hour {l : Chs} {now : Int} {ps : List Ve} {m : Chs} {nr : Int} (h : StIs l now ps m nr) : now ≤ nr ∧ nr ≤ now + 1 := by
  rcases h with ⟨h0, rfl, rfl⟩ | ⟨h0, rfl, rfl⟩ <;> omega
theorem StIs.at_ {l : Chs} {now : Int} {ps : List Ve} {m : Chs} {nr : Int} (h : StIs l now ps m nr) (hs : storeB l now = true) (hp : putsB ps = true) {k : Nat} (hk : k < 16) : chAt m k = chAt l k ++ newV (now + 1) (lastW k ps) := by
  obtain ⟨h16, _, _, hc⟩ := storeB_all hs
  rcases h with ⟨h0, rfl, rfl⟩ | ⟨h0, rfl, rfl⟩
  · have : ps = [] := List.eq_nil_of_length_eq_zero h0
    subst this
    simp [lastW, newV]
  · have hkl : k < l.length := by omega
    rw [wrAll_at ps hkl (fun i hi => by have := (chain_pos (chainsB_at hc hkl) i hi).2; omega) (fun p hp' => (putB_key ((putsB_all hp).2 p hp')).1), chAt_eq hkl]
theorem StIs.now_ {l : Chs} {now : Int} {ps : List Ve} {m : Chs} {nr : Int} (h : StIs l now ps m nr) (hs : storeB l now = true) (hp : putsB ps = true) (hn : now + 1 ≤ 100000) {k : Nat} (hk : k < 16) : readR m nr k nr = (lastW k ps).getD (readR l now k now) := by
  obtain ⟨h16, h0, _, hc⟩ := storeB_all hs
  have hh := h.hour
  have e1 := ask_ok2 (k := k) (h.ok hs hp hn) (show 0 ≤ nr by omega) (Int.le_refl _) hk
  have e2 := ask_ok2 (k := k) hs h0 (Int.le_refl _) hk
  have hkl : k < l.length := by omega
  have hch := chainsB_at hc hkl
  rw [readR, if_pos e1, readR, if_pos e2, Int.toNat_natCast, h.at_ hs hp hk, chAt_eq hkl]
  cases ho : lastW k ps with
  | none =>
    simp only [newV, List.append_nil, Option.getD_none]
    exact readV_later hch hh.1
  | some v =>
    have : nr = now + 1 := by
      rcases h with ⟨h0, _, _⟩ | ⟨_, _, e⟩
      · have : ps = [] := List.eq_nil_of_length_eq_zero h0
        subst this
        simp [lastW] at ho
      · exact e
    rw [this, readV_now]
    rfl
theorem StIs.old {l : Chs} {now : Int} {ps : List Ve} {m : Chs} {nr : Int} (h : StIs l now ps m nr) (hs : storeB l now = true) (hp : putsB ps = true) (hn : now + 1 ≤ 100000) {k : Nat} (hk : k < 16) : readR m nr k now = readR l now k now := by
  obtain ⟨h16, h0, _, hc⟩ := storeB_all hs
  have hh := h.hour
  have e1 := ask_ok2 (k := k) (h.ok hs hp hn) h0 hh.1 hk
  have e2 := ask_ok2 (k := k) hs h0 (Int.le_refl _) hk
  rw [readR, if_pos e1, readR, if_pos e2, Int.toNat_natCast, h.at_ hs hp hk]
  exact readV_new (by omega) _
theorem StIs.chg {l : Chs} {now : Int} {ps : List Ve} {m : Chs} {nr : Int} (h : StIs l now ps m nr) (hs : storeB l now = true) (hp : putsB ps = true) (hn : now + 1 ≤ 100000) {k : Nat} (hk : k < 16) : chgR m nr k now = (lastW k ps).isSome := by
  obtain ⟨h16, h0, _, hc⟩ := storeB_all hs
  have hh := h.hour
  have e1 := ask_ok2 (k := k) (h.ok hs hp hn) h0 hh.1 hk
  have hkl : k < l.length := by omega
  rw [chgR, if_pos e1, Int.toNat_natCast, h.at_ hs hp hk, chAt_eq hkl]
  exact chgB_new (chainsB_at hc hkl) _
theorem lastW_take {k : Int} {ps : List Ve} {i : Nat} (hi : i < ps.length) : lastW k (ps.take (i + 1)) = if ps[i].ts = k then some ps[i].v else lastW k (ps.take i) := by
  unfold lastW; rw [List.take_succ_eq_append_getElem hi, List.foldl_append]; rfl
theorem same_self {l : Chs} {now : Int} (h : storeB l now = true) : sameR l now l now = true ∧ sameC l now l now = 0 := by simp [sameR, sameC, bothB, h]
end Go.Proofs.Ytoahbfledamnnaa.G
namespace Go.Proofs.Ytoahbfledamnnaa.G
open Go.ChangeShapes Go.WideShapes Go.ChangeAt Go.RowKit
set_option linter.unusedVariables false

def keysR (l : Chs) (now ts : Int) : List Int := if hourN l now ts = 0 then keysK l ts 16 else []
theorem keysR_len (l : Chs) (now ts : Int) : (keysR l now ts).length ≤ 16 := by
  unfold keysR; split
  · exact keysK_len l ts 16
  · simp
theorem ask_hour0 (l : Chs) (now low : Int) : askN l now 0 low = hourN l now low := by
  unfold askN
  rw [if_pos (show keyS 0 = true from rfl)]
  split
  · rename_i h; exact h.symm
  · rfl
theorem own_below0 {w w' : World} {base size n : Nat} {e : TypeId} {v : Value} {xs : List Value} (h : w.ownsRow base e size v n xs) (hb : Below w.heap.size w w') : w'.ownsRow base e size v n xs := by
  refine ⟨h.1, ?_⟩
  rcases h.2 with h0 | ⟨g, cap, cur, rfl, h1, h2, h3⟩
  · exact .inl h0
  · exact .inr ⟨g, cap, cur, rfl, h1, (hb.block g (Array.getElem?_eq_some_iff.1 h2).1).trans h2, h3⟩
theorem own_ge {w : World} {base size n : Nat} {e : TypeId} {v : Value} {xs : List Value} (h : w.ownsRow base e size v n xs) : ∀ k, v.ownBlock = some k → base ≤ k ∧ k < w.heap.size := fun k hk => by
  rcases h.2 with ⟨e, _⟩ | ⟨g', cap, cur, e, h1, h2, _⟩
  · subst e; cases hk
  · subst e
    simp only [Value.ownBlock, Option.some.injEq] at hk
    subst hk
    exact ⟨h1, (Array.getElem?_eq_some_iff.1 h2).1⟩
theorem ret_k {a b : Value} {c d : Int} (h1 : a = b) (h2 : c = d) : Ending.returned (.tuple #[a, .int .i64 c]) = .returned (.tuple #[b, .int .i64 d]) := by rw [h1, h2]
end Go.Proofs.Ytoahbfledamnnaa.G
namespace Go.Proofs.Ytoahbfledamnnaa.G
open Go.ChangeShapes Go.WideShapes Go.ChangeAt Go.RowKit
set_option linter.unusedVariables false

set_option maxHeartbeats 2000000 in
theorem same_ints (a a' : Option Addr) (c c' : Nat) (x : List Int) (w : World) (hr : NuRow 0 w.heap.size w a x) (hr' : NuRow 0 w.heap.size w a' x) (hl : x.length ≤ 1048576) :
    Calls Try.prog 16 #[.slice a x.length c, .slice a' x.length c'] w fun e w' => e = .returned (.bool true) ∧ Below w.heap.size w w' := by
  have HR : Hid _ := hr
  have HR' : Hid _ := hr'
  clear hr hr'
  go_enter Try.func16, Try.ntmps16
  go_wp2_with fail
  go_loopw [5] (fun i w' => ∃ (k q : Nat), k ≤ x.length ∧ i = .int .i64 k ∧ w' = w.drewN q) (fun i _ => x.length - (intOf i).toNat)
  case atStart => exact ⟨0, 0, by omega, rfl, rfl⟩
  case round =>
    obtain ⟨k, q, hk, rfl, rfl⟩ := hrel
    by_cases hlt : k < x.length
    · obtain ⟨b, o, ha, _, hbl, d0⟩ := NuRow.cells HR.out k hlt
      obtain ⟨b', o', ha', _, hbl', d1⟩ := NuRow.cells HR'.out k hlt
      subst ha ha'
      have hlt' : (k : Int) < x.length := by omega
      go_wp2_with fail
      go_quiet (fail)
      go_wp2_with fail
      exact ⟨⟨k + 1, q + nq, by omega, by go_num, by simp⟩, by simp [intOf]; omega⟩
    · go_wp2_with fail
      go_ret
      exact ⟨rfl, below_drewN (Below.refl _ _) _⟩
set_option maxHeartbeats 1000000 in
theorem putsOf_any (n c : Nat) (a : Option Addr) (w : World) (hr : ByteRow w.heap.size w a n) (hn : n ≤ 1048576) :
    Calls Try.prog 8 #[.slice a n c] w fun e w' => (∃ (ps : List Ve) (a' : Option Addr) (c' : Nat), e = .returned (.slice a' ps.length c') ∧ VeRow 0 w'.heap.size w' a' ps ∧ putsB ps = true) ∧ Below w.heap.size w w' := by
  have HR : Hid _ := hr
  clear hr
  go_enter Try.func8, Try.ntmps8
  go_wp2_with fail
  refine (source_any n c a _ hn).mono ?_
  rintro e w1 ⟨rfl, s1, b1⟩
  have z1 := b1.size
  have HR1 : Hid (ByteRow w.heap.size w1 a n) := ByteRow.keep HR.out z1 (fun k hk => b1.block k hk)
  have HS1 : Hid _ := s1
  have B1 : Hid _ := b1
  clear s1 b1 HR
  go_wp2_with fail
  refine (puts_any w.heap.size n 0 a _ HS1.out HR1.out (by omega) hn).mono ?_
  rintro e w2 ⟨⟨ps, a', c', rfl, r2, hl2, hp2⟩, _, g2⟩
  have R2 : Hid _ := r2
  have HP2 : Hid (putsB ps = true) := putsB_yes (by omega) (fun i hi => hp2 ps[i] (List.getElem_mem hi))
  have B2 : Hid (Below w.heap.size w w2) := B1.out.grown g2 z1 (fun k hk => by simp only [Option.some.injEq] at hk; omega)
  clear r2 hp2 g2
  go_wp2_with fail
  go_ret
  exact ⟨⟨ps, a', c', rfl, R2.out, HP2.out⟩, B2.out⟩
end Go.Proofs.Ytoahbfledamnnaa.G
namespace Go.Proofs.Ytoahbfledamnnaa.G
open Go.ChangeShapes Go.WideShapes Go.ChangeAt Go.RowKit
set_option linter.unusedVariables false

set_option maxHeartbeats 4000000 in
theorem same_store (a a' : Option Addr) (c c' : Nat) (l : Chs) (now : Int) (w : World) (hr : ChRow 0 w.heap.size w a l) (hr' : ChRow 0 w.heap.size w a' l) (hbd : ChsBd 1048576 l) :
    Calls Try.prog 20 #[.agg #[.slice a l.length c, .int .i64 now], .agg #[.slice a' l.length c', .int .i64 now]] w fun e w' => e = .returned (.bool true) ∧ Below w.heap.size w w' := by
  obtain ⟨V, hV⟩ : ∃ V : World, V = (w.alloc (.cells #[.slice a l.length c, .int .i64 now] 25)).alloc (.cells #[.slice a' l.length c', .int .i64 now] 25) := ⟨_, rfl⟩
  have zV : w.heap.size + 2 ≤ V.heap.size := by rw [hV]; simp
  have bV : Below w.heap.size w V := by
    rw [hV]
    repeat (first | exact Below.refl _ _ | refine Below.alloc ?_ (by first | omega | (simp <;> omega)) _)
  have c0 : V.heap[w.heap.size]? = some (.cells #[.slice a l.length c, .int .i64 now] 25 (0, 0)) := by
    rw [hV, Below.heap_alloc _ _ _ (by simp <;> omega)]; exact heap_alloc_new _ _
  have c1 : V.heap[w.heap.size + 1]? = some (.cells #[.slice a' l.length c', .int .i64 now] 25 (0, 0)) := by
    have := heap_alloc_new (w.alloc (.cells #[.slice a l.length c, .int .i64 now] 25)) (.cells #[.slice a' l.length c', .int .i64 now] 25)
    rw [hV]; simpa using this
  have KV : Hid (∀ W, Below V.heap.size V W → (W.heap[w.heap.size]? = some (.cells #[.slice a l.length c, .int .i64 now] 25 (0, 0)) ∧ W.heap[w.heap.size + 1]? = some (.cells #[.slice a' l.length c', .int .i64 now] 25 (0, 0))) ∧ Below w.heap.size w W) := fun W h => ⟨⟨(h.block _ (by omega)).trans c0, (h.block _ (by omega)).trans c1⟩, bV.trans (h.mono (by omega))⟩
  have HR : Hid _ := hr
  have HR' : Hid _ := hr'
  have hl := hbd.1
  have HT : Hid _ := hbd.2
  have x0 := fun o => row_cell c0 o
  have x1 := fun o => row_cell c1 o
  clear hr hr' hbd c0 c1 bV
  go_enter Try.func20, Try.ntmps20
  go_upto_region 1 with fail
  rw [← hV]
  clear hV
  go_wp2_with fail
  go_loopw [5] (fun i w' => ∃ (k : Nat), k ≤ l.length ∧ i = .int .i64 k ∧ Hid (Below V.heap.size V w')) (fun i _ => l.length - (intOf i).toNat)
  case atStart => exact ⟨0, by omega, rfl, Below.refl _ _⟩
  case round =>
    obtain ⟨wo, rfl⟩ : ∃ x, x = wr := ⟨_, rfl⟩
    obtain ⟨k, hk, rfl, HB⟩ := hrel
    obtain ⟨⟨e0, e1⟩, q⟩ := KV.out _ HB.out
    have x5 := fun o => row_cell e0 o
    have x6 := fun o => row_cell e1 o
    have Q : Hid _ := q
    by_cases hlt : k < l.length
    case neg =>
      obtain rfl : k = l.length := by omega
      have hlt' : ¬ (l.length : Int) < l.length := by omega
      clear e0 e1 q x0 x1
      go_wp2_with fail
      go_ret
      exact ⟨rfl, Q.out⟩
    obtain ⟨b, o, a3, c3, ha, _, hbl, d0, _, r3⟩ := ChRow.cells (ChRow.keep HR.out (agree q (Nat.le_refl _))) k hlt
    obtain ⟨b', o', a4, c4, ha', _, hbl', d0', _, r4⟩ := ChRow.cells (ChRow.keep HR'.out (agree q (Nat.le_refl _))) k hlt
    subst ha ha'
    have hX : l[k].length ≤ 1048576 := HT.out l[k] (List.getElem_mem hlt)
    have R3 : Hid _ := r3
    have R4 : Hid _ := r4
    have hlt' : (k : Int) < l.length := by omega
    have D0 : Hid _ := d0
    have D1 : Hid _ := d0'
    have zo := HB.out.size
    clear e0 e1 q r3 r4 x0 x1
    go_wp2_with fail
    go_quiet (fail)
    go_wp2_with fail
    go_loopw [6] (fun i w' => ∃ (n : Nat), n ≤ l[k].length ∧ i = .int .i64 n ∧ Hid (Below wo.heap.size wo w')) (fun i _ => l[k].length - (intOf i).toNat)
    case atStart => exact ⟨0, by omega, rfl, below_drewN (Below.refl _ _) _⟩
    case round =>
      obtain ⟨wi, rfl⟩ : ∃ x, x = wr := ⟨_, rfl⟩
      obtain ⟨n, hn, rfl, HI⟩ := hrel
      have QI : Hid (Below V.heap.size V wi) := HB.out.trans (HI.out.mono (by omega))
      obtain ⟨⟨e0, e1⟩, _⟩ := KV.out _ QI.out
      have x7 := fun o => row_cell e0 o
      have x8 := fun o => row_cell e1 o
      have d5 := (HI.out.cell (p := ⟨b, o + k, none⟩) (show b < wo.heap.size by omega)).trans D0.out
      have d6 := (HI.out.cell (p := ⟨b', o' + k, none⟩) (show b' < wo.heap.size by omega)).trans D1.out
      by_cases hnt : n < l[k].length
      · have hnt' : (n : Int) < l[k].length := by omega
        obtain ⟨b2, o2, ha2, _, hbl2, f0, f1⟩ := VeRow.cells (VeRow.keep R3.out (agree HI.out (by omega))) n hnt
        obtain ⟨b3, o3, ha3, _, hbl3, f2, f3⟩ := VeRow.cells (VeRow.keep R4.out (agree HI.out (by omega))) n hnt
        subst ha2 ha3
        clear e0 e1 x5 x6 d0 d0'
        go_wp2_with fail
        go_quiet (fail)
        go_wp2_with fail
        exact ⟨⟨n + 1, by omega, by go_num, below_drewN HI.out _⟩, by simp [intOf]; omega⟩
      · obtain rfl : n = l[k].length := by omega
        have hnt' : ¬ (l[k].length : Int) < l[k].length := by omega
        clear e0 e1 x5 x6 d0 d0'
        go_wp2_with fail
        exact ⟨⟨k + 1, by omega, by go_num, QI⟩, by simp [intOf]; omega⟩
end Go.Proofs.Ytoahbfledamnnaa.G
