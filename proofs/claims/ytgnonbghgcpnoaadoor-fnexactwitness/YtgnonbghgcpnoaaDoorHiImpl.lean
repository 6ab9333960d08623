/- The program's CommittedOf. -/
import Derived.Test.YtgnonbghgcpnoaaDoorHiMath
namespace Go.Proofs.YtgnonbghgcpnoaaDoor
open Go.ChangeShapes Go.WideShapes Go.ChangeAt Go.RowKit
set_option linter.unusedVariables false

set_option maxHeartbeats 4000000 in
set_option maxRecDepth 20000 in
theorem impl_his (a : Option Addr) (c : Nat) (l : List Dn) (w : World) (hr : DnRow 0 w.heap.size w a l) (hl : l.length ≤ 1048576) (ht : Er.TabH w) :
    Calls Tryd.prog 23 #[.slice a l.length c] w fun e w' => e = .returned (.int .i64 (hisC l)) ∧ Below w.heap.size w w' := by
  have HR : Hid (DnRow 0 w.heap.size w a l) := hr
  have HT : Hid (Er.TabH w) := ht
  clear hr ht
  by_cases h1 : 4096 < l.length
  · have HC : Hid (2 = hisC l) := (hisC_long h1).symm
    go_enter Tryd.func23, Tryd.ntmps23
    go_wp2_with fail
    go_ret
    exact ⟨ret_i HC.out, Below.refl _ _⟩
  by_cases h2 : 60 < l.length
  · have HC : Hid (1 = hisC l) := (hisC_bad (his_many (by omega)) h1).symm
    go_enter Tryd.func23, Tryd.ntmps23
    go_wp2_with fail
    go_ret
    exact ⟨ret_i HC.out, Below.refl _ _⟩
  go_enter Tryd.func23, Tryd.ntmps23
  go_wp2_with fail
  go_loopw [15] (fun i w' => ∃ (k : Nat), k ≤ l.length ∧ i = .int .i64 k ∧ Below w.heap.size w w' ∧ Hid (∀ i, i < k → dnA l i = true)) (fun i _ => l.length - (intOf i).toNat)
  case atStart => exact ⟨0, by omega, rfl, Below.refl _ _, fun i h => by omega⟩
  case round =>
    obtain ⟨k, hk, rfl, hb, HA⟩ := hrel
    obtain ⟨wo, rfl⟩ : ∃ x, x = wr := ⟨_, rfl⟩
    have HB : Hid (Below w.heap.size w wo) := hb
    by_cases hlt : k < l.length
    · obtain ⟨g, o, a3, c3, b3, e3, ha, _, hbl, d0, d1, d2, d3x, d4, d5, d6, d7, r1, r2⟩ := DnRow.cells (HR.out.keep (Below.agree hb (Nat.le_refl _))) k hlt
      subst ha
      obtain ⟨x, hx⟩ : ∃ x, x = l[k] := ⟨_, rfl⟩
      have HX : Hid (x = l[k]) := hx
      rw [← hx] at d0 d1 d2 d3x d4 d5 d6 d7
      have HB2 : Hid (Below w.heap.size w (wo.alloc (.cells #[.int .i64 x.id, .int .i64 x.code, .int .i64 x.ts, .int .i64 x.since, .bool x.wr, .slice a3 x.defs.length c3, .slice b3 x.vars.length e3, .string x.t] 54))) := hb.alloc hb.size _
      have HN : Hid (dnB k x = false → 1 = hisC l) := fun h => (hisC_bad (his_not hlt (by rw [← HX.out]; exact h)) h1).symm
      have HY : Hid (dnB k x = true → ∀ i, i < k + 1 → dnA l i = true) := fun h => to_next hlt HA.out (by rw [← HX.out]; exact h)
      clear r1 r2 hx hb
      go_wp2_with fail
      refine (Er.impl_word x.code _ (Er.TabH.tab (Er.TabH.keep HT.out HB2.out))).mono ?_
      rintro e w1 ⟨rfl, rfl⟩
      have hw := word_none x.code
      obtain ⟨W5, hW5⟩ : ∃ z, z = Er.wordS x.code := ⟨_, rfl⟩
      rw [← hW5] at hw ⊢
      clear hW5
      cases h3 : inB x.code 0 19
      · have H : Hid (1 = hisC l) := HN.out (by unfold dnB; rw [h3]; rfl)
        rw [h3] at hw
        replace hw : W5.toList.isEmpty = true := hw
        clear h3 HN HY
        go_wp2_with fail
        go_ret
        exact ⟨ret_i H.out, HB2.out⟩
      have H3 : Hid _ := h3
      rw [h3] at hw
      replace hw : W5.toList.isEmpty = false := hw
      clear h3
      by_cases t0 : x.ts < 0
      · have H : Hid (1 = hisC l) := HN.out (by unfold dnB; rw [H3.out, in_not1 (by omega)]; rfl)
        clear HN HY
        go_wp2_with fail
        go_ret
        exact ⟨ret_i H.out, HB2.out⟩
      by_cases t1 : 100000 < x.ts
      · have H : Hid (1 = hisC l) := HN.out (by unfold dnB; rw [H3.out, in_not2 (n := x.ts) (by omega)]; rfl)
        clear HN HY
        go_wp2_with fail
        go_ret
        exact ⟨ret_i H.out, HB2.out⟩
      by_cases s0 : x.since < 0
      · have H : Hid (1 = hisC l) := HN.out (by unfold dnB; rw [H3.out, in_yes (n := x.ts) (by omega) (by omega), in_not1 (by omega)]; rfl)
        clear HN HY
        go_wp2_with fail
        go_ret
        exact ⟨ret_i H.out, HB2.out⟩
      by_cases s1 : (k : Int) < x.since
      · have H : Hid (1 = hisC l) := HN.out (by unfold dnB; rw [H3.out, in_yes (n := x.ts) (by omega) (by omega), in_not2 (n := x.since) (by omega)]; rfl)
        clear HN HY
        go_wp2_with fail
        go_ret
        exact ⟨ret_i H.out, HB2.out⟩
      have H : Hid (∀ i, i < k + 1 → dnA l i = true) := HY.out (by unfold dnB; rw [H3.out, in_yes (n := x.ts) (by omega) (by omega), in_yes (n := x.since) (by omega) (by omega)]; rfl)
      clear HN HY
      go_wp2_with fail
      exact ⟨⟨k + 1, by omega, by go_num, HB2.out, H⟩, by simp [intOf]; omega⟩
    · obtain rfl : k = l.length := by omega
      have H : Hid (0 = hisC l) := (hisC_ok (his_yes (by omega) HA.out)).symm
      clear hb
      go_wp2_with fail
      go_ret
      exact ⟨ret_i H.out, HB.out⟩

/-- One that is committed: its cells, its place behind them. -/
def CmE (e : List Value) (x : Dn) (p : Nat) : Prop := ∃ a c b d, e = [.int .i64 x.id, .int .i64 x.code, .int .i64 x.ts, .int .i64 x.since, .bool x.wr, .slice a x.defs.length c, .slice b x.vars.length d, .string x.t, .int .i64 p]
/-- Those that are committed, below k, as they lie in a row. -/
inductive CmL (l : List Dn) : Nat → List (List Value) → Prop where
  | nil : CmL l 0 []
  | skip {k : Nat} {es : List (List Value)} (h : CmL l k es) (hc : comA l k = false) : CmL l (k + 1) es
  | more {k : Nat} {es : List (List Value)} {e : List Value} (h : CmL l k es) (hk : k < l.length) (hc : comA l k = true) (he : CmE e l[k] k) : CmL l (k + 1) (es ++ [e])
theorem CmL.len {l : List Dn} {k : Nat} {es : List (List Value)} (h : CmL l k es) : es.length = (comP l k).length := by
  induction h with
  | nil => rfl
  | skip h hc ih => rw [ih, comP, if_neg (by rw [hc]; decide)]
  | more h hk hc he ih => rw [comP, if_pos hc]; simp [ih]
theorem CmL.at_ {l : List Dn} {k : Nat} {es : List (List Value)} (h : CmL l k es) : ∀ i (hi : i < es.length), ∃ (p : Nat) (hp : p < l.length), p < k ∧ CmE es[i] l[p] p ∧ (comP l k)[i]? = some (p : Int) ∧ comA l p = true := by
  induction h with
  | nil => intro i hi; simp at hi
  | skip h hc ih =>
    intro i hi
    obtain ⟨p, hp, h1, h2, h3, h4⟩ := ih i hi
    exact ⟨p, hp, by omega, h2, by rw [comP, if_neg (by rw [hc]; decide)]; exact h3, h4⟩
  | @more k es e h hk hc he ih =>
    intro i hi
    rw [comP, if_pos hc]
    by_cases e1 : i < es.length
    · obtain ⟨p, hp, h1, h2, h3, h4⟩ := ih i e1
      refine ⟨p, hp, by omega, ?_, ?_, h4⟩
      · rw [List.getElem_append_left e1]; exact h2
      · rw [List.getElem?_append_left (by rw [← h.len]; exact e1)]; exact h3
    · have e2 : i = es.length := by simp at hi; omega
      subst e2
      refine ⟨k, hk, by omega, ?_, ?_, hc⟩
      · simpa using he
      · rw [h.len]; simp
theorem flat9 : ∀ {es : List (List Value)}, (∀ e ∈ es, e.length = 9) → es.flatten.length = es.length * 9
  | [], _ => rfl
  | e :: r, h => by
    rw [List.flatten_cons, List.length_append, h e (by simp), flat9 fun x hx => h x (by simp [hx])]
    simp only [List.length_cons]; omega
theorem flat_at : ∀ {es : List (List Value)}, (∀ e ∈ es, e.length = 9) → ∀ (i j : Nat) (hi : i < es.length), j < 9 → es.flatten[i * 9 + j]? = es[i][j]?
  | [], _, i, j, hi, _ => by simp at hi
  | e :: r, h, 0, j, hi, hj => by
    rw [List.flatten_cons, List.getElem?_append_left (by rw [h e (by simp)]; omega)]; simp
  | e :: r, h, i + 1, j, hi, hj => by
    have h9 := h e (by simp)
    rw [List.flatten_cons, List.getElem?_append_right (by omega), h9, show (i + 1) * 9 + j - 9 = i * 9 + j by omega, flat_at (fun x hx => h x (by simp [hx])) i j (by simpa using hi) hj]
    simp
theorem CmL.nine {l : List Dn} {k : Nat} {es : List (List Value)} (h : CmL l k es) : ∀ e ∈ es, e.length = 9 := by
  intro e he
  obtain ⟨i, hi, rfl⟩ := List.getElem_of_mem he
  obtain ⟨p, hp, _, ⟨a, c, b, d, h2⟩, _⟩ := h.at_ i hi
  rw [h2]; rfl
set_option maxRecDepth 100000 in
theorem info_cm : ∃ i z, Tryd.prog.info? 68 = some i ∧ i.zero = some z ∧ i.size = 9 ∧ i.bytes = 112 ∧ z.cells.size = 9 := by
  refine ⟨_, _, rfl, rfl, ?_, ?_, ?_⟩ <;> kernel_rfl
theorem app_cm (es : List (List Value)) (e : List Value) (x : Dn) (p : Nat) (he : CmE e x p) (v : Value) (base h : Nat) (W : World) (ho : W.ownsRow base 68 9 v es.length es.flatten) (hu : W.heap[h]? = some (.cells e.toArray 68 (0, 0))) (hk : es.length ≤ 60) (hb : base ≤ W.heap.size) :
    ∃ g cap W', (Builtin.append_ #[58, 58] 58 #[v, .slice (some ⟨h, 0, none⟩) 1 1]).run Tryd.prog W = .ok (.slice (some ⟨g, 0, none⟩) (es.length + 1) cap) W' ∧ W'.ownsRow base 68 9 (.slice (some ⟨g, 0, none⟩) (es.length + 1) cap) (es ++ [e]).length (es ++ [e]).flatten ∧ W.grownBy W' v.ownBlock := by
  obtain ⟨i, z, hi, hz, hsz, hby, hzs⟩ := info_cm
  obtain ⟨a, c, b, d, rfl⟩ := he
  obtain ⟨g, cap, W', h1, h2, h3, _⟩ := run_append_lies (P := Tryd.prog) W 58 58 base 68 i z 9 112 Tryd.underlying58 hi hz hsz hby hzs (by decide) v es.length es.flatten ho ⟨h, 0, none⟩ 1 1 _ rfl (fun j y hx => by
    rw [add_plain, Nat.zero_add]
    exact (row_cell hu j).trans (by simpa using hx)) (fun y hy => by simp at hy; rcases hy with rfl | rfl | rfl | rfl | rfl | rfl | rfl | rfl | rfl <;> rfl) (by omega) (by unfold maxLen; omega) (by omega) hb W.heap.size rfl
  exact ⟨g, cap, W', h1, by simpa using h2, h3⟩
set_option maxHeartbeats 4000000 in
theorem impl_in (a : Option Addr) (c : Nat) (l : List Dn) (w : World) (hr : DnRow 0 w.heap.size w a l) (hl : l.length ≤ 60) :
    Calls Tryd.prog 25 #[.slice a l.length c] w fun e w' => ∃ v es, e = .returned v ∧ CmL l l.length es ∧ w'.ownsRow w.heap.size 68 9 v es.length es.flatten ∧ Below w.heap.size w w' := by
  have HR : Hid (DnRow 0 w.heap.size w a l) := hr
  clear hr
  go_enter Tryd.func25, Tryd.ntmps25
  go_wp2_with fail
  go_loopw [3, 8] (fun s i w' => ∃ (k : Nat) (es : List (List Value)), k ≤ l.length ∧ i = .int .i64 k ∧ Hid (CmL l k es) ∧ Hid (Below w.heap.size w w') ∧ Hid (w'.ownsRow w.heap.size 68 9 s es.length es.flatten)) (fun _ i _ => l.length - (intOf i).toNat)
  case atStart => exact ⟨0, [], by omega, rfl, CmL.nil, Below.refl _ _, ⟨rfl, .inl ⟨rfl, rfl⟩⟩⟩
  case round =>
    obtain ⟨k, es, hk, rfl, HL, HB, HO⟩ := hrel
    obtain ⟨wo, rfl⟩ : ∃ x, x = wr := ⟨_, rfl⟩
    have hz := HB.out.size
    have hkl : es.length ≤ 60 := by rw [HL.out.len]; have := comP_len l k; omega
    by_cases hlt : k < l.length
    · obtain ⟨g, o, a3, c3, b3, e3, ha, _, hbl, d0, d1, d2, d3x, d4, d5, d6, d7, r1, r2⟩ := DnRow.cells (HR.out.keep (Below.agree HB.out (Nat.le_refl _))) k hlt
      subst ha
      obtain ⟨x, hx⟩ : ∃ x, x = l[k] := ⟨_, rfl⟩
      have HX : Hid (x = l[k]) := hx
      have HCA : Hid (comA l k = decide (x.code = 0)) := by rw [Hid, comA_at hlt, hx]
      rw [← hx] at d0 d1 d2 d3x d4 d5 d6 d7
      clear r1 r2 hx
      obtain ⟨V, hV⟩ : ∃ V, V = wo.alloc (.cells #[.int .i64 x.id, .int .i64 x.code, .int .i64 x.ts, .int .i64 x.since, .bool x.wr, .slice a3 x.defs.length c3, .slice b3 x.vars.length e3, .string x.t] 54) := ⟨_, rfl⟩
      have zV : V.heap.size = wo.heap.size + 1 := by rw [hV]; simp
      have bV : Below wo.heap.size wo V := by rw [hV]; exact (Below.refl _ _).alloc (Nat.le_refl _) _
      have HB2 : Hid (Below w.heap.size w V) := HB.out.trans (bV.mono hz)
      have HO2 : Hid (V.ownsRow w.heap.size 68 9 u3 es.length es.flatten) := own_up HO.out bV
      by_cases hg : x.code = 0
      case neg =>
        have HL2 : Hid (CmL l (k + 1) es) := .skip HL.out (by rw [HCA.out, decide_eq_false hg])
        have hg' : (x.code == 0) = false := by simpa using hg
        have HVV : Hid _ := hV
        clear hg bV hV zV
        go_wp2_with fail
        rw [← HVV.out]
        exact ⟨⟨k + 1, es, by omega, by go_num, HL2, HB2, HO2⟩, by simp [intOf]; omega⟩
      case pos =>
        obtain ⟨e, he⟩ : ∃ e, e = [Value.int .i64 x.id, .int .i64 x.code, .int .i64 x.ts, .int .i64 x.since, .bool x.wr, .slice a3 x.defs.length c3, .slice b3 x.vars.length e3, .string x.t, .int .i64 k] := ⟨_, rfl⟩
        have hE : CmE e x k := ⟨a3, c3, b3, e3, he⟩
        have HL2 : Hid (CmL l (k + 1) (es ++ [e])) := .more HL.out hlt (by rw [HCA.out, decide_eq_true hg]) (by rw [← HX.out]; exact hE)
        have hg' : (x.code == 0) = true := by simpa using hg
        have hbn : Below V.heap.size V (V.alloc (.cells e.toArray 68)) := (Below.refl _ _).alloc (Nat.le_refl _) _
        obtain ⟨g', cap, W', hrun, o1, o2⟩ := app_cm es e x k hE u3 w.heap.size V.heap.size (V.alloc (.cells e.toArray 68)) (own_up HO2.out hbn) (heap_alloc_new _ _) hkl (by simp; omega)
        have HRUN : Hid _ := hrun
        have Q3 : Hid (Below w.heap.size w W') := (HB2.out.alloc (by omega) _).grown o2 (by simp; omega) (fun k hk => (own_in HO2.out k hk).1)
        have O3 : Hid (W'.ownsRow w.heap.size 68 9 (.slice (some ⟨g', 0, none⟩) (es.length + 1) cap) (es ++ [e]).length (es ++ [e]).flatten) := o1
        have HVV : Hid _ := hV
        have HEE : Hid _ := he
        have HZ : Hid _ := zV
        clear hrun o1 o2 hbn hg bV hV zV he hE
        rw [HEE.out, HVV.out] at HRUN
        have zz : (wo.alloc (.cells #[.int .i64 x.id, .int .i64 x.code, .int .i64 x.ts, .int .i64 x.since, .bool x.wr, .slice a3 x.defs.length c3, .slice b3 x.vars.length e3, .string x.t] 54)).heap.size = wo.heap.size + 1 := by simp
        rw [zz] at HRUN
        clear zz
        go_wp2_with (first | (at_builtin; refine wpList_app_run rfl _ _ _ rfl _ _ _ _ rfl rfl HRUN.out ?_) | fail)
        exact ⟨⟨k + 1, es ++ [e], by omega, by go_num, HL2, Q3, by unfold Hid; simpa using O3.out⟩, by simp [intOf]; omega⟩
    · obtain rfl : k = l.length := by omega
      go_wp2_with fail
      go_ret
      exact ⟨_, es, rfl, HL.out, HO.out, HB.out⟩
/-- The cells of a row that is owned. -/
theorem own_cells {w : World} {base size n : Nat} {e : TypeId} {v : Value} {xs : List Value} (h : w.ownsRow base e size v n xs) (hn : 0 < n) : ∃ g cap, v = .slice (some ⟨g, 0, none⟩) n cap ∧ base ≤ g ∧ g < w.heap.size ∧ ∀ j u, xs[j]? = some u → w.cell? ⟨g, j, none⟩ = some u := by
  rcases h.2 with ⟨_, h0⟩ | ⟨g, cap, cur, rfl, h1, h2, h3, h4, h5, h6⟩
  · omega
  · refine ⟨g, cap, rfl, h1, (Array.getElem?_eq_some_iff.1 h2).1, fun j u hu => ?_⟩
    have hj := (List.getElem?_eq_some_iff.1 hu).1
    refine (row_cell h2 j).trans ?_
    rw [← h6, List.getElem?_take] at hu
    split at hu
    · simpa using hu
    · cases hu
def upto (ps : List Int) (k : Nat) : List Int := ps.take k
def CmR (es : List (List Value)) (ps : List Int) : Prop := es.length = ps.length ∧ ∀ i (h : i < es.length), ∃ x p, CmE es[i] x p ∧ ps[i]? = some (p : Int)
theorem CmR.nine {es : List (List Value)} {ps : List Int} (h : CmR es ps) : ∀ e ∈ es, e.length = 9 := by
  intro e he
  obtain ⟨i, hi, rfl⟩ := List.getElem_of_mem he
  obtain ⟨x, p, ⟨a, c, b, d, h2⟩, _⟩ := h.2 i hi
  rw [h2]; rfl
theorem CmL.rel {l : List Dn} {k : Nat} {es : List (List Value)} (h : CmL l k es) : CmR es (comP l k) := by
  refine ⟨h.len, fun i hi => ?_⟩
  obtain ⟨p, hp, _, h2, h3, _⟩ := h.at_ i hi
  exact ⟨l[p], p, h2, h3⟩
/-- One of them, cell for cell. -/
theorem cm_cells {w : World} {base : Nat} {v : Value} {es : List (List Value)} {ps : List Int} (hr : CmR es ps) (h : w.ownsRow base 68 9 v es.length es.flatten) (k : Nat) (hk : k < es.length) :
    ∃ (g cap : Nat) (x : Dn) (a : Option Addr) (c : Nat) (b : Option Addr) (d p : Nat), v = .slice (some ⟨g, 0, none⟩) es.length cap ∧ base ≤ g ∧ g < w.heap.size ∧ es[k] = [.int .i64 x.id, .int .i64 x.code, .int .i64 x.ts, .int .i64 x.since, .bool x.wr, .slice a x.defs.length c, .slice b x.vars.length d, .string x.t, .int .i64 p] ∧ ps[k]? = some (p : Int) ∧
      w.cell? ⟨g, k * 9, none⟩ = some (.int .i64 x.id) ∧ w.cell? ⟨g, k * 9 + 1, none⟩ = some (.int .i64 x.code) ∧ w.cell? ⟨g, k * 9 + 2, none⟩ = some (.int .i64 x.ts) ∧ w.cell? ⟨g, k * 9 + 3, none⟩ = some (.int .i64 x.since) ∧ w.cell? ⟨g, k * 9 + 4, none⟩ = some (.bool x.wr) ∧ w.cell? ⟨g, k * 9 + 5, none⟩ = some (.slice a x.defs.length c) ∧ w.cell? ⟨g, k * 9 + 6, none⟩ = some (.slice b x.vars.length d) ∧ w.cell? ⟨g, k * 9 + 7, none⟩ = some (.string x.t) ∧ w.cell? ⟨g, k * 9 + 8, none⟩ = some (.int .i64 p) := by
  obtain ⟨g, cap, h1, h2, h3, h4⟩ := own_cells h (by omega)
  obtain ⟨x, p, ⟨a, c, b, d, he⟩, hp⟩ := hr.2 k hk
  have G : ∀ j u, j < 9 → es[k][j]? = some u → w.cell? ⟨g, k * 9 + j, none⟩ = some u := fun j u hj hu => h4 _ _ ((flat_at hr.nine k j hk hj).trans hu)
  exact ⟨g, cap, x, a, c, b, d, p, h1, h2, h3, he, hp, G 0 _ (by omega) (by rw [he]; rfl), G 1 _ (by omega) (by rw [he]; rfl), G 2 _ (by omega) (by rw [he]; rfl), G 3 _ (by omega) (by rw [he]; rfl), G 4 _ (by omega) (by rw [he]; rfl), G 5 _ (by omega) (by rw [he]; rfl), G 6 _ (by omega) (by rw [he]; rfl), G 7 _ (by omega) (by rw [he]; rfl), G 8 _ (by omega) (by rw [he]; rfl)⟩
set_option maxHeartbeats 4000000 in
theorem impl_places (es : List (List Value)) (ps : List Int) (v : Value) (base : Nat) (w : World) (hr : CmR es ps) (ho : w.ownsRow base 68 9 v es.length es.flatten) (hl : es.length ≤ 60) :
    Calls Tryd.prog 24 #[v] w fun e w' => ∃ a' c', e = .returned (.slice a' ps.length c') ∧ NuOwn w.heap.size w'.heap.size w' a' ps ∧ Below w.heap.size w w' := by
  have HR : Hid _ := hr
  have HO0 : Hid _ := ho
  have HE : Hid (es.length = ps.length) := hr.1
  obtain ⟨av, cv, hv⟩ : ∃ a c, v = .slice a es.length c := by
    rcases ho.2 with ⟨e, h0⟩ | ⟨g, cap, cur, e, _⟩
    · exact ⟨none, 0, by rw [e, h0]⟩
    · exact ⟨_, cap, e⟩
  subst hv
  clear hr ho
  go_enter Tryd.func24, Tryd.ntmps24
  go_wp2_with fail
  go_loopw [3, 8] (fun s i w' => ∃ (k : Nat), k ≤ es.length ∧ i = .int .i64 k ∧ Hid (Below w.heap.size w w') ∧ Hid (w'.ownsRow w.heap.size 3 1 s (upto ps k).length (nuV (upto ps k)))) (fun _ i _ => es.length - (intOf i).toNat)
  case atStart => exact ⟨0, by omega, rfl, Below.refl _ _, ⟨rfl, .inl ⟨rfl, rfl⟩⟩⟩
  case round =>
    obtain ⟨k, hk, rfl, HB, HO⟩ := hrel
    obtain ⟨wo, rfl⟩ : ∃ x, x = wr := ⟨_, rfl⟩
    have hz := HB.out.size
    by_cases hlt : k < es.length
    · obtain ⟨g, cap, x, a, c, b, d, p, hv, _, hbl, he, hp, d0, d1, d2, d3x, d4, d5, d6, d7, d8⟩ := cm_cells HR.out (own_up HO0.out HB.out) k hlt
      injection hv with hv1 _ hv2
      subst hv1
      have HTK : Hid (upto ps (k + 1) = upto ps k ++ [(p : Int)]) := by
        have hlt2 : k < ps.length := by rw [← HE.out]; exact hlt
        rw [List.getElem?_eq_getElem hlt2, Option.some.injEq] at hp
        rw [Hid, upto, upto, List.take_succ_eq_append_getElem hlt2, hp]
      have hkl : (upto ps k).length ≤ 60 := by have := HE.out; simp [upto]; omega
      obtain ⟨V, hV⟩ : ∃ V, V = wo.alloc (.cells #[.int .i64 x.id, .int .i64 x.code, .int .i64 x.ts, .int .i64 x.since, .bool x.wr, .slice a x.defs.length c, .slice b x.vars.length d, .string x.t, .int .i64 p] 68) := ⟨_, rfl⟩
      have zV : V.heap.size = wo.heap.size + 1 := by rw [hV]; simp
      have bV : Below wo.heap.size wo V := by rw [hV]; exact (Below.refl _ _).alloc (Nat.le_refl _) _
      have HB2 : Hid (Below w.heap.size w V) := HB.out.trans (bV.mono hz)
      have HO2 : Hid (V.ownsRow w.heap.size 3 1 u3 (upto ps k).length (nuV (upto ps k))) := own_up HO.out bV
      have hbn : Below V.heap.size V (V.alloc (.cells #[.int .i64 (p : Int)] 3)) := (Below.refl _ _).alloc (Nat.le_refl _) _
      obtain ⟨g', cap', W', hrun, o1, o2, o3, o4⟩ := app_num (upto ps k) (p : Int) u3 w.heap.size V.heap.size (V.alloc (.cells #[.int .i64 (p : Int)] 3)) (own_up HO2.out hbn) (heap_alloc_new _ _) (by omega) (by simp; omega)
      have HRUN : Hid _ := hrun
      have Q3 : Hid (Below w.heap.size w W') := (HB2.out.alloc (by omega) _).grown o2 (by simp; omega) (fun k hk => (own_in HO2.out k hk).1)
      have O3 : Hid (W'.ownsRow w.heap.size 3 1 (.slice (some ⟨g', 0, none⟩) ((upto ps k).length + 1) cap') (upto ps (k + 1)).length (nuV (upto ps (k + 1)))) := by
        rw [Hid, HTK.out]; simpa using o1
      have HVV : Hid _ := hV
      clear hrun o1 o2 o3 o4 hbn HTK bV hV zV hp he
      rw [HVV.out] at HRUN
      have zz : (wo.alloc (.cells #[.int .i64 x.id, .int .i64 x.code, .int .i64 x.ts, .int .i64 x.since, .bool x.wr, .slice a x.defs.length c, .slice b x.vars.length d, .string x.t, .int .i64 p] 68)).heap.size = wo.heap.size + 1 := by simp
      rw [zz] at HRUN
      clear zz
      go_wp2_with (first | (at_builtin; refine wpList_app_run rfl _ _ _ rfl _ _ _ _ rfl rfl HRUN.out ?_) | fail)
      exact ⟨⟨_, _, _, ⟨k + 1, by omega, by go_num, O3⟩, rfl, rfl, rfl⟩, by simp [intOf]; omega⟩
    · obtain rfl : k = es.length := by omega
      have e9 : upto ps es.length = ps := by rw [upto, HE.out, List.take_length]
      have ho := HO.out
      rw [e9] at ho
      obtain ⟨a', c', hv, ho⟩ := NuOwn.of ho
      have HO2 : Hid _ := ho
      subst hv
      clear ho e9 HO
      go_wp2_with fail
      go_ret
      exact ⟨a', c', rfl, HO2.out, HB.out⟩
set_option maxHeartbeats 4000000 in
theorem impl_com (a : Option Addr) (c : Nat) (l : List Dn) (w : World) (hr : DnRow 0 w.heap.size w a l) (hl : l.length ≤ 1048576) (ht : Er.TabH w) :
    Calls Tryd.prog 9 #[.slice a l.length c] w fun e w' => ∃ a' c', e = .returned (.tuple #[.slice a' (comR l).length c', .int .i64 (hisC l)]) ∧ NuOwn w.heap.size w'.heap.size w' a' (comR l) ∧ Below w.heap.size w w' := by
  have HR : Hid (∀ W0, Below w.heap.size w W0 → DnRow 0 W0.heap.size W0 a l) := fun W0 hB => hr.up hB
  have HT : Hid _ := ht
  clear hr ht
  go_enter Tryd.func9, Tryd.ntmps9
  go_wp2_with fail
  refine (impl_his a c l _ (HR.out _ (Below.refl _ _)) hl HT.out).mono ?_
  rintro e w1 ⟨rfl, hb1⟩
  have Q1 : Hid (Below w.heap.size w w1) := hb1
  have z1 := hb1.size
  clear hb1
  by_cases h0 : hisC l = 0
  case neg =>
    have HE : Hid (comR l = []) := comR_not h0
    obtain ⟨z, hz⟩ : ∃ z, z = hisC l := ⟨_, rfl⟩
    have HZ : Hid (z = hisC l) := hz
    have h0' : (z != 0) = true := by rw [hz]; simpa using h0
    rw [← hz]
    clear h0 hz
    go_wp2_with fail
    go_ret2
    exact ⟨none, 0, ret_nk (by rw [HE.out]; rfl) HZ.out, .inl HE.out, Q1.out⟩
  have HE : Hid (comR l = comP l l.length) := comR_ok h0
  have h60 := his_len (hisC_zero h0)
  have HZ : Hid (0 = hisC l) := h0.symm
  rw [h0]
  clear h0
  go_wp2_with fail
  refine (impl_in a c l _ (HR.out _ Q1.out) h60).mono ?_
  rintro e w2 ⟨v, es, rfl, hL, ho, hb2⟩
  have HL : Hid _ := hL
  have HO : Hid _ := ho
  have Q2 : Hid (Below w.heap.size w w2) := Q1.out.trans (hb2.mono z1)
  have z2 := hb2.size
  have hlen : es.length ≤ 60 := by rw [hL.len]; have := comP_len l l.length; omega
  clear hL ho hb2
  go_wp2_with fail
  refine (impl_places es (comP l l.length) v w1.heap.size _ HL.out.rel HO.out hlen).mono ?_
  rintro e w3 ⟨a3, c3, rfl, o3, hb3⟩
  have O3 : Hid _ := o3
  have Q3 : Hid (Below w.heap.size w w3) := Q2.out.trans (hb3.mono (by omega))
  clear o3 hb3
  go_wp2_with fail
  go_ret2
  have hv : Value.slice a3 (comP l l.length).length c3 = .slice a3 (comR l).length c3 := by rw [HE.out]
  have hf : NuOwn w.heap.size w3.heap.size w3 a3 (comR l) := by rw [HE.out]; exact NuOwn.wide O3.out (by omega) (Nat.le_refl _)
  first | exact ⟨a3, c3, ret_nk hv HZ.out, hf, Q3.out⟩ | exact ⟨a3, ⟨c3, ret_nk hv HZ.out⟩, hf, Q3.out⟩
end Go.Proofs.YtgnonbghgcpnoaaDoor
