/- Fragments that come to themselves: the specification's way. -/
import Derived.Test.YtajjaddlalbnmaaVaSpr
import Derived.Test.YtajjaddlalbnmaaVaFrag
import Derived.Test.YtajjaddlalbnmaaVaCycTwo
import Derived.Deep.QuietTactic
namespace Go.Proofs.Ytajjaddlalbnmaa
open Go.ChangeShapes Go.WideShapes Go.ChangeAt Go.RowKit Go.Maps
set_option linter.unusedVariables false

def inN (ms : List ByteArray) (t : ByteArray) : Bool := ms.any fun s => s.toList == t.toList
theorem inN_iff {ms : List ByteArray} {t : ByteArray} : inN ms t = true ↔ t.toList ∈ ms.map ByteArray.toList := by
  unfold inN
  rw [List.any_eq_true, List.mem_map]
  constructor
  · rintro ⟨s, h1, h2⟩; exact ⟨s, h1, beq_iff_eq.1 h2⟩
  · rintro ⟨s, h1, h2⟩; exact ⟨s, h1, by rw [h2]; simp⟩
set_option maxHeartbeats 1000000 in
theorem spec_inV (a : Option Addr) (c : Nat) (ms : List ByteArray) (t : ByteArray) (w : World) (hr : NRow 0 w.heap.size w a ms) (hl : ms.length ≤ 1048576) :
    Calls Try.prog 39 #[.slice a ms.length c, .string t] w fun e w' => e = .returned (.bool (inN ms t)) ∧ w' = w := by
  have HR : Hid (NRow 0 w.heap.size w a ms) := hr
  clear hr
  go_enter Try.func39, Try.ntmps39
  go_wp2_with fail
  go_loopw [5] (fun i w' => ∃ (k : Nat), k ≤ ms.length ∧ i = .int .i64 k ∧ w' = w ∧ Hid (∀ s ∈ ms.take k, (s.toList == t.toList) = false)) (fun i _ => ms.length - (intOf i).toNat)
  case atStart => exact ⟨0, Nat.zero_le _, rfl, rfl, by simp [Hid]⟩
  case round =>
    obtain ⟨k, hk, rfl, hw, HA⟩ := hrel
    have hw' := hw.symm
    clear hw
    subst hw'
    by_cases hlt : k < ms.length
    case neg =>
      have hlt' : ¬ (k : Int) < ms.length := by omega
      have HN : Hid (inN ms t = false) := by
        have := HA.out
        rw [List.take_of_length_le (by omega)] at this
        unfold Hid inN
        rw [List.any_eq_false]
        intro s hs; rw [this s hs]; simp
      go_wp2_with fail
      go_ret
      exact ⟨by rw [HN.out]; rfl, rfl⟩
    have hlt' : (k : Int) < ms.length := by omega
    obtain ⟨b, o, ha, hbl, d0⟩ := NRow.at_ HR.out k hlt
    subst ha
    cases h4 : (ms[k].toList == t.toList) with
    | true =>
      have HN : Hid (inN ms t = true) := List.any_eq_true.2 ⟨ms[k], List.getElem_mem hlt, h4⟩
      go_wp2_with fail
      go_ret
      exact ⟨by rw [HN.out]; rfl, rfl⟩
    | false =>
      have HA2 : Hid (∀ s ∈ ms.take (k + 1), (s.toList == t.toList) = false) := by
        rw [List.take_succ_eq_append_getElem hlt]
        intro s hs
        rcases List.mem_append.1 hs with hs | hs
        · exact HA.out s hs
        · simp only [List.mem_singleton] at hs; subst hs; exact h4
      go_wp2_with fail
      exact ⟨⟨k + 1, by omega, by go_num, by first | trivial | rfl, HA2⟩, by simp [intOf]; omega⟩
theorem spE_frS (l : List De) (n : ByteArray) : spE l n.toList = sprdL (frS l n) := by
  unfold spE frS
  rw [isFrL_eq]
  cases l.find? (isFr n) <;> rfl
/-- The names gone through from a fragment: its own spreads, and those that joined. -/
structure SeO (l : List De) (x : De) (k : Nat) (E : List ByteArray) : Prop where
  ok : SeenOK l x.nm.toList k ((sprd x.sels ++ E).map ByteArray.toList)
  nd : (E.map ByteArray.toList).Nodup
  all : ∀ s ∈ E, s.toList ∈ allSp l
theorem SeO.len {l : List De} {x : De} {k : Nat} {E : List ByteArray} (h : SeO l x k E) : E.length ≤ (allSp l).length := by
  have := nodup_sub _ (allSp l) h.nd fun s hs => by
    obtain ⟨t, ht, rfl⟩ := List.mem_map.1 hs
    exact h.all t ht
  simpa using this
theorem SeO.start {l : List De} {x : De} (hx : l.find? (isFr x.nm) = some x) : SeO l x 0 [] := by
  have e := spE_of hx
  refine ⟨⟨fun m hm => ?_, fun m hm => ?_, fun j _ h => absurd h (by omega)⟩, by simp, fun s hs => by simp at hs⟩
  · rw [List.append_nil] at hm; exact .one (by rw [e]; exact hm)
  · rw [List.append_nil]; rw [e] at hm; exact hm
/-- While one name's own spreads join. -/
structure SeI (l : List De) (x : De) (k : Nat) (E0 : List ByteArray) (more : List ByteArray) (j : Nat) (E : List ByteArray) : Prop where
  pre : ∃ F, E = E0 ++ F
  rc : ∀ m ∈ (sprd x.sels ++ E).map ByteArray.toList, Rc (spE l) x.nm.toList m
  nd : (E.map ByteArray.toList).Nodup
  all : ∀ s ∈ E, s.toList ∈ allSp l
  got : ∀ s ∈ more.take j, s.toList ∈ (sprd x.sels ++ E).map ByteArray.toList
theorem SeI.start {l : List De} {x : De} {k : Nat} {E : List ByteArray} {more : List ByteArray} (h : SeO l x k E) : SeI l x k E more 0 E := ⟨⟨[], by simp⟩, h.ok.rc, h.nd, h.all, fun s hs => by simp at hs⟩
theorem SeI.skip {l : List De} {x : De} {k j : Nat} {E0 E more : List ByteArray} (h : SeI l x k E0 more j E) (hj : j < more.length) (hi : inN (sprd x.sels ++ E) more[j] = true) : SeI l x k E0 more (j + 1) E := by
  refine ⟨h.pre, h.rc, h.nd, h.all, fun s hs => ?_⟩
  rw [List.take_succ_eq_append_getElem hj] at hs
  rcases List.mem_append.1 hs with hs | hs
  · exact h.got s hs
  · simp only [List.mem_singleton] at hs
    subst hs
    exact inN_iff.1 hi
theorem SeI.add {l : List De} {x : De} {k j : Nat} {E0 E more : List ByteArray} (h : SeI l x k E0 more j E) (hj : j < more.length) (hi : inN (sprd x.sels ++ E) more[j] = false) (hr : Rc (spE l) x.nm.toList more[j].toList) (ha : more[j].toList ∈ allSp l) : SeI l x k E0 more (j + 1) (E ++ [more[j]]) := by
  have hni : more[j].toList ∉ (sprd x.sels ++ E).map ByteArray.toList := fun hc => by rw [inN_iff.2 hc] at hi; cases hi
  obtain ⟨F, rfl⟩ := h.pre
  refine ⟨⟨F ++ [more[j]], by simp⟩, fun m hm => ?_, ?_, fun s hs => ?_, fun s hs => ?_⟩
  · rw [← List.append_assoc, List.map_append] at hm
    rcases List.mem_append.1 hm with hm | hm
    · exact h.rc m hm
    · simp only [List.map_cons, List.map_nil, List.mem_singleton] at hm; subst hm; exact hr
  · rw [List.map_append, List.nodup_append]
    refine ⟨h.nd, by simp, ?_⟩
    intro p hp q hq e
    simp only [List.map_cons, List.map_nil, List.mem_singleton] at hq
    refine hni ?_
    rw [List.map_append]
    exact List.mem_append_right _ (by rw [← hq, ← e]; exact hp)
  · rcases List.mem_append.1 hs with hs | hs
    · exact h.all s hs
    · simp only [List.mem_singleton] at hs; subst hs; exact ha
  · rw [← List.append_assoc, List.map_append]
    rw [List.take_succ_eq_append_getElem hj] at hs
    rcases List.mem_append.1 hs with hs | hs
    · exact List.mem_append_left _ (h.got s hs)
    · simp only [List.mem_singleton] at hs; subst hs; exact List.mem_append_right _ (by simp)
theorem SeI.done {l : List De} {x : De} {k : Nat} {E0 E more : List ByteArray} (h0 : SeO l x k E0) (h : SeI l x k E0 more more.length E) (hk : k < (sprd x.sels ++ E0).length) (hne : (sprd x.sels ++ E0)[k].toList ≠ x.nm.toList) (hm : more = sprd (frS l (sprd x.sels ++ E0)[k])) : SeO l x (k + 1) E := by
  obtain ⟨F, rfl⟩ := h.pre
  have sub : ∀ m, m ∈ (sprd x.sels ++ E0).map ByteArray.toList → m ∈ (sprd x.sels ++ (E0 ++ F)).map ByteArray.toList := fun m hm => by
    rw [← List.append_assoc, List.map_append]; exact List.mem_append_left _ hm
  refine ⟨⟨h.rc, fun m hm => sub m (h0.ok.first m hm), fun j hj hjk => ?_⟩, h.nd, h.all⟩
  have hjl : j < (sprd x.sels ++ E0).length := by omega
  have e : ((sprd x.sels ++ (E0 ++ F)).map ByteArray.toList)[j] = (sprd x.sels ++ E0)[j].toList := by
    rw [List.getElem_map]
    congr 1
    simp only [← List.append_assoc]
    exact List.getElem_append_left hjl
  rw [e]
  by_cases hjk' : j < k
  · have := h0.ok.done j (by simpa using hjl) hjk'
    rw [List.getElem_map] at this
    exact ⟨this.1, fun m hm => sub m (this.2 m hm)⟩
  · obtain rfl : j = k := by omega
    refine ⟨hne, fun m hm' => ?_⟩
    rw [spE_frS] at hm'
    unfold sprdL at hm'
    rw [← hm] at hm'
    obtain ⟨s, hs, rfl⟩ := List.mem_map.1 hm'
    exact h.got s (by rw [List.take_length]; exact hs)
theorem NOwn.rowLo {w : World} {base : Nat} {a : Option Addr} {n c : Nat} {ms : List ByteArray} (h : NOwn base w (.slice a n c) ms) : NRow base w.heap.size w a ms := by
  rcases h.2 with ⟨e, h0⟩ | ⟨g, cap, cur, e, q1, q2, q3, q4, q5, q6⟩
  · exact .inl (List.length_eq_zero_iff.1 h0)
  · simp only [Value.slice.injEq] at e
    obtain ⟨rfl, _⟩ := e
    refine .inr ⟨g, 0, rfl, q1, (Array.getElem?_eq_some_iff.1 q2).1, fun i x hx => ?_⟩
    have hi := (List.getElem?_eq_some_iff.1 hx).1
    show rdOf _ _ (0 + i * 1) = _
    have : (ms.map Value.string)[i]? = some (.string x) := by rw [List.getElem?_map, hx]; rfl
    rw [← q6, List.getElem?_take, if_pos (by omega)] at this
    rw [row_rd q2, ← this]
    simp
theorem frS_bd {l : List De} (hd : DefsBd 1048576 l) (hz : ∀ x ∈ l, x.sels.size ≤ 1000) (n : ByteArray) : (frS l n).len ≤ 1048576 ∧ SelsBd 1048576 (frS l n) ∧ (frS l n).size ≤ 1000 := by
  unfold frS
  split
  · exact ⟨Nat.zero_le _, trivial, Nat.zero_le _⟩
  · rename_i y hy
    have hm := List.mem_of_find?_eq_some hy
    have := hd.2 y hm
    exact ⟨this.2.2.1, this.2.2.2, hz y hm⟩
/-- Whether there is a cycle is told. -/
def CycB (l : List De) (e : Ending) : Prop := ∃ y, e = .returned (.bool y) ∧ (y = true ↔ Cyc l)
set_option maxHeartbeats 16000000 in
set_option maxRecDepth 40000 in
theorem spec_cycle (a : Option Addr) (c : Nat) (l : List De) (w : World) (hr : DeRow 0 w.heap.size w a l) (hb : DefsBd 1048576 l) (hdis : ∀ x ∈ l, (x.k == 3) = true → l.find? (isFr x.nm) = some x) (hsz : ∀ x ∈ l, x.sels.size ≤ 1000) (hall : (allSp l).length ≤ 1000) :
    Calls Try.prog 21 #[.agg #[.slice a l.length c]] w fun e w' => CycB l e ∧ Below w.heap.size w w' := by
  obtain ⟨V, hV⟩ : ∃ V, V = w.alloc (.cells #[.slice a l.length c] 25) := ⟨_, rfl⟩
  have B0 : Below w.heap.size w V := by rw [hV]; exact (Below.refl _ _).alloc (Nat.le_refl _) _
  have c0 : V.heap[w.heap.size]? = some (.cells #[.slice a l.length c] 25 (0, 0)) := by rw [hV]; exact heap_alloc_new _ _
  have z0 := (Array.getElem?_eq_some_iff.1 c0).1
  obtain ⟨ac, hac⟩ := docAc (DeRow.up hr B0)
  have HC : Hid (DocAc V a l ac) := hac
  have HB : Hid (DefsBd 1048576 l) := hb
  have HB0 : Hid (Below w.heap.size w V) := B0
  have HC0 : Hid (V.heap[w.heap.size]? = some (.cells #[.slice a l.length c] 25 (0, 0))) := c0
  have HDIS : Hid (∀ x ∈ l, (x.k == 3) = true → l.find? (isFr x.nm) = some x) := hdis
  have HSZ : Hid (∀ x ∈ l, x.sels.size ≤ 1000) := hsz
  have HALL : Hid ((allSp l).length ≤ 1000) := hall
  have hll : l.length ≤ 1048576 := hb.1
  clear hr hb c0 B0 hac hdis hsz hall
  go_enter Try.func21, Try.ntmps21
  go_upto_region 1 with fail
  rw [← hV]
  clear hV
  go_wp2_with fail
  go_loopw [3] (fun i w' => ∃ (k : Nat), k ≤ l.length ∧ i = .int .i64 k ∧ Hid (Below V.heap.size V w') ∧ Hid (∀ x ∈ l.take k, (x.k == 3) = true → ¬ Rc (spE l) x.nm.toList x.nm.toList)) (fun i _ => l.length - (intOf i).toNat)
  case atStart => exact ⟨0, Nat.zero_le _, rfl, Below.refl _ _, fun x hx => by simp at hx⟩
  case round =>
    obtain ⟨i, hi, rfl, HBW, HA⟩ := hrel
    obtain ⟨wo, rfl⟩ : ∃ z, z = wr := ⟨_, rfl⟩
    have GB : Hid (Below w.heap.size w wo) := HB0.out.trans (HBW.out.mono HB0.out.size)
    have x0 := fun o => row_cell ((HBW.out.block _ z0).trans HC0.out) o
    by_cases hlt : i < l.length
    case neg =>
      have hlt' : ¬ (i : Int) < l.length := by omega
      have HE : Hid (¬ Cyc l) := by
        rintro ⟨n, hn⟩
        obtain ⟨m, hm, _⟩ := hn.head
        obtain ⟨x, hx, h1, h2⟩ := spE_some hm
        unfold isFrL at h1
        simp only [Bool.and_eq_true, beq_iff_eq] at h1
        refine HA.out x (by rw [List.take_of_length_le (by omega)]; exact hx) (by rw [h1.1]; rfl) ?_
        rw [h1.2]; exact hn
      clear HA
      go_wp2_with fail
      go_ret
      exact ⟨⟨false, rfl, ⟨fun h => (by cases h), fun h => absurd h HE.out⟩⟩, GB.out⟩
    have hlt' : (i : Int) < l.length := by omega
    obtain ⟨b, o, ha, hbl, d0, d1, d2, d3, r3⟩ := HC.out i hlt
    generalize ac i = pk at d3 r3
    obtain ⟨aK, cK⟩ := pk
    simp only at d3 r3
    subst ha
    replace d0 := (HBW.out.cell (p := ⟨b, o + i * 4, none⟩) hbl).trans d0
    have HD1 : Hid (V.cell? ⟨b, o + i * 4 + 1, none⟩ = some (.string l[i].nm)) := d1
    replace d3 := (HBW.out.cell (p := ⟨b, o + i * 4 + 3, none⟩) hbl).trans d3
    have HR3 : Hid (SelRow 0 V.heap.size V aK l[i].sels) := r3
    have HXB : Hid (DeBd 1048576 l[i]) := HB.out.2 _ (List.getElem_mem hlt)
    have HXZ : Hid (l[i].sels.size ≤ 1000) := HSZ.out _ (List.getElem_mem hlt)
    have HXD : Hid ((l[i].k == 3) = true → l.find? (isFr l[i].nm) = some l[i]) := HDIS.out _ (List.getElem_mem hlt)
    have HNXT : Hid (((l[i].k == 3) = true → ¬ Rc (spE l) l[i].nm.toList l[i].nm.toList) → ∀ x ∈ l.take (i + 1), (x.k == 3) = true → ¬ Rc (spE l) x.nm.toList x.nm.toList) := fun h x hx => by
      rw [List.take_succ_eq_append_getElem hlt] at hx
      rcases List.mem_append.1 hx with hx | hx
      · exact HA.out x hx
      · simp only [List.mem_singleton] at hx; subst hx; exact h
    obtain ⟨x, hx⟩ : ∃ x, x = l[i] := ⟨_, rfl⟩
    rw [← hx] at d0 d3 HD1 HR3 HXB HXZ HXD HNXT
    clear hx d1 d2 r3 HA
    cases hk3 : (x.k != 3) with
    | true =>
      have hk3' : (x.k == 3) = false := by simpa [bne] using hk3
      have HT2 : Hid _ := HNXT.out (fun h => by rw [hk3'] at h; cases h)
      go_wp2_with fail
      exact ⟨⟨i + 1, by omega, by go_num, HBW, HT2⟩, by simp [intOf]; omega⟩
    | false =>
    have hk3' : (x.k == 3) = true := by simpa [bne] using hk3
    have HFD : Hid (l.find? (isFr x.nm) = some x) := HXD.out hk3'
    clear hk3'
    go_wp2_with (first | (go_at_call 37; revert hll) | fail)
    intro hll
    refine (sp_sels x.sels aK cK wo (SelRow.up HR3.out HBW.out) HXB.out.2.2.1 HXB.out.2.2.2 (by have := HXZ.out; omega)).mono ?_
    rintro e w1 ⟨⟨a1, c1, rfl, o1⟩, b1⟩
    have O1 : Hid (NOwn wo.heap.size w1 (.slice a1 (sprd x.sels).length c1) (sprd x.sels)) := o1
    have B1 : Hid (Below wo.heap.size wo w1) := b1
    have hs0 : (sprd x.sels).length ≤ 1000 := Nat.le_trans (sprd_len _) HXZ.out
    have HS0 : Hid (SeO l x 0 []) := SeO.start HFD.out
    clear o1 b1 d0 d3 x0
    go_wp2_with fail
    go_loopw [4, 5] (fun v j w' => ∃ (k : Nat) (E : List ByteArray) (a2 : Option Addr) (c2 : Nat), j = .int .i64 k ∧ v = .slice a2 (sprd x.sels ++ E).length c2 ∧ k ≤ (sprd x.sels ++ E).length ∧ Hid (Below wo.heap.size wo w') ∧ Hid (NOwn wo.heap.size w' (.slice a2 (sprd x.sels ++ E).length c2) (sprd x.sels ++ E)) ∧ Hid (SeO l x k E)) (fun _ j _ => 3000 - (intOf j).toNat)
    case atStart => exact ⟨0, [], a1, c1, rfl, by simp, by simp, B1, by simpa [Hid] using O1.out, HS0⟩
    case round =>
      obtain ⟨k, E, a2, c2, rfl, rfl, hk, HB2, HO2, HS2⟩ := hrel
      have hE : E.length ≤ 1000 := Nat.le_trans HS2.out.len HALL.out
      obtain ⟨S, hS⟩ : ∃ S, S = sprd x.sels ++ E := ⟨_, rfl⟩
      have hSl : S.length ≤ 2000 := by rw [hS, List.length_append]; omega
      have HSE : Hid (S = sprd x.sels ++ E) := hS
      rw [← hS] at hk HO2 ⊢
      clear hS
      obtain ⟨wi, rfl⟩ : ∃ z, z = wr := ⟨_, rfl⟩
      have BV2 : Hid (Below V.heap.size V wi) := HBW.out.trans (HB2.out.mono HBW.out.size)
      have GB2 : Hid (Below w.heap.size w wi) := HB0.out.trans (BV2.out.mono HB0.out.size)
      by_cases hkl : k < S.length
      case neg =>
        have hkl' : ¬ (k : Int) < S.length := by omega
        have HT2 : Hid _ := HNXT.out fun _ => by
          have h1 := HS2.out.ok
          rw [← HSE.out] at h1
          have h2 : k = (S.map ByteArray.toList).length := by simp; omega
          rw [h2] at h1
          exact seen_end h1
        go_wp2_with fail
        go_roundw
        case rel => exact ⟨i + 1, by omega, by go_num, BV2, HT2⟩
        case measure => simp [intOf]; omega
      have hkl' : (k : Int) < S.length := by omega
      have hnr : NRow 0 wi.heap.size wi a2 S := by
        obtain ⟨a9, c9, e9, _, h9⟩ := NOwn.row HO2.out
        simp only [Value.slice.injEq] at e9
        rw [e9.1]; exact h9
      obtain ⟨b2, o2, ha2, hbl2, e0⟩ := NRow.at_ hnr k hkl
      clear hnr
      subst ha2
      have y0 := fun o => row_cell ((BV2.out.block _ z0).trans HC0.out) o
      have y1 := (BV2.out.cell (p := ⟨b, o + i * 4 + 1, none⟩) hbl).trans HD1.out
      have HCK : Hid (wi.cell? ⟨b2, o2 + k, none⟩ = some (.string S[k])) := e0
      obtain ⟨t, ht⟩ : ∃ t, t = S[k] := ⟨_, rfl⟩
      rw [← ht] at e0 HCK
      have HTK : Hid (t = S[k]) := ht
      clear ht
      go_upto_region 9 with fail
      go_cut [47] from 31 to 79 (fun u wx => u = .bool (t.toList == x.nm.toList) ∧ Hid (Below wi.heap.size wi wx))
      case first =>
        go_quiet (fail)
        go_wp2_with fail
        go_meet
        exact ⟨rfl, by exact ⟨rfl, rfl, rfl, Nat.le_refl _, fun _ _ => rfl⟩⟩
      obtain ⟨rfl, HBX⟩ := hcut
      obtain ⟨wz, rfl⟩ : ∃ z, z = wc := ⟨_, rfl⟩
      have BV3 : Hid (Below V.heap.size V wz) := BV2.out.trans (HBX.out.mono BV2.out.size)
      have GB3 : Hid (Below w.heap.size w wz) := HB0.out.trans (BV3.out.mono HB0.out.size)
      have BO3 : Hid (Below wo.heap.size wo wz) := HB2.out.trans (HBX.out.mono HB2.out.size)
      have HO3 : Hid (NOwn wo.heap.size wz (.slice (some ⟨b2, o2, none⟩) S.length c2) S) := NOwn.up HO2.out HBX.out
      have HRT : Hid (Rc (spE l) x.nm.toList t.toList) := by
        refine HS2.out.ok.rc _ ?_
        rw [← HSE.out, HTK.out]
        exact List.mem_map.2 ⟨_, List.getElem_mem hkl, rfl⟩
      clear e0 y0 y1
      cases hte : (t.toList == x.nm.toList) with
      | true =>
        have HE : Hid (Cyc l) := ⟨x.nm.toList, by have := HRT.out; rw [beq_iff_eq.1 hte] at this; exact this⟩
        go_wp2_with fail
        go_ret
        exact ⟨⟨true, rfl, ⟨fun _ => HE.out, fun _ => rfl⟩⟩, GB3.out⟩
      | false =>
      have HNE : Hid (t.toList ≠ x.nm.toList) := by rw [beq_eq_false_iff_ne] at hte; exact hte
      have HDC : Hid (wz.heap[w.heap.size]? = _) := (BV3.out.block _ z0).trans HC0.out
      have hzw : w.heap.size < wz.heap.size := by have := BV3.out.size; omega
      have hbl3 : b2 < wz.heap.size := by have := HBX.out.size; omega
      have HCK3 : Hid (wz.cell? ⟨b2, o2 + k, none⟩ = some (.string t)) := (HBX.out.cell (p := ⟨b2, o2 + k, none⟩) hbl2).trans HCK.out
      clear hte
      go_upto_region 11 with fail
      go_cut [6, 7] from 31 to 79 (fun p q wx => ∃ y, p = .pointer (some ⟨y, 0, none⟩) ∧ Hid (wx.heap[y]? = some (.cells #[.int .i64 (frD l t).k, .string (frD l t).nm, .string (frD l t).on, .slice (frAd l ac t).1 (frS l t).len (frAd l ac t).2] 30 (0, 0))) ∧ Hid (Below wz.heap.size wz wx))
      case first =>
        refine G.region_rel5 (n := 11) (k := 1) (by omega) (by kernel_rfl) (by kernel_rfl) (by kernel_rfl) (fun u => ⟨#[.agg #[.slice (some ⟨b, o, none⟩) l.length c], .pointer (some ⟨w.heap.size, 0, none⟩), u2, .int .i64 i, .slice (some ⟨b2, o2, none⟩) S.length c2, .int .i64 k, u 6, u 7, u8, u9, .int .i64 i, .pointer (some ⟨w.heap.size, 0, none⟩), .slice (some ⟨b, o, none⟩) l.length c, .int .i64 l.length, .bool true, u15, u16, .pointer (some ⟨w.heap.size, 0, none⟩), .slice (some ⟨b, o, none⟩) l.length c, .int .i64 i, .pointer (some ⟨b, o + i * 4, none⟩), .pointer (some ⟨b, o + i * 4, none⟩), .int .i64 x.k, .bool false, .pointer (some ⟨w.heap.size, 0, none⟩), .slice (some ⟨b, o, none⟩) l.length c, .int .i64 i, .pointer (some ⟨b, o + i * 4, none⟩), .pointer (some ⟨b, o + i * 4 + 3, none⟩), .slice aK x.sels.len cK, .slice a1 (sprd x.sels).length c1, u31, u32, u33, u34, u35, u36, u37, u38, u39, u40, u41, u42, u43, u44, u45, u46, .bool false, u 48, u 49, u 50, u 51, u 52, u 53, u 54, u 55, u 56, u57, u58, u59, u60, u61, u62, u63, u64, u65, u66, u67, u68, u69, u70, u71, u72, u73, u74, u75, u76, u77, u78, u79], []⟩) (fun n => match n with | 49 => u49 | 50 => u50 | 51 => u51 | 52 => u52 | 53 => u53 | 54 => u54 | 48 => u48 | 55 => u55 | 56 => u56 | 6 => u6 | 7 => u7 | _ => undef) (fun i => [49, 50, 51, 52, 53, 54, 48, 55, 56, 6, 99].getD i 0) (fun i j hi hj h => (by decide : ∀ i, i < 11 → ∀ j, j < 11 → [49, 50, 51, 52, 53, 54, 48, 55, 56, 6, 99].getD i 0 = [49, 50, 51, 52, 53, 54, 48, 55, 56, 6, 99].getD j 0 → i = j) i hi j hj h)
          (fun i v _ => match i with | 0 => v = .agg #[.slice (some ⟨b, o, none⟩) l.length c] | 1 => v = .slice (some ⟨b2, o2, none⟩) S.length c2 | 2 => v = .int .i64 (k : Int) | 3 => v = .pointer (some ⟨b2, o2 + k, none⟩) | 4 => v = .string t | 5 => v = .tuple #[frV l ac t, .bool (frB l t)] | 6 => v = .tuple #[frV l ac t, .bool (frB l t)] | 7 => v = frV l ac t | 8 => v = .bool (frB l t) | _ => True) (FgJ wz 30 6 9 10 #[.int .i64 0, .string ⟨#[]⟩, .string ⟨#[]⟩, .slice none 0 0] #[.int .i64 (frD l t).k, .string (frD l t).nm, .string (frD l t).on, .slice (frAd l ac t).1 (frS l t).len (frAd l ac t).2]) FgJ.start ?step ?last
        case step =>
          intro D u W i hi hLs hLi hj hdep
          have hbW : Below wz.heap.size wz W := hj.below
          have y0 := fun o => row_cell ((hbW.block _ hzw).trans HDC.out) o
          have y2 := (hbW.cell (p := ⟨b2, o2 + k, none⟩) hbl3).trans HCK3.out
          have hcase : i = 0 ∨ i = 1 ∨ i = 2 ∨ i = 3 ∨ i = 4 ∨ i = 5 ∨ i = 6 ∨ i = 7 ∨ i = 8 ∨ i = 9 ∨ i = 10 := by omega
          rcases hcase with rfl | rfl | rfl | rfl | rfl | rfl | rfl | rfl | rfl | rfl | rfl
          · have HJ : Hid _ := hj
            refine wpOp_step rfl (fun K hK => ?_)
            clear hdep hj
            go_simp
            exact hK _ _ ⟨.agg #[.slice (some ⟨b, o, none⟩) l.length c], by simp [G.upd], fun _ _ h => h, rfl, HJ.out.step (by decide) (by decide) (by decide) (Below.refl _ _)⟩
          · have HJ : Hid _ := hj
            refine wpOp_step rfl (fun K hK => ?_)
            clear hdep hj
            go_simp
            exact hK _ _ ⟨.slice (some ⟨b2, o2, none⟩) S.length c2, by simp [G.upd], fun _ _ h => h, rfl, HJ.out.step (by decide) (by decide) (by decide) (Below.refl _ _)⟩
          · have HJ : Hid _ := hj
            refine wpOp_step rfl (fun K hK => ?_)
            clear hdep hj
            go_simp
            exact hK _ _ ⟨.int .i64 (k : Int), by simp [G.upd], fun _ _ h => h, rfl, HJ.out.step (by decide) (by decide) (by decide) (Below.refl _ _)⟩
          · have d1 : u 50 = .slice (some ⟨b2, o2, none⟩) S.length c2 := (hdep _ rfl ⟨1, .data⟩ (by simp) rfl).2
            have d2 : u 51 = .int .i64 (k : Int) := (hdep _ rfl ⟨2, .data⟩ (by simp) rfl).2
            have HJ : Hid _ := hj
            refine wpOp_step rfl (fun K hK => ?_)
            clear hdep hj
            go_simp
            exact hK _ _ ⟨.pointer (some ⟨b2, o2 + k, none⟩), by simp [G.upd, d1, d2], fun _ _ h => h, rfl, HJ.out.step (by decide) (by decide) (by decide) (Below.refl _ _)⟩
          · have d3 : u 52 = .pointer (some ⟨b2, o2 + k, none⟩) := (hdep _ rfl ⟨3, .data⟩ (by simp) rfl).2
            have HJ : Hid _ := hj
            refine wpOp_step rfl (fun K hK => ?_)
            clear hdep hj
            go_simp
            exact hK _ _ ⟨.string t, by simp [G.upd, d3], fun _ _ h => h, rfl, HJ.out.step (by decide) (by decide) (by decide) (Below.refl _ _)⟩
          · have d0 : u 49 = .agg #[.slice (some ⟨b, o, none⟩) l.length c] := (hdep _ rfl ⟨0, .data⟩ (by simp) rfl).2
            have d4 : u 53 = .string t := (hdep _ rfl ⟨4, .data⟩ (by simp) rfl).2
            have HJ : Hid _ := hj
            have HQ : Hid _ := spec_frag V (some ⟨b, o, none⟩) c l ac t W HC.out hll (BV3.out.trans (hbW.mono BV3.out.size))
            refine wpOp_step rfl (fun K hK => ?_)
            clear hdep hj
            go_simp
            refine Calls.mono HQ.out ?_
            rintro e w8 ⟨rfl, hb8⟩
            exact hK _ _ ⟨.tuple #[frV l ac t, .bool (frB l t)], by simp [G.upd, d0, d4], fun _ _ h => h, rfl, HJ.out.step (by decide) (by decide) (by decide) hb8⟩
          · have d5 : u 54 = .tuple #[frV l ac t, .bool (frB l t)] := (hdep _ rfl ⟨5, .data⟩ (by simp) rfl).2
            have HJ : Hid _ := hj
            refine wpOp_step rfl (fun K hK => ?_)
            clear hdep hj
            go_simp
            exact hK _ _ ⟨.tuple #[frV l ac t, .bool (frB l t)], by simp [G.upd, d5], fun _ _ h => h, rfl, HJ.out.step (by decide) (by decide) (by decide) (Below.refl _ _)⟩
          · have d6 : u 48 = .tuple #[frV l ac t, .bool (frB l t)] := (hdep _ rfl ⟨6, .data⟩ (by simp) rfl).2
            have HJ : Hid _ := hj
            refine wpOp_step rfl (fun K hK => ?_)
            clear hdep hj
            go_simp
            exact hK _ _ ⟨frV l ac t, by simp [G.upd, d6], fun _ _ h => h, rfl, HJ.out.step (by decide) (by decide) (by decide) (Below.refl _ _)⟩
          · have d6 : u 48 = .tuple #[frV l ac t, .bool (frB l t)] := (hdep _ rfl ⟨6, .data⟩ (by simp) rfl).2
            have HJ : Hid _ := hj
            refine wpOp_step rfl (fun K hK => ?_)
            clear hdep hj
            go_simp
            exact hK _ _ ⟨.bool (frB l t), by simp [G.upd, d6], fun _ _ h => h, rfl, HJ.out.step (by decide) (by decide) (by decide) (Below.refl _ _)⟩
          · have HJ : Hid _ := hj
            have HL : Hid _ := hLi
            refine wpOp_step rfl (fun K hK => ?_)
            clear hdep hj
            go_simp
            exact hK _ _ ⟨_, rfl, fun _ _ h => h, trivial, FgJ.made HJ.out (by decide) (by omega) HL.out⟩
          · have lA := (hdep _ rfl ⟨9, .data⟩ (by simp) rfl).1
            have dV : u 55 = frV l ac t := (hdep _ rfl ⟨7, .data⟩ (by simp) rfl).2
            obtain ⟨y, q1, q2, q3, q4, _⟩ := hj.at_ lA
            have cy := q4 (gD_no (by omega) hLi)
            have x6 := fun o => row_cell cy o
            have y6 := fun o => row_frozen cy o
            have HJ2 : Hid (∀ val, FgJ wz 30 6 9 10 #[.int .i64 0, .string ⟨#[]⟩, .string ⟨#[]⟩, .slice none 0 0] #[.int .i64 (frD l t).k, .string (frD l t).nm, .string (frD l t).on, .slice (frAd l ac t).1 (frS l t).len (frAd l ac t).2] (D.setIfInBounds 10 true) (G.upd u 99 val) ((((W.setCell ⟨y, 0, none⟩ (.int .i64 (frD l t).k)).setCell ⟨y, 1, none⟩ (.string (frD l t).nm)).setCell ⟨y, 2, none⟩ (.string (frD l t).on)).setCell ⟨y, 3, none⟩ (.slice (frAd l ac t).1 (frS l t).len (frAd l ac t).2))) := fun val => FgJ.stored hj (by decide) (by decide) lA (by omega) q1 (fun g hg => by rw [heap_setV _ _ _ _ _ hg, heap_setV _ _ _ _ _ hg, heap_setV _ _ _ _ _ hg, heap_setV _ _ _ _ _ hg]) (by simp) ((((hbW.setCell q2 _).setCell q2 _).setCell q2 _).setCell q2 _) (four_setV cy)
            unfold frV at dV
            refine wpOp_step rfl (fun K hK => ?_)
            clear hdep cy q4 hj
            go_simp
            exact hK _ _ ⟨undef, by simp [G.upd, q1, dV], fun _ _ h => h, trivial, HJ2.out _⟩
        case last =>
          intro D u W hLs hD hj hp
          obtain ⟨y, q1, q2, q3, _, q5⟩ := hj.at_ (hD 9 (by omega))
          have Q5 : Hid _ := q5 (hD 10 (by omega))
          have QB : Hid (Below wz.heap.size wz W) := hj.below
          have d8 : u 56 = .bool (frB l t) := hp 8 (by omega)
          clear hp hj q5
          unfold G.wpTail
          refine wpOp_step rfl (fun K hK => ?_)
          go_simp
          refine hK _ _ ?_
          clear hK
          unfold G.wpTail
          go_wp2_with fail
          go_meet
          exact ⟨y, rfl, Q5, QB⟩
      obtain ⟨yb, rfl, HYC, HBY⟩ := hcut
      obtain ⟨w5, rfl⟩ : ∃ z, z = wc := ⟨_, rfl⟩
      have BV5 : Hid (Below V.heap.size V w5) := BV3.out.trans (HBY.out.mono BV3.out.size)
      have HO5 : Hid (NOwn wo.heap.size w5 (.slice (some ⟨b2, o2, none⟩) S.length c2) S) := NOwn.up HO3.out HBY.out
      have BO5 : Hid (Below wo.heap.size wo w5) := BO3.out.trans (HBY.out.mono BO3.out.size)
      have v5 := fun o => row_cell HYC.out o
      have HFB : Hid ((frS l t).len ≤ 1048576 ∧ SelsBd 1048576 (frS l t) ∧ (frS l t).size ≤ 1000) := frS_bd HB.out HSZ.out t
      have HBB : Hid (b2 < w5.heap.size) := by have := HBY.out.size; unfold Hid; omega
      clear HCK3 HDC
      go_wp2_with (first | (go_at_call 37; revert hll) | fail)
      intro hll
      refine (sp_sels (frS l t) (frAd l ac t).1 (frAd l ac t).2 w5 (SelRow.up (frag_row HC.out t) BV5.out) HFB.out.1 HFB.out.2.1 (by have := HFB.out.2.2; omega)).mono ?_
      rintro e w6 ⟨⟨a6, c6, rfl, o6⟩, b6⟩
      have B6 : Hid (Below w5.heap.size w5 w6) := b6
      have BO6 : Hid (Below wo.heap.size wo w6) := BO5.out.trans (b6.mono BO5.out.size)
      have HO6 : Hid (NOwn wo.heap.size w6 (.slice (some ⟨b2, o2, none⟩) S.length c2) S) := NOwn.up HO5.out b6
      have hz6 := b6.size
      have HMR : Hid (NRow w5.heap.size w6.heap.size w6 a6 (sprd (frS l t))) := NOwn.rowLo o6
      have hml : (sprd (frS l t)).length ≤ 1000 := Nat.le_trans (sprd_len _) HFB.out.2.2
      have HM : Hid (∀ s ∈ sprd (frS l t), Rc (spE l) x.nm.toList s.toList ∧ s.toList ∈ allSp l) := fun s hs => by
        have h1 : s.toList ∈ spE l t.toList := by rw [spE_frS]; exact List.mem_map.2 ⟨s, hs, rfl⟩
        exact ⟨.snoc HRT.out h1, spE_all h1⟩
      have HI0 : Hid (SeI l x k E (sprd (frS l t)) 0 E) := SeI.start HS2.out
      obtain ⟨M, hM⟩ : ∃ M, M = sprd (frS l t) := ⟨_, rfl⟩
      have HME : Hid (M = sprd (frS l t)) := hM
      rw [← hM] at HMR hml HM HI0 ⊢
      rw [HSE.out] at HO6 ⊢
      have HHE : Hid (E.length ≤ 1000) := hE
      clear o6 b6 v5 hM
      go_wp2_with fail
      go_loopw [4, 9] (fun v jj w' => ∃ (j : Nat) (E' : List ByteArray) (a3 : Option Addr) (c3 : Nat), jj = .int .i64 j ∧ v = .slice a3 (sprd x.sels ++ E').length c3 ∧ j ≤ M.length ∧ Hid (Below wo.heap.size wo w') ∧ w6.heap.size ≤ w'.heap.size ∧ Hid (NOwn wo.heap.size w' (.slice a3 (sprd x.sels ++ E').length c3) (sprd x.sels ++ E')) ∧ Hid (∀ g, w5.heap.size ≤ g → g < w6.heap.size → w'.heap[g]? = w6.heap[g]?) ∧ Hid (∀ g, (Value.slice a3 (sprd x.sels ++ E').length c3).ownBlock = some g → g < w5.heap.size ∨ w6.heap.size ≤ g) ∧ Hid (SeI l x k E M j E')) (fun _ jj _ => M.length - (intOf jj).toNat)
      case atStart =>
        refine ⟨0, E, some ⟨b2, o2, none⟩, c2, rfl, by simp, Nat.zero_le _, BO6, Nat.le_refl _, HO6, fun g _ _ => rfl, fun g hg => ?_, HI0⟩
        simp only [Value.ownBlock, Option.some.injEq] at hg
        have := HBB.out
        omega
      case round =>
        obtain ⟨j, E', a3, c3, rfl, rfl, hj, HB7, hz7, HO7, HAG, HOB, HI7⟩ := hrel
        obtain ⟨w7, rfl⟩ : ∃ z, z = wr := ⟨_, rfl⟩
        have HE' : E'.length ≤ 1000 := by
          have h1 := nodup_sub _ (allSp l) HI7.out.nd fun s hs => by
            obtain ⟨t', ht', rfl⟩ := List.mem_map.1 hs
            exact HI7.out.all t' ht'
          have h2 := HALL.out
          simp at h1
          omega
        obtain ⟨S', hS'⟩ : ∃ S', S' = sprd x.sels ++ E' := ⟨_, rfl⟩
        have hSl' : S'.length ≤ 2000 := by rw [hS', List.length_append]; omega
        have HSE' : Hid (S' = sprd x.sels ++ E') := hS'
        rw [← hS'] at HO7 HOB ⊢
        clear hS'
        by_cases hjl : j < M.length
        case neg =>
          have hjl' : ¬ (j : Int) < M.length := by omega
          have hje : j = M.length := by omega
          have HS3 : Hid (SeO l x (k + 1) E') := by
            refine SeI.done HS2.out (hje ▸ HI7.out) (by rw [← HSE.out]; exact hkl) ?_ ?_
            · have := HNE.out
              rw [HTK.out] at this
              simpa only [← HSE.out] using this
            · rw [HME.out, HTK.out]
              simp only [HSE.out]
          have hkS : k + 1 ≤ S'.length := by
            obtain ⟨F, hF⟩ := HI7.out.pre
            rw [HSE'.out, hF]
            have := hkl
            rw [HSE.out] at this
            simp only [List.length_append] at this ⊢
            omega
          clear hje
          go_wp2_with fail
          go_roundw
          case rel =>
            rw [HSE'.out] at HO7 hkS ⊢
            exact ⟨k + 1, E', a3, c3, by go_num, rfl, hkS, HB7, HO7, HS3⟩
          case measure => simp [intOf]; omega
        have hjl' : (j : Int) < M.length := by omega
        obtain ⟨b9, o9, ha9, _, hb9, e9⟩ := Row.at_ (Row.keep HMR.out (fun g h1 h2 => HAG.out g h1 h2)) j hjl
        have e9 : w7.cell? ⟨b9, o9 + j * 1, none⟩ = some (.string M[j]) := e9
        rw [Nat.mul_one] at e9
        subst ha9
        have HMJ : Hid _ := HM.out M[j] (List.getElem_mem hjl)
        have hnr : NRow 0 w7.heap.size w7 a3 S' := by
          obtain ⟨a9, c9, e9, _, h9⟩ := NOwn.row HO7.out
          simp only [Value.slice.injEq] at e9
          rw [e9.1]; exact h9
        have hin := spec_inV a3 c3 S' M[j] w7 hnr (by omega)
        cases hib : inN S' M[j] with
        | true =>
          rw [hib] at hin
          have HIN : Hid _ := hin
          have HI8 : Hid (SeI l x k E M (j + 1) E') := HI7.out.skip hjl (by rw [← HSE'.out]; exact hib)
          clear hin hnr
          go_wp2_with fail
          refine Calls.mono HIN.out ?_
          rintro e w8 ⟨rfl, hw8⟩
          have hw9 := hw8.symm
          clear hw8
          subst hw9
          go_wp2_with fail
          go_roundw
          case rel =>
            rw [HSE'.out] at HO7 HOB ⊢
            exact ⟨j + 1, E', a3, c3, by go_num, rfl, by omega, HB7, hz7, HO7, HAG, HOB, HI8⟩
          case measure => simp [intOf]; omega
        | false =>
          rw [hib] at hin
          have HIN : Hid _ := hin
          have HI8 : Hid (SeI l x k E M (j + 1) (E' ++ [M[j]])) := HI7.out.add hjl (by rw [← HSE'.out]; exact hib) HMJ.out.1 HMJ.out.2
          have HLO : Hid (∀ g, (Value.slice a3 S'.length c3).ownBlock = some g → wo.heap.size ≤ g) := fun g hg => (HO7.out.lt g hg).1
          have HOA : Hid (NOwn wo.heap.size (w7.alloc (.cells #[.string M[j]] 9)) (.slice a3 S'.length c3) S') := NOwn.up HO7.out ((Below.refl _ _).alloc (Nat.le_refl _) _)
          have hzo := HB7.out.size
          have BA : Hid (Below wo.heap.size wo (w7.alloc (.cells #[.string M[j]] 9))) := HB7.out.alloc hzo _
          clear hin hnr
          go_wp2_with fail
          refine Calls.mono HIN.out ?_
          rintro e w8 ⟨rfl, hw8⟩
          have hw9 := hw8.symm
          clear hw8
          subst hw9
          go_wp2_with (first | (at_builtin; revert hll) | fail)
          intro hll
          refine wpList_append_names rfl _ _ rfl wo.heap.size (.slice a3 S'.length c3) S' [M[j]] rfl HOA.out (some ⟨w7.heap.size, 0, none⟩) 1 rfl (one_name _ _) (by simp; omega) (by simp; omega) ?_
          intro a8 c8 w8 ho8 hg8 hat8
          have O8 : Hid (NOwn wo.heap.size w8 (.slice a8 (S'.length + 1) c8) (S' ++ [M[j]])) := ho8
          have B8 : Hid (Below wo.heap.size wo w8) := BA.out.grown hg8 (by simp; omega) (fun g hg => HLO.out g hg)
          have hz8 : w7.heap.size + 1 ≤ w8.heap.size := by have := hg8.size; simpa using this
          have AG8 : Hid (∀ g, w5.heap.size ≤ g → g < w6.heap.size → w8.heap[g]? = w6.heap[g]?) := fun g h1 h2 => by
            refine (hg8.block g (by simp; omega) (fun e => ?_)).trans ((Below.heap_alloc _ _ _ (by omega)).trans (HAG.out g h1 h2))
            rcases HOB.out g e.symm with h | h <;> omega
          have OB8 : Hid (∀ g, (Value.slice a8 (S'.length + 1) c8).ownBlock = some g → g < w5.heap.size ∨ w6.heap.size ≤ g) := fun g hg => by
            rcases hat8 with h | h
            · exact HOB.out g (h.symm.trans hg)
            · have : some g = some (w7.alloc (.cells #[.string M[j]] 9)).heap.size := hg.symm.trans h
              simp at this
              exact .inr (by omega)
          clear ho8 hg8 hat8 e9
          go_wp2_with fail
          go_roundw
          case rel =>
            have hl8 : S'.length + 1 = (sprd x.sels ++ (E' ++ [M[j]])).length := by rw [HSE'.out]; simp; omega
            have hs8 : S' ++ [M[j]] = sprd x.sels ++ (E' ++ [M[j]]) := by rw [HSE'.out]; simp
            rw [hs8, hl8] at O8
            rw [hl8] at OB8 ⊢
            exact ⟨j + 1, E' ++ [M[j]], a8, c8, by go_num, rfl, by omega, B8, by omega, O8, AG8, OB8, HI8⟩
          case measure => simp [intOf]; omega
end Go.Proofs.Ytajjaddlalbnmaa
