/- The fields of a set, inline ones and spreads put in their places: the specification's. -/
import Derived.Test.YtkjndghkimnjeaaGreatVaFields
import Derived.Test.YtkjndghkimnjeaaGreatVaLim
namespace Go.Proofs.YtkjndghkimnjeaaGreat
open Go.ChangeShapes Go.WideShapes Go.ChangeAt Go.RowKit Go.Maps
set_option linter.unusedVariables false
/-- Where the region 'out = append(out, l04Flat(d, list[i].Sels)...)' stands: 1 and 6 load, 7 calls, 8 appends. -/
structure FlJ (w0 wo V : World) (g f : List (Hd × Sels)) (D : Array Bool) (u : Nat → Value) (W : World) : Prop where
  b : D.getD 8 false = false → Below wo.heap.size wo W
  c : D.getD 8 false = false → D.getD 7 false = true → ∃ a' c', u 55 = .slice a' f.length c' ∧ FRow w0 0 W.heap.size W a' f
  hi : D.getD 8 false = true → ∃ a' c', u 56 = .slice a' (g.length + f.length) c' ∧ FOwn w0 V.heap.size 115 W (.slice a' (g.length + f.length) c') (g ++ f) ∧ Below V.heap.size V W
  o7 : D.getD 7 false = true → D.getD 1 false = true ∧ D.getD 6 false = true
  o8 : D.getD 8 false = true → D.getD 7 false = true
theorem FlJ.start {w0 wo V : World} {g f : List (Hd × Sels)} {m : Nat} {u : Nat → Value} : FlJ w0 wo V g f (Array.replicate m false) u wo.drew := by
  have no : ∀ j, (Array.replicate m false).getD j false = true → False := fun j hj => by
    by_cases hx : j < m
    · simp [hx] at hj
    · simp [hx] at hj
  exact ⟨fun _ => (Below.refl _ _).drew, fun _ h => (no _ h).elim, fun h => (no _ h).elim, fun h => (no _ h).elim, fun h => (no _ h).elim⟩
theorem FlJ.step {w0 wo V W : World} {g f : List (Hd × Sels)} {D : Array Bool} {u : Nat → Value} {i d : Nat} {val : Value} (h : FlJ w0 wo V g f D u W) (hs : D.size = 10) (h7 : i ≠ 7) (h8 : i ≠ 8) (hd : 55 ≠ d) (hd' : 56 ≠ d) : FlJ w0 wo V g f (D.setIfInBounds i true) (G.upd u d val) W := by
  refine ⟨?_, ?_, ?_, ?_, ?_⟩
  · rw [gD_ne h8]; exact h.b
  · rw [gD_ne h8, gD_ne h7, G.upd_ne _ _ hd]; exact h.c
  · rw [gD_ne h8, G.upd_ne _ _ hd']; exact h.hi
  · rw [gD_ne h7]
    intro hx
    have := h.o7 hx
    refine ⟨?_, ?_⟩
    · by_cases e : i = 1
      · subst e; exact gD_at (by omega)
      · rw [gD_ne e]; exact this.1
    · by_cases e : i = 6
      · subst e; exact gD_at (by omega)
      · rw [gD_ne e]; exact this.2
  · rw [gD_ne h8, gD_ne h7]; exact h.o8
theorem FlJ.no8 {w0 wo V W : World} {g f : List (Hd × Sels)} {D : Array Bool} {u : Nat → Value} (h : FlJ w0 wo V g f D u W) (hs : D.size = 10) (hi : D.getD 1 true = false ∨ D.getD 6 true = false ∨ D.getD 7 true = false) : D.getD 8 false = false := by
  cases h8 : D.getD 8 false with
  | false => rfl
  | true =>
    have a7 := h.o8 h8
    have a1 := h.o7 a7
    rcases hi with hi | hi | hi
    · rw [gD_no (by omega) hi] at a1; cases a1.1
    · rw [gD_no (by omega) hi] at a1; cases a1.2
    · rw [gD_no (by omega) hi] at a7; cases a7
theorem FlJ.seven {w0 wo V W W' : World} {g f : List (Hd × Sels)} {D : Array Bool} {u : Nat → Value} (h : FlJ w0 wo V g f D u W) (hs : D.size = 10) (h1 : D.getD 1 false = true) (h6 : D.getD 6 false = true) (h8 : D.getD 8 false = false) (hb : Below W.heap.size W W') {a' : Option Addr} {c' : Nat} (hr : FRow w0 0 W'.heap.size W' a' f) : FlJ w0 wo V g f (D.setIfInBounds 7 true) (G.upd u 55 (.slice a' f.length c')) W' := by
  have e8 : (D.setIfInBounds 7 true).getD 8 false = false := by rw [gD_ne (by decide)]; exact h8
  refine ⟨fun _ => (h.b h8).trans (hb.mono (h.b h8).size), fun _ _ => ⟨a', c', G.upd_at _ _ _, hr⟩, fun hx => (by rw [e8] at hx; cases hx), fun _ => ⟨by rw [gD_ne (by decide)]; exact h1, by rw [gD_ne (by decide)]; exact h6⟩, fun hx => (by rw [e8] at hx; cases hx)⟩
theorem FlJ.eight {w0 wo V W W' : World} {g f : List (Hd × Sels)} {D : Array Bool} {u : Nat → Value} (h : FlJ w0 wo V g f D u W) (hs : D.size = 10) (h7 : D.getD 7 false = true) {a' : Option Addr} {c' : Nat} (ho : FOwn w0 V.heap.size 115 W' (.slice a' (g.length + f.length) c') (g ++ f)) (hb : Below V.heap.size V W') : FlJ w0 wo V g f (D.setIfInBounds 8 true) (G.upd u 56 (.slice a' (g.length + f.length) c')) W' := by
  have e8 : (D.setIfInBounds 8 true).getD 8 false = true := gD_at (by omega)
  refine ⟨fun hx => (by rw [e8] at hx; cases hx), fun hx => (by rw [e8] at hx; cases hx), fun _ => ⟨a', c', G.upd_at _ _ _, ho, hb⟩, ?_, fun _ => by rw [gD_ne (by decide)]; exact h7⟩
  rw [gD_ne (by decide), gD_ne (by decide), gD_ne (by decide)]
  exact h.o7
/-- The kinds of selections are fields, spreads, inline ones. -/
def KOk : Sels → Prop
  | .nil => True
  | .cons h sub rest => (h.k = 1 ∨ h.k = 2 ∨ h.k = 3) ∧ KOk sub ∧ KOk rest
def KOkL (s : List (Hd × Sels)) : Prop := ∀ x ∈ s, (x.1.k = 1 ∨ x.1.k = 2 ∨ x.1.k = 3) ∧ KOk x.2
theorem KOk.toL : ∀ {s : Sels}, KOk s → KOkL (Go.Proofs.YtkjndghkimnjeaaGreat.toL s)
  | .nil, _ => fun x hx => by simp [Go.Proofs.YtkjndghkimnjeaaGreat.toL] at hx
  | .cons h sub rest, hs => fun x hx => by
    rcases List.mem_cons.1 hx with rfl | hx
    · exact ⟨hs.1, hs.2.1⟩
    · exact KOk.toL hs.2.2 x hx
theorem KOk.inS {l : List De} (hl : ∀ x ∈ l, KOk x.sels) {x : Hd × Sels} (hx : KOk x.2) : KOk (Go.Proofs.YtkjndghkimnjeaaGreat.inS l x) := by
  unfold Go.Proofs.YtkjndghkimnjeaaGreat.inS frS
  split
  · split
    · trivial
    · rename_i y hy; exact hl y (List.mem_of_find?_eq_some hy)
  · exact hx
theorem KOkL.flat {l : List De} (hl : ∀ x ∈ l, KOk x.sels) {s f : List (Hd × Sels)} (h : Flat l s f) : KOkL s → KOkL f := by
  induction h with
  | nil => exact fun h => h
  | fld h1 h2 ih =>
    intro hs y hy
    rcases List.mem_cons.1 hy with rfl | hy
    · exact hs y (by simp)
    · exact ih (fun z hz => hs z (by simp [hz])) y hy
  | oth h1 h2 h3 ih2 ih3 =>
    intro hs y hy
    rcases List.mem_append.1 hy with hy | hy
    · exact ih2 (KOk.inS hl (hs _ (by simp)).2).toL y hy
    · exact ih3 (fun z hz => hs z (by simp [hz])) y hy
theorem KOkL.tog {f : List (Hd × Sels)} (h : KOkL f) : KOkL (Go.Proofs.YtkjndghkimnjeaaGreat.tog f) := fun y hy => by
  unfold Go.Proofs.YtkjndghkimnjeaaGreat.tog at hy
  obtain ⟨x, hx, hxy⟩ := List.mem_flatMap.1 hy
  exact (h x hx).2.toL y hxy
/-- What l04Flat tells. -/
def FlatP (w0 : World) (a : Option Addr) (c : Nat) (l : List De) (n : Nat) : Prop := ∀ (s : List (Hd × Sels)) (a1 : Option Addr) (c1 : Nat) (w : World), KOkL s → Ex l s n → FRow w0 0 w.heap.size w a1 s → LB s → Below w0.heap.size w0 w →
    Calls Tryz.prog 109 #[.agg #[.slice a l.length c], .slice a1 s.length c1] w fun e w' => FlR w0 w.heap.size l s e w' ∧ Below w.heap.size w w'
theorem FOwn.wide {w0 w : World} {base base' : Nat} {e : TypeId} {v : Value} {f : List (Hd × Sels)} (h : FOwn w0 base e w v f) (hb : base' ≤ base) : FOwn w0 base' e w v f := by
  obtain ⟨vs, hown, hv⟩ := h
  refine ⟨vs, ⟨hown.1, ?_⟩, hv⟩
  rcases hown.2 with h0 | ⟨g, cap, cur, h1, h2, h3⟩
  · exact .inl h0
  · exact .inr ⟨g, cap, cur, h1, by omega, h3⟩
set_option maxHeartbeats 16000000 in
set_option maxRecDepth 40000 in
theorem spec_flat (w0 : World) (a : Option Addr) (c : Nat) (l : List De) (ac : Nat → Option Addr × Nat) (hac : DocAc w0 a l ac) (hdb : DefsBd 1048576 l) (hko : ∀ x ∈ l, KOk x.sels) (n : Nat) (hn : n ≤ 400) : FlatP w0 a c l n := by
  induction n using Nat.strongRecOn with
  | _ n ih =>
  intro s a1 c1 w hks hex hr hlb hb0
  have HKS : Hid (KOkL s) := hks
  have HKO : Hid (∀ x ∈ l, KOk x.sels) := hko
  have HSP : Hid (∀ x ∈ s, (x.1.k == 1) = false → (x.1.k == 3) = false → inS l x = frS l x.1.nm) := fun x hx h1 h3 => by
    rcases (hks x hx).1 with h | h | h
    · rw [h] at h1; cases h1
    · unfold inS; rw [if_pos (by rw [h]; rfl)]
    · rw [h] at h3; cases h3
  have IH : Hid (∀ n', n' < n → FlatP w0 a c l n') := fun n' h => ih n' h (by omega)
  have HC : Hid (DocAc w0 a l ac) := hac
  have HDB : Hid (DefsBd 1048576 l) := hdb
  have HLB : Hid (LB s) := hlb
  have HEX : Hid (Ex l s n) := hex
  have hsl : s.length ≤ 1048576 := hlb.1
  have hll : l.length ≤ 1048576 := hdb.1
  obtain ⟨V, hV⟩ : ∃ V, V = w.alloc (.cells #[.slice a l.length c] 33) := ⟨_, rfl⟩
  have bV : Below w.heap.size w V := by rw [hV]; exact (Below.refl _ _).alloc (Nat.le_refl _) _
  have c0 : V.heap[w.heap.size]? = some (.cells #[.slice a l.length c] 33 (0, 0)) := by rw [hV]; exact heap_alloc_new _ _
  have z0 := (Array.getElem?_eq_some_iff.1 c0).1
  have T : Hid (∀ W, Below V.heap.size V W → W.heap[w.heap.size]? = some (.cells #[.slice a l.length c] 33 (0, 0)) ∧ FRow w0 0 W.heap.size W a1 s ∧ Below w0.heap.size w0 W ∧ Below w.heap.size w W) := fun W hW =>
    have hw := bV.trans (hW.mono bV.size)
    ⟨(hW.block _ z0).trans c0, Row.up hr hw, hb0.trans (hw.mono hb0.size), hw⟩
  clear hr ih hac hdb hlb hb0 c0 bV hex hks hko
  go_enter Tryz.func109, Tryz.ntmps109
  go_upto_region 1 with fail
  rw [← hV]
  clear hV
  go_wp2_with fail
  go_loopw [5, 6] (fun v i w' => ∃ (k r : Nat) (g : List (Hd × Sels)) (a2 : Option Addr) (c2 : Nat), i = .int .i64 k ∧ v = .slice a2 g.length c2 ∧ k ≤ s.length ∧ g.length + r ≤ n ∧ Hid (Below V.heap.size V w') ∧ Hid (FOwn w0 V.heap.size 115 w' (.slice a2 g.length c2) g) ∧ Hid (Ex l (s.drop k) r) ∧ Hid (∀ f, Flat l (s.drop k) f → Flat l s (g ++ f))) (fun _ i _ => s.length - (intOf i).toNat)
  case atStart => exact ⟨0, n, [], _, 0, rfl, rfl, Nat.zero_le _, by simp, (Below.refl _ _).alloc (Nat.le_refl _) _, FOwn.made _ _ _ (Nat.le_refl _), by simpa [Hid] using HEX.out, fun f h => by simpa using h⟩
  case round =>
    obtain ⟨k, r, g, a2, c2, rfl, rfl, hk, hgr, HB, HO, HER, HT⟩ := hrel
    obtain ⟨wo, rfl⟩ : ∃ z, z = wr := ⟨_, rfl⟩
    have TW : Hid _ := T.out _ HB.out
    have hzo := HB.out.size
    by_cases hlt : k < s.length
    case neg =>
      have hlt' : ¬ (k : Int) < s.length := by omega
      have HE : Hid (Flat l s g) := by have := HT.out [] (by rw [List.drop_of_length_le (by omega)]; exact .nil); simpa [Hid] using this
      have HOW : Hid (FOwn w0 w.heap.size 115 wo (.slice a2 g.length c2) g) := HO.out.wide (by omega)
      clear HT
      go_wp2_with fail
      go_ret
      exact ⟨⟨g, a2, c2, HE.out, rfl, HOW.out⟩, TW.out.2.2.2⟩
    have hlt' : (k : Int) < s.length := by omega
    have hdr : s.drop k = s[k] :: s.drop (k + 1) := List.drop_eq_getElem_cons hlt
    obtain ⟨b, o, b1, e1, b2, e2, b3, e3, ha, hbl, d0, d1, d2, d3, d4, d5, r1, q1, r2, r3⟩ := FRow.cells TW.out.2.1 k hlt
    subst ha
    have HXB : Hid (HdBd 1048576 s[k].1 ∧ s[k].2.len ≤ 1048576 ∧ SelsBd 1048576 s[k].2) := HLB.out.2 _ (List.getElem_mem hlt)
    obtain ⟨x, hx⟩ : ∃ x, x = s[k] := ⟨_, rfl⟩
    rw [← hx] at d0 d1 d2 d3 d4 d5 r1 q1 r2 r3 HXB hdr
    have HR1 : Hid _ := r1
    have HR2 : Hid _ := r2
    have HR3 : Hid (SelRow 0 w0.heap.size w0 b3 x.2) := r3
    have hex' := HER.out
    rw [hdr] at hex'
    obtain ⟨n1, n2, hx1, hx2, hrn⟩ := hex'.inv
    obtain ⟨f, mf, hf, _, _⟩ := hx1.flat
    have hfl : f.length ≤ n1 := hf.len hx1
    have HX1 : Hid (Ex l (toL (inS l x)) n1) := hx1
    have HX2 : Hid (Ex l (s.drop (k + 1)) n2) := hx2
    have HFL : Hid (Flat l (toL (inS l x)) f) := hf
    have HT2 : Hid (∀ f, Flat l (x :: s.drop (k + 1)) f → Flat l s (g ++ f)) := by have := HT.out; rwa [hdr] at this
    have HLO : Hid (∀ q, (Value.slice a2 g.length c2).ownBlock = some q → V.heap.size ≤ q ∧ q < wo.heap.size) := HO.out.lt
    have x0 := fun o => row_cell TW.out.1 o
    have HXE : Hid (x = s[k]) := hx
    clear hx1 hx2 hex' HT hdr hx r1 r2 r3 HER hf
    cases hk1 : (x.1.k == 1) with
    | true =>
      have HT3 : Hid (∀ f, Flat l (s.drop (k + 1)) f → Flat l s ((g ++ [x]) ++ f)) := fun f h => by have := HT2.out (x :: f) (.fld hk1 h); simpa using this
      obtain ⟨U, hU⟩ : ∃ U, U = wo.alloc (.cells #[.int .i64 x.1.k, .string x.1.al, .string x.1.nm, .slice b1 x.1.args.length e1, .slice b2 x.1.dirs.length e2, .slice b3 x.2.len e3] 115) := ⟨_, rfl⟩
      have BU : Below wo.heap.size wo U := by rw [hU]; exact (Below.refl _ _).alloc (Nat.le_refl _) _
      have HOU : Hid (FOwn w0 V.heap.size 115 U (.slice a2 g.length c2) g) := HO.out.up BU
      have HBU : Hid (Below V.heap.size V U) := HB.out.trans (BU.mono hzo)
      have H1 : Hid (FRow w0 0 U.heap.size U (some ⟨wo.heap.size, 0, none⟩) [x]) := by rw [Hid, hU]; exact one_sel wo x HR1.out q1 HR2.out HR3.out
      have hzU := HBU.out.size
      clear BU
      go_wp2_with (first | (at_builtin; revert hsl) | fail)
      intro hsl
      rw [← hU]
      refine wpList_append_sels (w0 := w0) rfl _ _ rfl V.heap.size (.slice a2 g.length c2) g [x] rfl HOU.out (some ⟨wo.heap.size, 0, none⟩) 1 rfl H1.out (by simp; omega) hzU ?_
      intro a8 c8 w8 ho8 hg8 _
      have O8 : Hid (FOwn w0 V.heap.size 115 w8 (.slice a8 (g.length + 1) c8) (g ++ [x])) := ho8
      have B8 : Hid (Below V.heap.size V w8) := HBU.out.grown hg8 hzU (fun q hq => (HLO.out q hq).1)
      clear ho8 hg8 hU x0 d0 d1 d2 d3 d4 d5
      go_wp2_with fail
      exact ⟨⟨k + 1, n2, g ++ [x], a8, c8, by go_num, by simp, by omega, by simp; omega, B8, by simpa [Hid] using O8.out, HX2, HT3⟩, by simp [intOf]; omega⟩
    | false =>
    have HT3 : Hid (∀ f', Flat l (s.drop (k + 1)) f' → Flat l s ((g ++ f) ++ f')) := fun f' h => by have := HT2.out (f ++ f') (.oth hk1 HFL.out h); simpa using this
    have HKX : Hid (KOkL (toL (inS l x))) := by rw [Hid, HXE.out]; exact (KOk.inS HKO.out (HKS.out _ (List.getElem_mem hlt)).2).toL
    have HXL : Hid (LB (toL (inS l x))) := (LB.inS HDB.out (x := x) HXB.out.2).1
    cases hk3 : (x.1.k == 3) with
    | true =>
      have HIN : Hid (inS l x = x.2) := by
        unfold Hid inS
        rw [if_neg]
        rw [beq_iff_eq] at hk3
        rw [hk3]; decide
      have HQ : Hid (∀ W, Below wo.heap.size wo W → Calls Tryz.prog 109 #[.agg #[.slice a l.length c], .slice b3 x.2.len e3] W fun e w' => (∃ a' c', e = .returned (.slice a' f.length c') ∧ FRow w0 0 w'.heap.size w' a' f) ∧ Below W.heap.size W w') := fun W hW => by
        have hvw := HB.out.trans (hW.mono hzo)
        have h00 := (T.out W hvw).2.2.1
        have := IH.out n1 (by omega) (toL (inS l x)) b3 e3 W HKX.out HX1.out (by rw [HIN.out]; exact SelRow.fr2 HR3.out h00) HXL.out h00
        rw [toL_len, HIN.out] at this
        refine Calls.mono this ?_
        rintro e w' ⟨⟨f', a', c', hf', rfl, ho'⟩, hb'⟩
        have hff : f = f' := HFL.out.det (by rw [HIN.out]; exact hf')
        subst hff
        obtain ⟨a9, c9, e9, _, h9⟩ := ho'.row
        simp only [Value.slice.injEq] at e9
        exact ⟨⟨a', c', rfl, by rw [e9.1]; exact h9⟩, hb'⟩
      have HD5 : Hid (wo.cell? ⟨b, o + k * 6 + 5, none⟩ = some (.slice b3 x.2.len e3)) := d5
      go_upto_region 11 with fail
      clear x0 d0 d1 d2 d3 d4 d5
      refine G.region_rel5 (n := 9) (k := 1) (by omega) (by kernel_rfl) (by kernel_rfl) (by kernel_rfl) (fun u => ⟨#[.agg #[.slice a l.length c], .slice (some ⟨b, o, none⟩) s.length c1, .pointer (some ⟨w.heap.size, 0, none⟩), undef, .slice none 0 0, .slice a2 g.length c2, .int .i64 k, u7, u8, .slice (some ⟨V.heap.size, 0, none⟩) 0 0, .int .i64 k, .slice (some ⟨b, o, none⟩) s.length c1, .int .i64 s.length, .bool true, u14, u15, .slice (some ⟨b, o, none⟩) s.length c1, .int .i64 k, .pointer (some ⟨b, o + k * 6, none⟩), .pointer (some ⟨b, o + k * 6, none⟩), .int .i64 x.1.k, u21, u22, u23, u24, u25, u26, u27, u28, u29, u30, u31, u32, u33, u34, u35, u36, .bool false, .bool false, u39, u40, u41, u42, u43, u44, u45, .bool true, .bool true, u 48, u 49, u 50, u 51, u 52, u 53, u 54, u 55, u 56, undef], []⟩) (fun n => match n with | 48 => u48 | 49 => u49 | 50 => u50 | 51 => u51 | 52 => u52 | 53 => u53 | 54 => u54 | 55 => u55 | 56 => u56 | _ => undef) (fun i => [48, 49, 50, 51, 52, 53, 54, 55, 56].getD i 0) (fun i j hi hj h => (by decide : ∀ i, i < 9 → ∀ j, j < 9 → [48, 49, 50, 51, 52, 53, 54, 55, 56].getD i 0 = [48, 49, 50, 51, 52, 53, 54, 55, 56].getD j 0 → i = j) i hi j hj h)
        (fun i v _ => match i with | 0 => v = .slice a2 g.length c2 | 1 => v = .agg #[.slice a l.length c] | 2 => v = .slice (some ⟨b, o, none⟩) s.length c1 | 3 => v = .int .i64 (k : Int) | 4 => v = .pointer (some ⟨b, o + k * 6, none⟩) | 5 => v = .pointer (some ⟨b, o + k * 6 + 5, none⟩) | 6 => v = .slice b3 x.2.len e3 | _ => True) (FlJ w0 wo V g f) FlJ.start ?step ?last
      case step =>
        intro D u W i hi hLs hLi hj hdep
        have HJ : Hid _ := hj
        have HL : Hid _ := hLi
        have hcase : i = 0 ∨ i = 1 ∨ i = 2 ∨ i = 3 ∨ i = 4 ∨ i = 5 ∨ i = 6 ∨ i = 7 ∨ i = 8 := by omega
        clear hj hLi
        rcases hcase with rfl | rfl | rfl | rfl | rfl | rfl | rfl | rfl | rfl
        · refine wpOp_step rfl (fun K hK => ?_)
          clear hdep
          go_simp
          exact hK _ _ ⟨.slice a2 g.length c2, by simp [G.upd], fun _ _ h => h, rfl, HJ.out.step hLs (by decide) (by decide) (by decide) (by decide)⟩
        · have h8 := HJ.out.no8 hLs (.inl HL.out)
          have hbW := HJ.out.b h8
          have y0 := fun o => row_cell (T.out W (HB.out.trans (hbW.mono hzo))).1 o
          clear hbW
          refine wpOp_step rfl (fun K hK => ?_)
          clear hdep
          go_simp
          exact hK _ _ ⟨.agg #[.slice a l.length c], by simp [G.upd], fun _ _ h => h, rfl, HJ.out.step hLs (by decide) (by decide) (by decide) (by decide)⟩
        · refine wpOp_step rfl (fun K hK => ?_)
          clear hdep
          go_simp
          exact hK _ _ ⟨.slice (some ⟨b, o, none⟩) s.length c1, by simp [G.upd], fun _ _ h => h, rfl, HJ.out.step hLs (by decide) (by decide) (by decide) (by decide)⟩
        · refine wpOp_step rfl (fun K hK => ?_)
          clear hdep
          go_simp
          exact hK _ _ ⟨.int .i64 (k : Int), by simp [G.upd], fun _ _ h => h, rfl, HJ.out.step hLs (by decide) (by decide) (by decide) (by decide)⟩
        · have d2 : u 50 = .slice (some ⟨b, o, none⟩) s.length c1 := (hdep _ rfl ⟨2, .data⟩ (by simp) rfl).2
          have d3 : u 51 = .int .i64 (k : Int) := (hdep _ rfl ⟨3, .data⟩ (by simp) rfl).2
          refine wpOp_step rfl (fun K hK => ?_)
          clear hdep
          go_simp
          exact hK _ _ ⟨.pointer (some ⟨b, o + k * 6, none⟩), by simp [G.upd, d2, d3], fun _ _ h => h, rfl, HJ.out.step hLs (by decide) (by decide) (by decide) (by decide)⟩
        · have d4 : u 52 = .pointer (some ⟨b, o + k * 6, none⟩) := (hdep _ rfl ⟨4, .data⟩ (by simp) rfl).2
          refine wpOp_step rfl (fun K hK => ?_)
          clear hdep
          go_simp
          exact hK _ _ ⟨.pointer (some ⟨b, o + k * 6 + 5, none⟩), by simp [G.upd, d4], fun _ _ h => h, rfl, HJ.out.step hLs (by decide) (by decide) (by decide) (by decide)⟩
        · have d5 : u 53 = .pointer (some ⟨b, o + k * 6 + 5, none⟩) := (hdep _ rfl ⟨5, .data⟩ (by simp) rfl).2
          have h8 := HJ.out.no8 hLs (.inr (.inl HL.out))
          have y5 := ((HJ.out.b h8).cell (p := ⟨b, o + k * 6 + 5, none⟩) hbl).trans HD5.out
          refine wpOp_step rfl (fun K hK => ?_)
          clear hdep
          go_simp
          exact hK _ _ ⟨.slice b3 x.2.len e3, by simp [G.upd, d5], fun _ _ h => h, rfl, HJ.out.step hLs (by decide) (by decide) (by decide) (by decide)⟩
        · have d1 : u 49 = .agg #[.slice a l.length c] := (hdep _ rfl ⟨1, .data⟩ (by simp) rfl).2
          have d6 : u 54 = .slice b3 x.2.len e3 := (hdep _ rfl ⟨6, .data⟩ (by simp) rfl).2
          have l1 := (hdep _ rfl ⟨1, .data⟩ (by simp) rfl).1
          have l6 := (hdep _ rfl ⟨6, .data⟩ (by simp) rfl).1
          have h8 := HJ.out.no8 hLs (.inr (.inr HL.out))
          have HQW : Hid _ := HQ.out W (HJ.out.b h8)
          refine wpOp_step rfl (fun K hK => ?_)
          clear hdep
          go_simp
          refine Calls.mono HQW.out ?_
          rintro e w8 ⟨⟨a', c', rfl, hr8⟩, hb8⟩
          exact hK _ _ ⟨.slice a' f.length c', by simp [G.upd, d1, d6], fun _ _ h => h, trivial, HJ.out.seven hLs l1 l6 h8 hb8 hr8⟩
        · have d0 : u 48 = .slice a2 g.length c2 := (hdep _ rfl ⟨0, .data⟩ (by simp) rfl).2
          have l7 := (hdep _ rfl ⟨7, .data⟩ (by simp) rfl).1
          have h8 : D.getD 8 false = false := gD_no (by omega) HL.out
          obtain ⟨a', c', d7, hr7⟩ := HJ.out.c h8 l7
          have hbW := HJ.out.b h8
          have HOW : Hid (FOwn w0 V.heap.size 115 W (.slice a2 g.length c2) g) := HO.out.up hbW
          have HBV : Hid (Below V.heap.size V W) := HB.out.trans (hbW.mono hzo)
          have hzW := HBV.out.size
          refine wpOp_step rfl (fun K hK => ?_)
          clear hdep hbW
          refine wp_append_selsO (w0 := w0) (.tmp 48) (.tmp 55) rfl V.heap.size (.slice a2 g.length c2) g f d0 HOW.out a' c' d7 hr7 (by omega) hzW ?_
          intro a9 c9 w9 ho9 hg9
          have B9 : Below V.heap.size V w9 := HBV.out.grown hg9 hzW (fun q hq => (HLO.out q hq).1)
          exact hK _ _ ⟨.slice a9 (g.length + f.length) c9, by simp [G.upd, d0, d7, Act.put], fun _ _ h => h, trivial, HJ.out.eight hLs l7 ho9 B9⟩
      case last =>
        intro D u W hLs hD hj hpv
        obtain ⟨a9, c9, e56, ho9, hb9⟩ := hj.hi (hD 8 (by omega))
        have O9 : Hid (FOwn w0 V.heap.size 115 W (.slice a9 (g.length + f.length) c9) (g ++ f)) := ho9
        have B9 : Hid (Below V.heap.size V W) := hb9
        clear hj hpv ho9 hb9
        unfold G.wpTail
        refine wpOp_step rfl (fun K hK => ?_)
        go_simp
        refine hK _ _ ?_
        clear hK
        unfold G.wpTail
        go_wp2_with fail
        exact ⟨⟨k + 1, n2, g ++ f, a9, c9, by go_num, by simp, by omega, by simp; omega, B9, by simpa [Hid] using O9.out, HX2, HT3⟩, by simp [intOf]; omega⟩
    | false =>
      have hk2b : x.1.k ≠ 1 := by simpa using hk1
      have HD2 : Hid (wo.cell? ⟨b, o + k * 6 + 2, none⟩ = some (.string x.1.nm)) := d2
      clear hk2b
      have HIN : Hid (toL (inS l x) = toL (frS l x.1.nm) ∧ (inS l x) = frS l x.1.nm) := by
        have e : inS l x = frS l x.1.nm := HSP.out x (by rw [HXE.out]; exact List.getElem_mem hlt) hk1 hk3
        exact ⟨by rw [e], e⟩
      go_upto_region 6 with fail
      go_cut [7, 8] from 10 to 56 (fun p q wx => ∃ y, p = .pointer (some ⟨y, 0, none⟩) ∧ Hid (wx.heap[y]? = some (.cells #[.int .i64 (frD l x.1.nm).k, .string (frD l x.1.nm).nm, .string (frD l x.1.nm).on, .slice (frAd l ac x.1.nm).1 (frS l x.1.nm).len (frAd l ac x.1.nm).2] 78 (0, 0))) ∧ Hid (Below wo.heap.size wo wx))
      case first =>
        clear x0 d0 d1 d2 d3 d4 d5
        refine G.region_rel5 (n := 12) (k := 1) (by omega) (by kernel_rfl) (by kernel_rfl) (by kernel_rfl) (fun u => ⟨#[.agg #[.slice a l.length c], .slice (some ⟨b, o, none⟩) s.length c1, .pointer (some ⟨w.heap.size, 0, none⟩), undef, .slice none 0 0, .slice a2 g.length c2, .int .i64 k, u 7, u 8, .slice (some ⟨V.heap.size, 0, none⟩) 0 0, .int .i64 k, .slice (some ⟨b, o, none⟩) s.length c1, .int .i64 s.length, .bool true, u14, u15, .slice (some ⟨b, o, none⟩) s.length c1, .int .i64 k, .pointer (some ⟨b, o + k * 6, none⟩), .pointer (some ⟨b, o + k * 6, none⟩), .int .i64 x.1.k, u 21, u 22, u 23, u 24, u 25, u 26, u 27, u 28, u 29, u 30, u31, u32, u33, u34, u35, u36, .bool false, .bool false, u39, u40, u41, u42, u43, u44, u45, .bool false, .bool false, u48, u49, u50, u51, u52, u53, u54, u55, u56, undef], []⟩) (fun n => match n with | 22 => u22 | 23 => u23 | 24 => u24 | 25 => u25 | 26 => u26 | 27 => u27 | 28 => u28 | 21 => u21 | 29 => u29 | 30 => u30 | 7 => u7 | 8 => u8 | _ => undef) (fun i => [22, 23, 24, 25, 26, 27, 28, 21, 29, 30, 7, 99].getD i 0) (fun i j hi hj h => (by decide : ∀ i, i < 12 → ∀ j, j < 12 → [22, 23, 24, 25, 26, 27, 28, 21, 29, 30, 7, 99].getD i 0 = [22, 23, 24, 25, 26, 27, 28, 21, 29, 30, 7, 99].getD j 0 → i = j) i hi j hj h)
          (fun i v _ => match i with | 0 => v = .agg #[.slice a l.length c] | 1 => v = .slice (some ⟨b, o, none⟩) s.length c1 | 2 => v = .int .i64 (k : Int) | 3 => v = .pointer (some ⟨b, o + k * 6, none⟩) | 4 => v = .pointer (some ⟨b, o + k * 6 + 2, none⟩) | 5 => v = .string x.1.nm | 6 => v = .tuple #[frV l ac x.1.nm, .bool (frB l x.1.nm)] | 7 => v = .tuple #[frV l ac x.1.nm, .bool (frB l x.1.nm)] | 8 => v = frV l ac x.1.nm | 9 => v = .bool (frB l x.1.nm) | _ => True) (FgJ wo 78 7 10 11 #[.int .i64 0, .string ⟨#[]⟩, .string ⟨#[]⟩, .slice none 0 0] #[.int .i64 (frD l x.1.nm).k, .string (frD l x.1.nm).nm, .string (frD l x.1.nm).on, .slice (frAd l ac x.1.nm).1 (frS l x.1.nm).len (frAd l ac x.1.nm).2]) FgJ.start ?step ?last
        case step =>
          intro D u W i hi hLs hLi hj hdep
          have hbW : Below wo.heap.size wo W := hj.below
          have y0 := fun o => row_cell (T.out W (HB.out.trans (hbW.mono hzo))).1 o
          have y2 := (hbW.cell (p := ⟨b, o + k * 6 + 2, none⟩) hbl).trans HD2.out
          have hcase : i = 0 ∨ i = 1 ∨ i = 2 ∨ i = 3 ∨ i = 4 ∨ i = 5 ∨ i = 6 ∨ i = 7 ∨ i = 8 ∨ i = 9 ∨ i = 10 ∨ i = 11 := by omega
          rcases hcase with rfl | rfl | rfl | rfl | rfl | rfl | rfl | rfl | rfl | rfl | rfl | rfl
          · have HJ : Hid _ := hj
            refine wpOp_step rfl (fun K hK => ?_)
            clear hdep hj
            go_simp
            exact hK _ _ ⟨.agg #[.slice a l.length c], by simp [G.upd], fun _ _ h => h, rfl, HJ.out.step (by decide) (by decide) (by decide) (Below.refl _ _)⟩
          · have HJ : Hid _ := hj
            refine wpOp_step rfl (fun K hK => ?_)
            clear hdep hj
            go_simp
            exact hK _ _ ⟨.slice (some ⟨b, o, none⟩) s.length c1, by simp [G.upd], fun _ _ h => h, rfl, HJ.out.step (by decide) (by decide) (by decide) (Below.refl _ _)⟩
          · have HJ : Hid _ := hj
            refine wpOp_step rfl (fun K hK => ?_)
            clear hdep hj
            go_simp
            exact hK _ _ ⟨.int .i64 (k : Int), by simp [G.upd], fun _ _ h => h, rfl, HJ.out.step (by decide) (by decide) (by decide) (Below.refl _ _)⟩
          · have d1 : u 23 = .slice (some ⟨b, o, none⟩) s.length c1 := (hdep _ rfl ⟨1, .data⟩ (by simp) rfl).2
            have d2 : u 24 = .int .i64 (k : Int) := (hdep _ rfl ⟨2, .data⟩ (by simp) rfl).2
            have HJ : Hid _ := hj
            refine wpOp_step rfl (fun K hK => ?_)
            clear hdep hj
            go_simp
            exact hK _ _ ⟨.pointer (some ⟨b, o + k * 6, none⟩), by simp [G.upd, d1, d2], fun _ _ h => h, rfl, HJ.out.step (by decide) (by decide) (by decide) (Below.refl _ _)⟩
          · have d3 : u 25 = .pointer (some ⟨b, o + k * 6, none⟩) := (hdep _ rfl ⟨3, .data⟩ (by simp) rfl).2
            have HJ : Hid _ := hj
            refine wpOp_step rfl (fun K hK => ?_)
            clear hdep hj
            go_simp
            exact hK _ _ ⟨.pointer (some ⟨b, o + k * 6 + 2, none⟩), by simp [G.upd, d3], fun _ _ h => h, rfl, HJ.out.step (by decide) (by decide) (by decide) (Below.refl _ _)⟩
          · have d4 : u 26 = .pointer (some ⟨b, o + k * 6 + 2, none⟩) := (hdep _ rfl ⟨4, .data⟩ (by simp) rfl).2
            have HJ : Hid _ := hj
            refine wpOp_step rfl (fun K hK => ?_)
            clear hdep hj
            go_simp
            exact hK _ _ ⟨.string x.1.nm, by simp [G.upd, d4], fun _ _ h => h, rfl, HJ.out.step (by decide) (by decide) (by decide) (Below.refl _ _)⟩
          · have d0 : u 22 = .agg #[.slice a l.length c] := (hdep _ rfl ⟨0, .data⟩ (by simp) rfl).2
            have d5 : u 27 = .string x.1.nm := (hdep _ rfl ⟨5, .data⟩ (by simp) rfl).2
            have HJ : Hid _ := hj
            have HQ : Hid _ := spec_frag w0 a c l ac x.1.nm W HC.out hll (TW.out.2.2.1.trans (hbW.mono TW.out.2.2.1.size))
            refine wpOp_step rfl (fun K hK => ?_)
            clear hdep hj
            go_simp
            refine Calls.mono HQ.out ?_
            rintro e w8 ⟨rfl, hb8⟩
            exact hK _ _ ⟨.tuple #[frV l ac x.1.nm, .bool (frB l x.1.nm)], by simp [G.upd, d0, d5], fun _ _ h => h, rfl, HJ.out.step (by decide) (by decide) (by decide) hb8⟩
          · have d6 : u 28 = .tuple #[frV l ac x.1.nm, .bool (frB l x.1.nm)] := (hdep _ rfl ⟨6, .data⟩ (by simp) rfl).2
            have HJ : Hid _ := hj
            refine wpOp_step rfl (fun K hK => ?_)
            clear hdep hj
            go_simp
            exact hK _ _ ⟨.tuple #[frV l ac x.1.nm, .bool (frB l x.1.nm)], by simp [G.upd, d6], fun _ _ h => h, rfl, HJ.out.step (by decide) (by decide) (by decide) (Below.refl _ _)⟩
          · have d7 : u 21 = .tuple #[frV l ac x.1.nm, .bool (frB l x.1.nm)] := (hdep _ rfl ⟨7, .data⟩ (by simp) rfl).2
            have HJ : Hid _ := hj
            refine wpOp_step rfl (fun K hK => ?_)
            clear hdep hj
            go_simp
            exact hK _ _ ⟨frV l ac x.1.nm, by simp [G.upd, d7], fun _ _ h => h, rfl, HJ.out.step (by decide) (by decide) (by decide) (Below.refl _ _)⟩
          · have d7 : u 21 = .tuple #[frV l ac x.1.nm, .bool (frB l x.1.nm)] := (hdep _ rfl ⟨7, .data⟩ (by simp) rfl).2
            have HJ : Hid _ := hj
            refine wpOp_step rfl (fun K hK => ?_)
            clear hdep hj
            go_simp
            exact hK _ _ ⟨.bool (frB l x.1.nm), by simp [G.upd, d7], fun _ _ h => h, rfl, HJ.out.step (by decide) (by decide) (by decide) (Below.refl _ _)⟩
          · have HJ : Hid _ := hj
            have HL : Hid _ := hLi
            refine wpOp_step rfl (fun K hK => ?_)
            clear hdep hj
            go_simp
            exact hK _ _ ⟨_, rfl, fun _ _ h => h, trivial, FgJ.made HJ.out (by decide) (by omega) HL.out⟩
          · have lA := (hdep _ rfl ⟨10, .data⟩ (by simp) rfl).1
            have dV : u 29 = frV l ac x.1.nm := (hdep _ rfl ⟨8, .data⟩ (by simp) rfl).2
            obtain ⟨y, q1, q2, q3, q4, _⟩ := hj.at_ lA
            have cy := q4 (gD_no (by omega) hLi)
            have x6 := fun o => row_cell cy o
            have y6 := fun o => row_frozen cy o
            have HJ2 : Hid (∀ val, FgJ wo 78 7 10 11 #[.int .i64 0, .string ⟨#[]⟩, .string ⟨#[]⟩, .slice none 0 0] #[.int .i64 (frD l x.1.nm).k, .string (frD l x.1.nm).nm, .string (frD l x.1.nm).on, .slice (frAd l ac x.1.nm).1 (frS l x.1.nm).len (frAd l ac x.1.nm).2] (D.setIfInBounds 11 true) (G.upd u 99 val) ((((W.setCell ⟨y, 0, none⟩ (.int .i64 (frD l x.1.nm).k)).setCell ⟨y, 1, none⟩ (.string (frD l x.1.nm).nm)).setCell ⟨y, 2, none⟩ (.string (frD l x.1.nm).on)).setCell ⟨y, 3, none⟩ (.slice (frAd l ac x.1.nm).1 (frS l x.1.nm).len (frAd l ac x.1.nm).2))) := fun val => FgJ.stored hj (by decide) (by decide) lA (by omega) q1 (fun g hg => by rw [heap_setV _ _ _ _ _ hg, heap_setV _ _ _ _ _ hg, heap_setV _ _ _ _ _ hg, heap_setV _ _ _ _ _ hg]) (by simp) ((((hbW.setCell q2 _).setCell q2 _).setCell q2 _).setCell q2 _) (four_setV cy)
            unfold frV at dV
            refine wpOp_step rfl (fun K hK => ?_)
            clear hdep cy q4 hj
            go_simp
            exact hK _ _ ⟨undef, by simp [G.upd, q1, dV], fun _ _ h => h, trivial, HJ2.out _⟩
        case last =>
          intro D u W hLs hD hj hp
          obtain ⟨y, q1, q2, q3, _, q5⟩ := hj.at_ (hD 10 (by omega))
          have Q5 : Hid _ := q5 (hD 11 (by omega))
          have QB : Hid (Below wo.heap.size wo W) := hj.below
          have d9 : u 30 = .bool (frB l x.1.nm) := hp 9 (by omega)
          clear hp hj q5
          unfold G.wpTail
          refine wpOp_step rfl (fun K hK => ?_)
          go_simp
          refine hK _ _ ?_
          clear hK
          unfold G.wpTail
          go_wp2_with fail
          go_meet
          exact ⟨y, rfl, Q5, QB⟩
      obtain ⟨yb, rfl, HYC, HBY⟩ := hcut
      obtain ⟨w5, rfl⟩ : ∃ z, z = wc := ⟨_, rfl⟩
      have B5 : Hid (Below V.heap.size V w5) := HB.out.trans (HBY.out.mono hzo)
      have O5 : Hid (FOwn w0 V.heap.size 115 w5 (.slice a2 g.length c2) g) := HO.out.up HBY.out
      have T5 : Hid _ := T.out _ B5.out
      have y5 := fun o => row_cell HYC.out o
      have x5 := fun o => row_cell T5.out.1 o
      have hq := IH.out n1 (by omega) (toL (inS l x)) (frAd l ac x.1.nm).1 (frAd l ac x.1.nm).2 w5 HKX.out HX1.out (by rw [HIN.out.1]; exact SelRow.fr2 (frag_row HC.out _) T5.out.2.2.1) HXL.out T5.out.2.2.1
      rw [toL_len, HIN.out.2] at hq
      have HQ : Hid _ := hq
      clear hq x0 d0 d1 d2 d3 d4 d5
      go_wp2_with fail
      refine Calls.mono HQ.out ?_
      rintro e w6 ⟨⟨f', a6, c6, hf', rfl, o6⟩, b6⟩
      have hff : f = f' := HFL.out.det (by rw [HIN.out.1]; exact hf')
      subst hff
      have B6 : Hid (Below V.heap.size V w6) := B5.out.trans (b6.mono B5.out.size)
      have O6 : Hid (FOwn w0 V.heap.size 115 w6 (.slice a2 g.length c2) g) := O5.out.up b6
      have R6 : Hid (FRow w0 0 w6.heap.size w6 a6 f) := by
        obtain ⟨a9, c9, e9, _, h9⟩ := o6.row
        simp only [Value.slice.injEq] at e9
        rw [e9.1]; exact h9
      have hz6 := B6.out.size
      clear b6 o6 hf' HQ x5 y5
      go_wp2_with (first | (at_builtin; revert hsl) | fail)
      intro hsl
      refine wpList_append_sels (w0 := w0) rfl _ _ rfl V.heap.size (.slice a2 g.length c2) g f rfl O6.out a6 c6 rfl R6.out (by omega) hz6 ?_
      intro a8 c8 w8 ho8 hg8 _
      have O8 : Hid (FOwn w0 V.heap.size 115 w8 (.slice a8 (g.length + f.length) c8) (g ++ f)) := ho8
      have B8 : Hid (Below V.heap.size V w8) := B6.out.grown hg8 hz6 (fun q hq => (HLO.out q hq).1)
      clear ho8 hg8
      go_wp2_with fail
      exact ⟨⟨k + 1, n2, g ++ f, a8, c8, by go_num, by simp, by omega, by simp; omega, B8, by simpa [Hid] using O8.out, HX2, HT3⟩, by simp [intOf]; omega⟩
end Go.Proofs.YtkjndghkimnjeaaGreat
