/- A drawn document of fragments that spread one another. -/
import Derived.Test.YtajjaddlalbnmaaNdRoot
import Derived.Test.YtajjaddlalbnmaaKdThree
import Derived.Test.YtajjaddlalbnmaaGRegionSix
namespace Go.Proofs.Ytajjaddlalbnmaa
open Go.ChangeShapes Go.WideShapes Go.ChangeAt Go.RowKit
open Go.Proofs.Ytajjaddlalbnmaa.G
set_option linter.unusedVariables false
set_option pp.maxSteps 1000000
set_option pp.deepTerms true

def CycD (l : List De) : Prop := ∀ j (h : j < l.length), (j = 0 → l[j].k = 1 ∧ l[j].nm = ⟨#[]⟩ ∧ l[j].on = ⟨#[]⟩) ∧ (0 < j → l[j].k = 3 ∧ l[j].nm = cycN (j - 1) ∧ l[j].on = ⟨#[78, 111, 100, 101]⟩) ∧ SelsBd 40 l[j].sels ∧ 1 ≤ l[j].sels.len ∧ l[j].sels.size ≤ 120
theorem results_cyc (tmps : Array Value) (W : World) (N : Nat) (cs : Array Value) (h2 : tmps.getD 2 undef = .pointer (some ⟨N, 0, none⟩)) (hrow : W.heap[N]? = some (.cells cs 25 (0, 0))) (hsz : cs.size = 1) :
    (results Try.f13 tmps).run Try.prog W = .ok (.agg cs) W := by
  have c39 : (Try.prog.info? 25).map (·.size) = some 1 := by kernel_rfl
  exact results_cell_row Try.results13 tmps W N 25 cs (0, 0) _ h2 hrow Try.underlying25 rfl (by rw [hsz]; exact c39)
/-- A round's end behind a spread. -/
def CycFin (w : World) (L n k N3 NB g8 c8 : Nat) (a : Option Addr) (l : List De) (W : World) : Prop := ∃ (x' : De) (vs : List Value) (bs : List Nat), CycD (l ++ [x']) ∧ DocK (w.heap.size + 1) W (.slice (some ⟨g8, 0, none⟩) (l ++ [x']).length c8) (l ++ [x']) vs bs ∧ W.heap[N3]? = some (.cells #[.slice (some ⟨g8, 0, none⟩) (l ++ [x']).length c8] 25 (0, 0)) ∧ W.heap[NB]? = some (.cells #[.string ⟨#[102]⟩, .string ⟨#[103]⟩, .string ⟨#[104]⟩] 9 (0, 0)) ∧ SrcSt W L a n k ∧ w.grownBy W (some L) ∧ W.heap[w.heap.size]? = some (.cells #[.slice none 0 0] 25 (0, 0)) ∧ ∀ g ∈ blk (.slice (some ⟨g8, 0, none⟩) (l ++ [x']).length c8) ++ bs, g ≠ N3 ∧ g ≠ NB
theorem sb_id : SelsBd 40 idS := by
  unfold idS
  refine sels_snoc (p := []) (h := ⟨1, ⟨#[]⟩, ⟨#[105, 100]⟩, [], []⟩) (sub := .nil) ?_ (by decide) trivial trivial
  refine ⟨?_, ?_, ?_, ?_, ?_⟩ <;> first | decide | simp | exact fun x hx => by simp at hx
theorem sb_spr {m : Nat} (hm : m < 3) : SelsBd 40 (sprS m) ∧ 1 ≤ (sprS m).len ∧ (sprS m).size ≤ 120 := by
  refine ⟨?_, by simp [sprS, app, Sels.len], by simp [sprS, app, Sels.size]⟩
  unfold sprS
  refine sels_snoc (p := [(⟨1, ⟨#[]⟩, ⟨#[105, 100]⟩, [], []⟩, .nil)]) (h := sprH m) (sub := .nil) ?_ (by decide) trivial sb_id
  rcases (by omega : m = 0 ∨ m = 1 ∨ m = 2) with rfl | rfl | rfl
  all_goals refine ⟨?_, ?_, ?_, ?_, ?_⟩ <;> first | decide | simp [sprH] | exact fun x hx => by simp [sprH] at hx
theorem CycD.take {l : List De} {x : De} (h : CycD (l ++ [x])) : CycD l := fun j hj => by
  have := h j (by simp; omega)
  rw [List.getElem_append_left hj] at this
  exact this
theorem CycD.snoc {l : List De} {x : De} (h : CycD l) (h0 : 0 < l.length) (hk : x.k = 3) (hn : x.nm = cycN (l.length - 1)) (ho : x.on = ⟨#[78, 111, 100, 101]⟩) (hb : SelsBd 40 x.sels) (h1 : 1 ≤ x.sels.len) (hz : x.sels.size ≤ 120) : CycD (l ++ [x]) := fun j hj => by
  by_cases e : j < l.length
  · rw [List.getElem_append_left e]; exact h j e
  · have : j = l.length := by simp at hj; omega
    subst this
    rw [List.getElem_append_right (Nat.le_refl _)]
    simp only [Nat.sub_self, List.getElem_cons_zero]
    exact ⟨fun q => by omega, fun _ => ⟨hk, hn, ho⟩, hb, h1, hz⟩
theorem gd_noK {L : Array Bool} {i : Nat} (h : L.getD i true = false) : L.getD i false = false := by
  cases h8 : L.getD i false
  · rfl
  · rw [getD_both (getD_lt h) h8] at h; cases h
theorem wp_append_runC {P : Program} {o : Oper} {a : Act} {K : Act → World → Prop} {Q : Exit → Act → World → Prop} {w : World} (s x : Operand) (t : TypeId)
    (ho : o.op = .call { callee := .builtin .append, args := #[s, x], argTypes := #[t, t] }) (sv xv rv : Value) (w' : World) (hs : a.eval s = sv) (hx : a.eval x = xv)
    (hr : (Builtin.append_ #[t, t] o.type #[sv, xv]).run P w = .ok rv w') (h : K (a.put o.dst rv) w') : o.wp P a w K Q := by
  unfold Oper.wp execOp
  simp only [ho, resolve, invoke, builtin, Sem.run_bind, Sem.run_pure, Result.andThen_ok, List.map_toArray, List.map_cons, List.map_nil, hs, hx, hr]
  exact h
set_option maxHeartbeats 8000000 in
set_option maxRecDepth 20000 in
theorem nd_cyclic (L n k : Nat) (a : Option Addr) (w : World) (h : SrcSt w L a n k) (hr : ByteRow L w a n) (hk : k ≤ 70000) (hn : n ≤ 1048576) :
    Calls Try.prog 13 #[.pointer (some ⟨L, 0, none⟩)] w fun e w' => (∃ (l : List De) (a' : Option Addr) (c' : Nat) (vs : List Value) (bs : List Nat), (CycD l ∧ l.length = 4 ∧ DocK w.heap.size w' (.slice a' l.length c') l vs bs) ∧ e = .returned (.agg #[.slice a' l.length c'])) ∧ SrcSt w' L a n (k + 1410) ∧ w.grownBy w' (some L) := by
  have S0 : Hid (SrcSt w L a n k) := h
  have R0 : Hid (ByteRow L w a n) := hr
  have hLw := h.lt
  clear h hr
  go_enter Try.func13, Try.ntmps13
  obtain ⟨U, hU⟩ : ∃ U, U = w.alloc (.cells #[.slice none 0 0] 25) := ⟨_, rfl⟩
  have bU : Below w.heap.size w U := by rw [hU]; exact (Below.refl _ _).alloc (Nat.le_refl _) _
  have zU : U.heap.size = w.heap.size + 1 := by rw [hU]; simp
  have cU : U.heap[w.heap.size]? = some (.cells #[.slice none 0 0] 25 (0, 0)) := by rw [hU]; exact heap_alloc_new _ _
  have SU : Hid (SrcSt U L a n k) := S0.out.move (bU.block L S0.out.lt)
  have GU : Hid (w.grownBy U (some L)) := grown_below (grown_refl _ _) bU
  have CU : Hid (U.heap[w.heap.size]? = some (.cells #[.slice none 0 0] 25 (0, 0))) := cU
  go_upto_region 1 with fail
  rw [← hU]
  clear hU bU S0 cU
  go_wp2_with fail
  refine (nd_root 1 L n k a U SU.out (row_keep R0.out GU.out) (by omega) (by omega) hn).mono ?_
  rintro e w1 ⟨⟨l0, a0, c0, ws0, bk0, ⟨hb0, h10, h30, hz0, r0⟩, rfl⟩, s1, g1⟩
  have S1 : Hid (SrcSt w1 L a n (k + 1400)) := s1
  have G1 : Hid (w.grownBy w1 (some L)) := grown_trans GU.out g1
  have RL : Hid (RowK U.heap.size w1 (.slice a0 l0.len c0) l0 ws0 bk0) := r0
  have CW : Hid (w1.heap[w.heap.size]? = some (.cells #[.slice none 0 0] 25 (0, 0))) := grown_keeps CU.out (by omega) g1 (by omega)
  have zw1 := g1.size
  clear s1 g1 r0 CU GU SU
  obtain ⟨W3, hW3⟩ : ∃ x, x = ((w1.alloc (.cells #[.int .i64 1, .string ⟨#[]⟩, .string ⟨#[]⟩, .slice a0 l0.len c0] 30)).alloc (.cells #[.slice (some ⟨w1.heap.size, 0, none⟩) 1 1] 25)).alloc (.cells #[.string ⟨#[102]⟩, .string ⟨#[103]⟩, .string ⟨#[104]⟩] 9) := ⟨_, rfl⟩
  obtain ⟨N3, hN3⟩ : ∃ x, x = w1.heap.size + 1 := ⟨_, rfl⟩
  obtain ⟨NB, hNB⟩ : ∃ x, x = w1.heap.size + 1 + 1 := ⟨_, rfl⟩
  have HN : Hid (N3 = w1.heap.size + 1 ∧ NB = w1.heap.size + 1 + 1) := ⟨hN3, hNB⟩
  have B3 : Below w1.heap.size w1 W3 := by rw [hW3]; exact (((Below.refl _ _).alloc (Nat.le_refl _) _).alloc (by simp) _).alloc (by simp; omega) _
  have z3 : W3.heap.size = w1.heap.size + 3 := by rw [hW3]; simp
  have D3 : Hid (DocK (w.heap.size + 1) W3 (.slice (some ⟨w1.heap.size, 0, none⟩) 1 1) [⟨1, ⟨#[]⟩, ⟨#[]⟩, l0⟩] [.int .i64 1, .string ⟨#[]⟩, .string ⟨#[]⟩, .slice a0 l0.len c0] (blk (.slice a0 l0.len c0) ++ bk0)) := by
    have d := DocK.first (x := ⟨1, ⟨#[]⟩, ⟨#[]⟩, l0⟩) (base := w.heap.size + 1) (by rw [← zU]; exact RL.out) (by omega)
    have hB : Below (w1.heap.size + 1) (w1.alloc (.cells #[.int .i64 1, .string ⟨#[]⟩, .string ⟨#[]⟩, .slice a0 l0.len c0] 30)) W3 := by
      rw [hW3]; exact ((Below.refl _ _).alloc (by simp) _).alloc (by simp) _
    exact d.keep (by rw [z3]; simp) fun g hg => hB.block g (by have := (d.all g hg).2; simpa using this)
  have E3 : Hid (W3.heap[N3]? = some (.cells #[.slice (some ⟨w1.heap.size, 0, none⟩) 1 1] 25 (0, 0))) := by
    rw [Hid, hW3, hN3, Below.heap_alloc _ _ _ (by simp)]
    have := heap_alloc_new (w1.alloc (.cells #[.int .i64 1, .string ⟨#[]⟩, .string ⟨#[]⟩, .slice a0 l0.len c0] 30)) (.cells #[.slice (some ⟨w1.heap.size, 0, none⟩) 1 1] 25)
    simpa using this
  have F3 : Hid (W3.heap[NB]? = some (.cells #[.string ⟨#[102]⟩, .string ⟨#[103]⟩, .string ⟨#[104]⟩] 9 (0, 0))) := by
    rw [Hid, hW3, hNB]
    have := heap_alloc_new ((w1.alloc (.cells #[.int .i64 1, .string ⟨#[]⟩, .string ⟨#[]⟩, .slice a0 l0.len c0] 30)).alloc (.cells #[.slice (some ⟨w1.heap.size, 0, none⟩) 1 1] 25)) (.cells #[.string ⟨#[102]⟩, .string ⟨#[103]⟩, .string ⟨#[104]⟩] 9)
    simpa using this
  have S3 : Hid (SrcSt W3 L a n (k + 1400)) := S1.out.move (B3.block L S1.out.lt)
  have G3 : Hid (w.grownBy W3 (some L)) := grown_below G1.out B3
  have C3 : Hid (W3.heap[w.heap.size]? = some (.cells #[.slice none 0 0] 25 (0, 0))) := (B3.block _ (by omega)).trans CW.out
  have Q3 : Hid (CycD [⟨1, ⟨#[]⟩, ⟨#[]⟩, l0⟩]) := fun j h => by
    have : j = 0 := by simpa using h
    subst this
    exact ⟨fun _ => ⟨rfl, rfl, rfl⟩, fun h => by omega, hb0, h10, hz0⟩
  have N3v : Hid (∀ g ∈ blk (.slice (some ⟨w1.heap.size, 0, none⟩) 1 1) ++ (blk (.slice a0 l0.len c0) ++ bk0), g ≠ N3 ∧ g ≠ NB) := fun g hg => by
    have : g ≤ w1.heap.size := by
      rcases List.mem_append.1 hg with hg | hg
      · have : g = w1.heap.size := by simpa [blk, Value.ownBlock] using hg
        omega
      · have := (RL.out.all g hg).2; omega
    omega
  go_upto_region 3 with fail
  rw [← hNB, ← hN3, ← hW3]
  clear hW3 B3 S1 G1 CW RL hN3 hNB
  go_wp2_with fail
  go_loopw [5] (fun vi w' => ∃ (i : Nat) (l : List De) (gd c' : Nat) (vs : List Value) (bs : List Nat), vi = .int .i64 i ∧ i ≤ 3 ∧ Hid (l.length = i + 1) ∧ Hid (CycD l) ∧ Hid (DocK (w.heap.size + 1) w' (.slice (some ⟨gd, 0, none⟩) l.length c') l vs bs) ∧ Hid (w'.heap[N3]? = some (.cells #[.slice (some ⟨gd, 0, none⟩) l.length c'] 25 (0, 0))) ∧ Hid (w'.heap[NB]? = some (.cells #[.string ⟨#[102]⟩, .string ⟨#[103]⟩, .string ⟨#[104]⟩] 9 (0, 0))) ∧ Hid (SrcSt w' L a n (k + 1400 + 2 * i)) ∧ Hid (w.grownBy w' (some L)) ∧ Hid (w'.heap[w.heap.size]? = some (.cells #[.slice none 0 0] 25 (0, 0))) ∧ Hid (∀ g ∈ blk (.slice (some ⟨gd, 0, none⟩) l.length c') ++ bs, g ≠ N3 ∧ g ≠ NB)) (fun vi _ => 3 - (intOf vi).toNat)
  case atStart => exact ⟨0, [⟨1, ⟨#[]⟩, ⟨#[]⟩, l0⟩], _, _, _, _, rfl, by omega, rfl, Q3, D3, E3, F3, S3, G3, C3, N3v⟩
  case round =>
    obtain ⟨i, l, gd, c', vs, bs, rfl, hi, HL, HC, HD, HE, HF, HS, HG, HU, HNV⟩ := hrel
    obtain ⟨wo, rfl⟩ : ∃ z, z = wr := ⟨_, rfl⟩
    clear Q3 D3 E3 F3 S3 G3 C3 N3v z3
    by_cases hlt : i < 3
    · have hlt' : (i : Int) < 3 := by omega
      go_wp2_with fail
      obtain ⟨x, hx⟩ : ∃ x : De, x = ⟨3, cycN i, ⟨#[78, 111, 100, 101]⟩, idS⟩ := ⟨_, rfl⟩
      have HXX : Hid (x.k = 3 ∧ x.on = ⟨#[78, 111, 100, 101]⟩ ∧ x.sels = idS) := by rw [hx]; exact ⟨rfl, rfl, rfl⟩
      have HNM : Hid ((#[.string ⟨#[102]⟩, .string ⟨#[103]⟩, .string ⟨#[104]⟩] : Array Value)[i]? = some (.string x.nm)) := by
        rw [hx]; rcases (by omega : i = 0 ∨ i = 1 ∨ i = 2) with rfl | rfl | rfl <;> rfl
      have HNX : Hid (x.nm = cycN i) := by rw [hx]; rfl
      have HEK : Hid (∀ W, wo.grownBy W (Value.slice (some ⟨gd, 0, none⟩) l.length c').ownBlock → W.heap[N3]? = some (.cells #[.slice (some ⟨gd, 0, none⟩) l.length c'] 25 (0, 0))) := fun W h => by
        rw [h.block N3 (Array.getElem?_eq_some_iff.1 HE.out).1 (fun e => (HNV.out gd (List.mem_append_left _ (mem_blk rfl))).1 (by simpa [Value.ownBlock] using e.symm))]; exact HE.out
      have HFK : Hid (∀ W, wo.grownBy W (Value.slice (some ⟨gd, 0, none⟩) l.length c').ownBlock → W.heap[NB]? = some (.cells #[.string ⟨#[102]⟩, .string ⟨#[103]⟩, .string ⟨#[104]⟩] 9 (0, 0))) := fun W h => by
        rw [h.block NB (Array.getElem?_eq_some_iff.1 HF.out).1 (fun e => (HNV.out gd (List.mem_append_left _ (mem_blk rfl))).2 (by simpa [Value.ownBlock] using e.symm))]; exact HF.out
      have HWS : Hid (w.heap.size + 1 ≤ wo.heap.size) := by have := (Array.getElem?_eq_some_iff.1 HU.out).1; rw [Hid]; omega
      clear hx
      refine region_rel5 (n := 15) (k := 1) (by omega) (by kernel_rfl) (by kernel_rfl) (by kernel_rfl) (fun y => ⟨#[(.pointer (some ⟨L, 0, none⟩)), undef, (.pointer (some ⟨w.heap.size, 0, none⟩)), (.pointer (some ⟨N3, 0, none⟩)), (.slice (some ⟨NB, 0, none⟩) 3 3), (.int .i64 ((i : Nat) : Int)), (.pointer (some ⟨L, 0, none⟩)), (.slice a0 l0.len c0), (.agg #[.int .i64 1, .string ⟨#[]⟩, .string ⟨#[]⟩, .slice a0 l0.len c0]), (.slice (some ⟨w1.heap.size, 0, none⟩) 1 1), (.agg #[.slice (some ⟨w1.heap.size, 0, none⟩) 1 1]), (.slice (some ⟨NB, 0, none⟩) 3 3), (.int .i64 ((i : Nat) : Int)), (.bool true), u14, u15, (y 16), (y 17), (y 18), (y 19), (y 20), (y 21), (y 22), (y 23), (y 24), (y 25), (y 26), (y 27), (y 28), (y 29), (y 30), u31, u32, u33, u34, u35, u36, u37, u38, u39, u40, u41, u42, u43, u44, u45, u46, u47, u48, u49, u50, u51, u52, u53, u54, u55, u56, u57, u58, u59, u60, u61, u62, u63, u64, u65, u66, u67, u68, u69, u70, u71, u72, u73, u74, u75, u76, u77, u78, u79, u80, u81, u82, u83, u84, undef], []⟩) (fun nz => match nz with | 16 => u16 | 17 => u17 | 18 => u18 | 19 => u19 | 20 => u20 | 21 => u21 | 22 => u22 | 23 => u23 | 24 => u24 | 25 => u25 | 26 => u26 | 27 => u27 | 28 => u28 | 29 => u29 | 30 => u30 | _ => undef) (fun iz => [16, 17, 18, 19, 20, 21, 22, 23, 24, 25, 26, 27, 28, 29, 30].getD iz 0) (fun iz jz hi hj h => (by decide : ∀ i, i < 15 → ∀ j, j < 15 → [16, 17, 18, 19, 20, 21, 22, 23, 24, 25, 26, 27, 28, 29, 30].getD i 0 = [16, 17, 18, 19, 20, 21, 22, 23, 24, 25, 26, 27, 28, 29, 30].getD j 0 → i = j) iz hi jz hj h)
        (CyPv wo.heap.size N3 NB i (.slice (some ⟨gd, 0, none⟩) l.length c') x) (CyJ (w.heap.size + 1) wo (.slice (some ⟨gd, 0, none⟩) l.length c') l x vs bs) ⟨grown_drew (grown_refl _ _), fun _ => HD.out.keep (by exact Nat.le_refl _) (fun g hg => rfl), fun q => by simp at q⟩ ?step ?last
      case step =>
        intro D y W iq hiq hLs hLi hj hdep
        have hcase : iq = 0 ∨ iq = 1 ∨ iq = 2 ∨ iq = 3 ∨ iq = 4 ∨ iq = 5 ∨ iq = 6 ∨ iq = 7 ∨ iq = 8 ∨ iq = 9 ∨ iq = 10 ∨ iq = 11 ∨ iq = 12 ∨ iq = 13 ∨ iq = 14 := by omega
        clear hiq
        rcases hcase with rfl | rfl | rfl | rfl | rfl | rfl | rfl | rfl | rfl | rfl | rfl | rfl | rfl | rfl | rfl
        · clear hdep
          refine wpOp_step rfl (fun K hK => ?_)
          go_simp
          exact hK _ _ ⟨.pointer (some ⟨N3, 0, none⟩), by simp [upd], (fun _ _ h => h), rfl, hj.plain (Below.refl _ _) (by decide) (by decide)⟩
        · have d0 : y 16 = .pointer (some ⟨N3, 0, none⟩) := (hdep _ rfl ⟨0, .data⟩ (by simp) rfl).2
          have xV := row_cell (HEK.out W hj.1) 0
          clear hdep
          refine wpOp_step rfl (fun K hK => ?_)
          go_simp
          exact hK _ _ ⟨(.slice (some ⟨gd, 0, none⟩) l.length c'), by simp [upd, d0], (fun _ _ h => h), rfl, hj.plain (Below.refl _ _) (by decide) (by decide)⟩
        · clear hdep
          refine wpOp_step rfl (fun K hK => ?_)
          go_simp
          exact hK _ _ ⟨.slice (some ⟨NB, 0, none⟩) 3 3, by simp [upd], (fun _ _ h => h), rfl, hj.plain (Below.refl _ _) (by decide) (by decide)⟩
        · clear hdep
          refine wpOp_step rfl (fun K hK => ?_)
          go_simp
          exact hK _ _ ⟨.int .i64 (i : Int), by simp [upd], (fun _ _ h => h), rfl, hj.plain (Below.refl _ _) (by decide) (by decide)⟩
        · have d2 : y 18 = .slice (some ⟨NB, 0, none⟩) 3 3 := (hdep _ rfl ⟨2, .data⟩ (by simp) rfl).2
          have d3 : y 19 = .int .i64 (i : Int) := (hdep _ rfl ⟨3, .data⟩ (by simp) rfl).2
          clear hdep
          refine wpOp_step rfl (fun K hK => ?_)
          go_simp
          exact hK _ _ ⟨.pointer (some ⟨NB, i, none⟩), by simp [upd, d2, d3], (fun _ _ h => h), rfl, hj.plain (Below.refl _ _) (by decide) (by decide)⟩
        · have d4 : y 20 = .pointer (some ⟨NB, i, none⟩) := (hdep _ rfl ⟨4, .data⟩ (by simp) rfl).2
          have xN : W.cell? ⟨NB, i, none⟩ = some (.string x.nm) := by rw [row_cell (HFK.out W hj.1) i]; exact HNM.out
          clear hdep
          refine wpOp_step rfl (fun K hK => ?_)
          go_simp
          exact hK _ _ ⟨.string x.nm, by simp [upd, d4], (fun _ _ h => h), rfl, hj.plain (Below.refl _ _) (by decide) (by decide)⟩
        · have HZ := hj.1.size
          clear hdep
          refine wpOp_step rfl (fun K hK => ?_)
          go_simp
          exact hK _ _ ⟨.slice (some ⟨W.heap.size, 0, none⟩) 0 0, by simp [upd], (fun j z h => CyPv.up (StB.alloc _ _ _) j z h), EmB.new _ _ _ HZ, hj.plain ((Below.refl _ _).alloc (Nat.le_refl _) _) (by decide) (by decide)⟩
        · have HZ := hj.1.size
          clear hdep
          refine wpOp_step rfl (fun K hK => ?_)
          go_simp
          exact hK _ _ ⟨.slice (some ⟨W.heap.size, 0, none⟩) 0 0, by simp [upd], (fun j z h => CyPv.up (StB.alloc _ _ _) j z h), EmB.new _ _ _ HZ, hj.plain ((Below.refl _ _).alloc (Nat.le_refl _) _) (by decide) (by decide)⟩
        · have HZ := hj.1.size
          clear hdep
          refine wpOp_step rfl (fun K hK => ?_)
          go_simp
          exact hK _ _ ⟨.slice (some ⟨W.heap.size, 0, none⟩) 0 0, by simp [upd], (fun j z h => CyPv.up (StB.alloc _ _ _) j z h), EmB.new _ _ _ HZ, hj.plain ((Below.refl _ _).alloc (Nat.le_refl _) _) (by decide) (by decide)⟩
        · have d6 : EmB wo.heap.size 81 (y 22) W := (hdep _ rfl ⟨6, .data⟩ (by simp) rfl).2
          have d7 : EmB wo.heap.size 86 (y 23) W := (hdep _ rfl ⟨7, .data⟩ (by simp) rfl).2
          have d8 : EmB wo.heap.size 63 (y 24) W := (hdep _ rfl ⟨8, .data⟩ (by simp) rfl).2
          obtain ⟨g6, e6, -, -⟩ := id d6
          obtain ⟨g7, e7, -, -⟩ := id d7
          obtain ⟨g8, e8, -, -⟩ := id d8
          rw [e6] at d6
          rw [e7] at d7
          rw [e8] at d8
          have HE6 : Hid _ := And.intro d6 (And.intro d7 d8)
          clear d6 d7 d8
          clear hdep
          refine wpOp_step rfl (fun K hK => ?_)
          go_simp
          exact hK _ _ ⟨.agg #[.int .i64 1, .string ⟨#[]⟩, .string ⟨#[105, 100]⟩, .slice (some ⟨g6, 0, none⟩) 0 0, .slice (some ⟨g7, 0, none⟩) 0 0, .slice (some ⟨g8, 0, none⟩) 0 0], by simp [upd, e6, e7, e8], (fun _ _ h => h), ⟨_, _, _, rfl, HE6.out.1, HE6.out.2.1, HE6.out.2.2⟩, hj.plain (Below.refl _ _) (by decide) (by decide)⟩
        · obtain ⟨va, vd, vss, d9, e1, e2, e3⟩ : ∃ va vd vss, y 25 = .agg #[.int .i64 1, .string ⟨#[]⟩, .string ⟨#[105, 100]⟩, va, vd, vss] ∧ EmB wo.heap.size 81 va W ∧ EmB wo.heap.size 86 vd W ∧ EmB wo.heap.size 63 vss W := (hdep _ rfl ⟨9, .data⟩ (by simp) rfl).2
          have HROW : Hid _ := id_row e1 e2 e3 hj.1.size
          clear e1 e2 e3
          clear hdep
          refine wpOp_step rfl (fun K hK => ?_)
          go_simp
          exact hK _ _ ⟨.slice (some ⟨W.heap.size, 0, none⟩) 1 1, by simp [upd, d9], (fun j z h => CyPv.up (StB.alloc _ _ _) j z h), HROW.out, hj.plain ((Below.refl _ _).alloc (Nat.le_refl _) _) (by decide) (by decide)⟩
        · have d5 : y 21 = .string x.nm := (hdep _ rfl ⟨5, .data⟩ (by simp) rfl).2
          obtain ⟨ws9, bk9, e10⟩ : ∃ ws bk, RowK wo.heap.size W (y 26) idS ws bk := (hdep _ rfl ⟨10, .data⟩ (by simp) rfl).2
          obtain ⟨a9, c9, e9⟩ := owns_slice e10.own
          rw [e9] at e10
          have HE10 : Hid _ := e10
          clear e10
          clear hdep
          refine wpOp_step rfl (fun K hK => ?_)
          go_simp
          exact hK _ _ ⟨.agg #[.int .i64 x.k, .string x.nm, .string x.on, .slice a9 idS.len c9], by simp [upd, d5, e9, HXX.out.1, HXX.out.2.1], (fun _ _ h => h), ⟨_, _, _, rfl, HE10.out⟩, hj.plain (Below.refl _ _) (by decide) (by decide)⟩
        · obtain ⟨V9, ws9, bk9, d11, e11⟩ : ∃ V ws bk, y 27 = .agg #[.int .i64 x.k, .string x.nm, .string x.on, V] ∧ RowK wo.heap.size W V idS ws bk := (hdep _ rfl ⟨11, .data⟩ (by simp) rfl).2
          have HDF : Hid _ := DfB.new (x := x) (by rw [HXX.out.2.2]; exact e11) hj.1.size
          clear e11
          clear hdep
          refine wpOp_step rfl (fun K hK => ?_)
          go_simp
          exact hK _ _ ⟨.slice (some ⟨W.heap.size, 0, none⟩) 1 1, by simp [upd, d11], (fun j z h => CyPv.up (StB.alloc _ _ _) j z h), HDF.out, hj.plain ((Below.refl _ _).alloc (Nat.le_refl _) _) (by decide) (by decide)⟩
        · have d1 : y 17 = (.slice (some ⟨gd, 0, none⟩) l.length c') := (hdep _ rfl ⟨1, .data⟩ (by simp) rfl).2
          have d12 : DfB wo.heap.size x (y 28) W := (hdep _ rfl ⟨12, .data⟩ (by simp) rfl).2
          have l13 : D.getD 13 false = false := by
            cases h8 : D.getD 13 false
            · rfl
            · rw [getD_both (by omega) h8] at hLi; cases hLi
          obtain ⟨g8, c8, W8, vs8, bs8, hrun, q1, q2, q3⟩ := app_def (hj.2.1 l13) (fun g hg => (HD.out.all g hg).2) (by have := HG.out.size; have := HWS.out; omega) (by have := HL.out; omega) d12
          have HJ8 : Hid _ := CyJ.put hj (by omega) (fun g hg => (HD.out.all g (List.mem_append_left _ (mem_blk hg))).2) rfl q1 q2 q3
          have HQ2 : Hid _ := q2
          clear hdep q1 q2 q3
          refine wpOp_step rfl (fun K hK => ?_)
          refine wp_append_runC (.tmp 17) (.tmp 28) _ rfl _ _ _ _ d1 rfl hrun ?_
          exact hK _ _ ⟨_, rfl, fun j z h => CyPv.up (StB.grown HQ2.out (fun g hg => (HD.out.all g (List.mem_append_left _ (mem_blk hg))).2)) j z h, trivial, HJ8.out⟩
        · clear hdep
          refine wpOp_step rfl (fun K hK => ?_)
          go_simp
          exact hK _ _ ⟨.pointer (some ⟨N3, 0, none⟩), by simp [upd], (fun _ _ h => h), rfl, hj.plain (Below.refl _ _) (by decide) (by decide)⟩
      case last =>
        intro D y W hLs hD hj hp
        have d14 : y 30 = .pointer (some ⟨N3, 0, none⟩) := hp 14 (by omega)
        obtain ⟨g8, c8, vs8, bs8, d13, q1, q3⟩ := hj.2.2 (hD 13 (by omega))
        have hgW := hj.1
        have hN3W := HEK.out W hgW
        have hNBW := HFK.out W hgW
        have xB := row_cell hN3W 0
        have fB := row_frozen hN3W 0
        have hn3 := (Array.getElem?_eq_some_iff.1 HE.out).1
        have hnb := (Array.getElem?_eq_some_iff.1 HF.out).1
        have hrn : ∀ g, (Value.slice (some ⟨gd, 0, none⟩) l.length c').ownBlock = some g → w.heap.size + 1 ≤ g := fun g hg => (HD.out.all g (List.mem_append_left _ (mem_blk hg))).1
        have nv8 : ∀ g ∈ g8 :: bs8, g ≠ N3 ∧ g ≠ NB := fun g hg => by
          rcases q3 g hg with h | h
          · exact HNV.out g h
          · omega
        have elder : ∀ g, g < w.heap.size + 1 → W.heap[g]? = wo.heap[g]? := fun g hg => hgW.block g (by have := HWS.out; omega) (fun e => by have := hrn g e.symm; omega)
        obtain ⟨W6, hW6⟩ : ∃ z : World, z = W.setCell ⟨N3, 0, none⟩ (.slice (some ⟨g8, 0, none⟩) (l.length + 1) c8) := ⟨_, rfl⟩
        have hll : (l ++ [x]).length = l.length + 1 := by simp
        have D6 : Hid (DocK (w.heap.size + 1) W6 (.slice (some ⟨g8, 0, none⟩) (l ++ [x]).length c8) (l ++ [x]) vs8 bs8) := by
          rw [Hid, hW6, hll]; exact q1.set _ fun g hg => (nv8 g (by simpa [blk, Value.ownBlock] using hg)).1
        have E6 : Hid (W6.heap[N3]? = some (.cells #[.slice (some ⟨g8, 0, none⟩) (l ++ [x]).length c8] 25 (0, 0))) := by
          rw [Hid, hW6, hll]; have := row_set hN3W 0 (.slice (some ⟨g8, 0, none⟩) (l.length + 1) c8); simpa using this
        have hne : NB ≠ N3 := by have := HN.out; omega
        have F6 : Hid (W6.heap[NB]? = some (.cells #[.string ⟨#[102]⟩, .string ⟨#[103]⟩, .string ⟨#[104]⟩] 9 (0, 0))) := by
          rw [Hid, hW6, heap_setCell_other _ _ _ _ hne]; exact hNBW
        have oth : ∀ g, g < w.heap.size + 1 → W6.heap[g]? = wo.heap[g]? := fun g hg => by
          rw [hW6, heap_setCell_other _ _ _ _ (by show g ≠ N3; have := HN.out; have := zw1; omega)]; exact elder g hg
        have S6 : Hid (SrcSt W6 L a n (k + 1400 + 2 * i)) := HS.out.move (oth L (by omega))
        have G6 : Hid (w.grownBy W6 (some L)) := by
          rw [Hid, hW6]; exact grown_new (grown_append HG.out hgW fun g hg => by have := hrn g hg; omega) (by have := HN.out; omega) _
        have U6 : Hid (W6.heap[w.heap.size]? = some (.cells #[.slice none 0 0] 25 (0, 0))) := (oth _ (by omega)).trans HU.out
        have NV6 : Hid (∀ g ∈ blk (.slice (some ⟨g8, 0, none⟩) (l ++ [x]).length c8) ++ bs8, g ≠ N3 ∧ g ≠ NB) := fun g hg => nv8 g (by simpa [blk, Value.ownBlock] using hg)
        have HW6 : Hid _ := hW6
        clear hp hj hD hLs q1 q3 hgW hN3W hNBW nv8 elder oth hW6 HD HE HF HS HG HU HNV HEK HFK hrn
        unfold wpTail
        refine wpOp_step rfl (fun K hK => ?_)
        go_simp
        refine hK _ _ ?_
        clear hK xB fB
        unfold wpTail
        rw [← HW6.out]
        clear HW6
        go_wp2_with fail
        refine (chance_any 2 L n (k + 1400 + 2 * i) a W6 S6.out (row_keep R0.out G6.out) (by omega) hn (by omega) (by omega)).mono ?_
        rintro e w7 ⟨⟨bb, rfl⟩, s7, g7⟩
        have S7 : Hid (SrcSt w7 L a n (k + 1400 + 2 * i + 1)) := s7
        have hL7 : L < w.heap.size + 1 := by omega
        have D7 : Hid (DocK (w.heap.size + 1) w7 (.slice (some ⟨g8, 0, none⟩) (l ++ [x]).length c8) (l ++ [x]) vs8 bs8) := D6.out.grow g7 hL7
        have E7 : Hid (w7.heap[N3]? = some (.cells #[.slice (some ⟨g8, 0, none⟩) (l ++ [x]).length c8] 25 (0, 0))) := grown_keeps E6.out (Array.getElem?_eq_some_iff.1 E6.out).1 g7 (by have := HN.out; omega)
        have F7 : Hid (w7.heap[NB]? = some (.cells #[.string ⟨#[102]⟩, .string ⟨#[103]⟩, .string ⟨#[104]⟩] 9 (0, 0))) := grown_keeps F6.out (Array.getElem?_eq_some_iff.1 F6.out).1 g7 (by have := HN.out; omega)
        have G7 : Hid (w.grownBy w7 (some L)) := grown_trans G6.out g7
        have U7 : Hid (w7.heap[w.heap.size]? = some (.cells #[.slice none 0 0] 25 (0, 0))) := grown_keeps U6.out (Array.getElem?_eq_some_iff.1 U6.out).1 g7 (by omega)
        have HC7 : Hid (CycD (l ++ [x])) := HC.out.snoc (by have := HL.out; omega) HXX.out.1 (by rw [HNX.out]; have := HL.out; congr 1; omega) HXX.out.2.1 (by rw [HXX.out.2.2]; exact sb_id) (by rw [HXX.out.2.2]; decide) (by rw [HXX.out.2.2]; decide)
        have HL7 : Hid ((l ++ [x]).length = i + 1 + 1) := by rw [Hid, hll, HL.out]
        clear s7 g7 S6 D6 E6 F6 G6 U6 hll HL HC
        cases bb
        · have S8 : Hid (SrcSt w7 L a n (k + 1400 + 2 * (i + 1))) := S7.out.more (by omega)
          go_wp2_with fail
          exact ⟨⟨i + 1, l ++ [x], g8, c8, vs8, bs8, by go_num, by omega, HL7, HC7, D7, E7, F7, S8, G7, U7, NV6⟩, by simp [intOf]; omega⟩
        · go_wp2_with fail
          go_region
          · go_wp2_with fail
            obtain ⟨w8, hw8⟩ : ∃ z, z = (w7.alloc (.cells #[.bool false] 4)).drew := ⟨_, rfl⟩
            have B8 : Below w7.heap.size w7 w8 := by rw [hw8]; exact ((Below.refl _ _).alloc (Nat.le_refl _) _).drew
            rw [← hw8]
            clear hw8
            have S8 : Hid (SrcSt w8 L a n (k + 1400 + 2 * i + 1)) := S7.out.move (B8.block L S7.out.lt)
            have d8 : DocK (w.heap.size + 1) w8 (.slice (some ⟨g8, 0, none⟩) (l ++ [x]).length c8) (l ++ [x]) vs8 bs8 := D7.out.keep B8.size (fun g hg => B8.block g (D7.out.all g hg).2)
            have hnE := (Array.getElem?_eq_some_iff.1 E7.out).1
            have hnF := (Array.getElem?_eq_some_iff.1 F7.out).1
            have E8 : Hid (w8.heap[N3]? = _) := (B8.block _ hnE).trans E7.out
            have F8 : Hid (w8.heap[NB]? = _) := (B8.block _ hnF).trans F7.out
            have U8 : Hid (w8.heap[w.heap.size]? = _) := (B8.block _ (Array.getElem?_eq_some_iff.1 U7.out).1).trans U7.out
            have G8 : Hid (w.grownBy w8 (some L)) := grown_below G7.out B8
            obtain ⟨j, hj0⟩ : ∃ j, j = i + 1 := ⟨_, rfl⟩
            have hlj : l.length = j := by have := HL7.out; simp at this; omega
            have hz8 : Hid (w.heap.size + 1 ≤ w8.heap.size) := by have := (Array.getElem?_eq_some_iff.1 U8.out).1; rw [Hid]; omega
            have hz87 := B8.size
            obtain ⟨vs1, V, ws, bk, bs1, rfl, rfl, kl, oV, kV⟩ := DefK.last l d8.k
            have hbl : blk (.slice (some ⟨g8, 0, none⟩) (l ++ [x]).length c8) = [g8] := rfl
            have hnd := d8.nd
            rw [hbl, List.nodup_append] at hnd
            obtain ⟨-, hnd1, hnd2⟩ := hnd
            have hnd3 := List.nodup_append.1 hnd1
            have hVin : ∀ g ∈ blk V ++ bk, w.heap.size + 1 ≤ g ∧ g < w8.heap.size := fun g hg => d8.inn g (List.mem_append_right _ hg)
            have hVb : Hid (∀ g, V.ownBlock = some g → w.heap.size + 1 ≤ g) := fun g hg => (hVin g (List.mem_append_left _ (mem_blk hg))).1
            have hVl : Hid (∀ g, V.ownBlock = some g → g < w8.heap.size) := fun g hg => (hVin g (List.mem_append_left _ (mem_blk hg))).2
            have R8 : Hid (RowK (w.heap.size + 1) w8 V idS ws bk) := by
              rw [Hid, ← HXX.out.2.2]; exact ⟨owns_base oV hVb.out, kV, hnd3.2.1, fun g hg => hVin g (List.mem_append_right _ hg)⟩
            have hvl := kl.vlen
            have hg8 := d8.all g8 (by rw [hbl]; simp)
            have xV8 : w8.cell? ⟨g8, j * 4 + 3, none⟩ = some V := by
              have := d8.own.cellAt (j * 4 + 3) (by simp; omega)
              rw [this, List.getElem?_append_right (by omega)]
              have e : j * 4 + 3 - vs1.length = 3 := by omega
              rw [e]; rfl
            have hne8 : V.ownBlock ≠ some g8 := fun e => hnd2 g8 (by simp) g8 (List.mem_append_right _ (List.mem_append_left _ (mem_blk e))) rfl
            have hne3 : V.ownBlock ≠ some N3 := fun e => (NV6.out N3 (List.mem_append_right _ (List.mem_append_right _ (List.mem_append_left _ (mem_blk e))))).1 rfl
            have hneB : V.ownBlock ≠ some NB := fun e => (NV6.out NB (List.mem_append_right _ (List.mem_append_right _ (List.mem_append_left _ (mem_blk e))))).2 rfl
            have hN3L : N3 ≠ L := by have := HN.out; omega
            have hNBL : NB ≠ L := by have := HN.out; omega
            have HEK : Hid (∀ {D y} W, SpL (w.heap.size + 1) L n (k + 1400 + 2 * i + 1) a w w8 V ws bk D y W → W.heap[N3]? = some (.cells #[(.slice (some ⟨g8, 0, none⟩) (j + 1) c8)] 25 (0, 0))) := fun W h => by
              rw [SpJ.el h N3 (by omega) hN3L hne3, E8.out, List.length_append, hlj]; rfl
            have HFK : Hid (∀ {D y} W, SpL (w.heap.size + 1) L n (k + 1400 + 2 * i + 1) a w w8 V ws bk D y W → W.heap[NB]? = some (.cells #[.string ⟨#[102]⟩, .string ⟨#[103]⟩, .string ⟨#[104]⟩] 9 (0, 0))) := fun W h => by
              rw [SpJ.el h NB (by omega) hNBL hneB, F8.out]
            have HVK : Hid (∀ {D y} W, SpL (w.heap.size + 1) L n (k + 1400 + 2 * i + 1) a w w8 V ws bk D y W → W.cell? ⟨g8, j * 4 + 3, none⟩ = some V) := fun W h => by
              rw [World.cell?_of_block (w := w8) (SpJ.el h g8 hg8.2 (by omega) hne8)]; exact xV8
            have hF8 : ∀ o, w8.frozen? ⟨g8, o, none⟩ = false := fun o => by
              rcases d8.own.2 with ⟨e0, _⟩ | ⟨g', cap', cur, e0, h1, h2, _⟩
              · cases e0
              · simp only [Value.slice.injEq, Option.some.injEq, Addr.mk.injEq, and_true] at e0
                rw [e0.1]; exact row_frozen h2 o
            have HFR : Hid (∀ {D y} W, SpL (w.heap.size + 1) L n (k + 1400 + 2 * i + 1) a w w8 V ws bk D y W → W.frozen? ⟨g8, j * 4 + 3, none⟩ = false) := fun W h => by
              rw [World.frozen?_of_block (w := w8) (SpJ.el h g8 hg8.2 (by omega) hne8)]; exact hF8 _
            clear hF8
            have HNL : Hid (N3 < w8.heap.size ∧ NB < w8.heap.size) := ⟨by omega, by omega⟩
            have HCB : Hid (CycD l) := HC7.out.take
            have D8 : Hid _ := d8
            have KL8 : Hid _ := kl
            have HND : Hid _ := And.intro hnd2 hnd3
            have HLJ : Hid (l.length = j) := hlj
            have HJ0 : Hid (j = i + 1) := hj0
            have hij : (i : Int) + 1 = (j : Int) := by omega
            have hwj : IntKind.i64.wrap (j : Int) = (j : Int) := by rw [IntKind.wrap_i64]; omega
            have hjlt : (j : Int) < (j : Int) + 1 := by omega
            have HG88 : Hid (w.heap.size + 1 ≤ g8 ∧ g8 < w8.heap.size) := hg8
            have HNE8 : Hid (V.ownBlock ≠ some g8) := hne8
            clear d8 kl oV kV hbl hnd1 hnd2 hnd3 hVin hvl hg8 xV8 hne8 hne3 hneB hlj hj0 S7 D7 E7 F7 G7 U7 B8 hnE hnF
            refine region_rel6 (n := 25) (by kernel_rfl) (by kernel_rfl) (by rfl) (fun r => ⟨#[(.pointer (some ⟨L, 0, none⟩)), undef, (.pointer (some ⟨w.heap.size, 0, none⟩)), (.pointer (some ⟨N3, 0, none⟩)), (.slice (some ⟨NB, 0, none⟩) 3 3), (.int .i64 ((i : Nat) : Int)), (.pointer (some ⟨L, 0, none⟩)), (.slice a0 l0.len c0), (.agg #[.int .i64 1, .string ⟨#[]⟩, .string ⟨#[]⟩, .slice a0 l0.len c0]), (.slice (some ⟨w1.heap.size, 0, none⟩) 1 1), (.agg #[.slice (some ⟨w1.heap.size, 0, none⟩) 1 1]), (.slice (some ⟨NB, 0, none⟩) 3 3), (.int .i64 ((i : Nat) : Int)), (.bool true), u14, u15, (y 16), (y 17), (y 18), (y 19), (y 20), (y 21), (y 22), (y 23), (y 24), (y 25), (y 26), (y 27), (y 28), (.slice (some ⟨g8, 0, none⟩) (l.length + 1) c8), (.pointer (some ⟨N3, 0, none⟩)), (.pointer (some ⟨L, 0, none⟩)), (.bool true), (.pointer (some ⟨w7.heap.size, 0, none⟩)), (.bool false), u35, u36, u37, u38, u39, u40, u41, u42, u43, u44, u45, u46, u47, u48, u49, u50, u51, u52, u53, u54, u55, u56, u57, u58, u59, u60, (r 61), (r 62), (r 63), (r 64), (r 65), (r 66), (r 67), (r 68), (r 69), (r 70), (r 71), (r 72), (r 73), (r 74), (r 75), (r 76), (r 77), (r 78), (r 79), (r 80), (r 81), (r 82), (r 83), (r 84), undef], []⟩) (fun nz => match nz with | 61 => u61 | 62 => u62 | 63 => u63 | 64 => u64 | 65 => u65 | 66 => u66 | 67 => u67 | 68 => u68 | 69 => u69 | 70 => u70 | 71 => u71 | 72 => u72 | 73 => u73 | 74 => u74 | 75 => u75 | 76 => u76 | 77 => u77 | 78 => u78 | 79 => u79 | 80 => u80 | 81 => u81 | 82 => u82 | 83 => u83 | 84 => u84 | _ => undef) (fun iz => [61, 62, 63, 64, 65, 66, 67, 68, 69, 70, 71, 72, 73, 74, 75, 76, 77, 78, 79, 80, 81, 82, 83, 84, 100].getD iz 0) (fun iz jz hi hj h => (by decide : ∀ i, i < 25 → ∀ j, j < 25 → [61, 62, 63, 64, 65, 66, 67, 68, 69, 70, 71, 72, 73, 74, 75, 76, 77, 78, 79, 80, 81, 82, 83, 84, 100].getD i 0 = [61, 62, 63, 64, 65, 66, 67, 68, 69, 70, 71, 72, 73, 74, 75, 76, 77, 78, 79, 80, 81, 82, 83, 84, 100].getD j 0 → i = j) iz hi jz hj h)
              (SpPv w8.heap.size N3 NB L g8 i j (.slice (some ⟨g8, 0, none⟩) (j + 1) c8) V) (SpF (CycFin w L n (k + 1400 + 2 * i + 1 + 1) N3 NB g8 c8 a l) (SpL (w.heap.size + 1) L n (k + 1400 + 2 * i + 1) a w w8 V ws bk)) ⟨fun q => (by simp at q), fun _ => ⟨grown_drew G8.out, Nat.le_refl _, fun _ _ _ _ => rfl, fun _ => S8.out.move rfl, fun q => (by simp at q), fun _ => grown_drew (grown_refl _ _), fun q => (by simp at q)⟩, fun q => by simp at q⟩ ?step ?last
            case step =>
              intro D r W iq hiq hLs hLi hj6 hdep
              have hL0 := gd_noK hLi
              have hcase : iq = 0 ∨ iq = 1 ∨ iq = 2 ∨ iq = 3 ∨ iq = 4 ∨ iq = 5 ∨ iq = 6 ∨ iq = 7 ∨ iq = 8 ∨ iq = 9 ∨ iq = 10 ∨ iq = 11 ∨ iq = 12 ∨ iq = 13 ∨ iq = 14 ∨ iq = 15 ∨ iq = 16 ∨ iq = 17 ∨ iq = 18 ∨ iq = 19 ∨ iq = 20 ∨ iq = 21 ∨ iq = 22 ∨ iq = 23 ∨ iq = 24 := by omega
              clear hiq
              rcases hcase with rfl | rfl | rfl | rfl | rfl | rfl | rfl | rfl | rfl | rfl | rfl | rfl | rfl | rfl | rfl | rfl | rfl | rfl | rfl | rfl | rfl | rfl | rfl | rfl | rfl
              · have hj := hj6.get (by decide) hL0
                clear hdep
                refine wpOp_step rfl (fun K hK => ?_)
                go_simp
                exact hK _ _ ⟨.pointer (some ⟨N3, 0, none⟩), by simp [upd], (fun _ _ h => h), rfl, hj6.set (by decide) (by omega) hL0 (fun e => absurd e (by decide)) (hj.plain (Below.refl _ _) (by decide) (by decide) (by decide))⟩
              · have hj := hj6.get (by decide) hL0
                have d0 : r 61 = .pointer (some ⟨N3, 0, none⟩) := (hdep _ rfl ⟨0, .data⟩ (by simp) rfl).2
                have xV := row_cell (HEK.out W hj) 0
                clear hdep
                refine wpOp_step rfl (fun K hK => ?_)
                go_simp
                exact hK _ _ ⟨.slice (some ⟨g8, 0, none⟩) (j + 1) c8, by simp [upd, d0], (fun _ _ h => h), rfl, hj6.set (by decide) (by omega) hL0 (fun e => absurd e (by decide)) (hj.plain (Below.refl _ _) (by decide) (by decide) (by decide))⟩
              · have hj := hj6.get (by decide) hL0
                clear hdep
                refine wpOp_step rfl (fun K hK => ?_)
                go_simp
                exact hK _ _ ⟨.int .i64 (i : Int), by simp [upd], (fun _ _ h => h), rfl, hj6.set (by decide) (by omega) hL0 (fun e => absurd e (by decide)) (hj.plain (Below.refl _ _) (by decide) (by decide) (by decide))⟩
              · have hj := hj6.get (by decide) hL0
                have d2 : r 63 = .int .i64 (i : Int) := (hdep _ rfl ⟨2, .data⟩ (by simp) rfl).2
                clear hdep
                refine wpOp_step rfl (fun K hK => ?_)
                go_simp
                exact hK _ _ ⟨.int .i64 (j : Int), by simp [upd, d2], (fun _ _ h => h), rfl, hj6.set (by decide) (by omega) hL0 (fun e => absurd e (by decide)) (hj.plain (Below.refl _ _) (by decide) (by decide) (by decide))⟩
              · have hj := hj6.get (by decide) hL0
                clear hdep
                refine wpOp_step rfl (fun K hK => ?_)
                go_simp
                exact hK _ _ ⟨.pointer (some ⟨N3, 0, none⟩), by simp [upd], (fun _ _ h => h), rfl, hj6.set (by decide) (by omega) hL0 (fun e => absurd e (by decide)) (hj.plain (Below.refl _ _) (by decide) (by decide) (by decide))⟩
              · have hj := hj6.get (by decide) hL0
                have d4 : r 65 = .pointer (some ⟨N3, 0, none⟩) := (hdep _ rfl ⟨4, .data⟩ (by simp) rfl).2
                have xV := row_cell (HEK.out W hj) 0
                clear hdep
                refine wpOp_step rfl (fun K hK => ?_)
                go_simp
                exact hK _ _ ⟨.slice (some ⟨g8, 0, none⟩) (j + 1) c8, by simp [upd, d4], (fun _ _ h => h), rfl, hj6.set (by decide) (by omega) hL0 (fun e => absurd e (by decide)) (hj.plain (Below.refl _ _) (by decide) (by decide) (by decide))⟩
              · have hj := hj6.get (by decide) hL0
                clear hdep
                refine wpOp_step rfl (fun K hK => ?_)
                go_simp
                exact hK _ _ ⟨.int .i64 (i : Int), by simp [upd], (fun _ _ h => h), rfl, hj6.set (by decide) (by omega) hL0 (fun e => absurd e (by decide)) (hj.plain (Below.refl _ _) (by decide) (by decide) (by decide))⟩
              · have hj := hj6.get (by decide) hL0
                have d6 : r 67 = .int .i64 (i : Int) := (hdep _ rfl ⟨6, .data⟩ (by simp) rfl).2
                clear hdep
                refine wpOp_step rfl (fun K hK => ?_)
                go_simp
                exact hK _ _ ⟨.int .i64 (j : Int), by simp [upd, d6], (fun _ _ h => h), rfl, hj6.set (by decide) (by omega) hL0 (fun e => absurd e (by decide)) (hj.plain (Below.refl _ _) (by decide) (by decide) (by decide))⟩
              · have hj := hj6.get (by decide) hL0
                have d5 : r 66 = (.slice (some ⟨g8, 0, none⟩) (j + 1) c8) := (hdep _ rfl ⟨5, .data⟩ (by simp) rfl).2
                have d7 : r 68 = .int .i64 (j : Int) := (hdep _ rfl ⟨7, .data⟩ (by simp) rfl).2
                clear hdep
                refine wpOp_step rfl (fun K hK => ?_)
                go_simp
                exact hK _ _ ⟨.pointer (some ⟨g8, j * 4, none⟩), by simp [upd, d5, d7], (fun _ _ h => h), rfl, hj6.set (by decide) (by omega) hL0 (fun e => absurd e (by decide)) (hj.plain (Below.refl _ _) (by decide) (by decide) (by decide))⟩
              · have hj := hj6.get (by decide) hL0
                have d8 : r 69 = .pointer (some ⟨g8, j * 4, none⟩) := (hdep _ rfl ⟨8, .data⟩ (by simp) rfl).2
                clear hdep
                refine wpOp_step rfl (fun K hK => ?_)
                go_simp
                exact hK _ _ ⟨.pointer (some ⟨g8, j * 4 + 3, none⟩), by simp [upd, d8], (fun _ _ h => h), rfl, hj6.set (by decide) (by omega) hL0 (fun e => absurd e (by decide)) (hj.plain (Below.refl _ _) (by decide) (by decide) (by decide))⟩
              · have hj := hj6.get (by decide) hL0
                have d9 : r 70 = .pointer (some ⟨g8, j * 4 + 3, none⟩) := (hdep _ rfl ⟨9, .data⟩ (by simp) rfl).2
                have xQ := HVK.out W hj
                clear hdep
                refine wpOp_step rfl (fun K hK => ?_)
                go_simp
                exact hK _ _ ⟨V, by simp [upd, d9], (fun _ _ h => h), rfl, hj6.set (by decide) (by omega) hL0 (fun e => absurd e (by decide)) (hj.plain (Below.refl _ _) (by decide) (by decide) (by decide))⟩
              · have hj := hj6.get (by decide) hL0
                clear hdep
                refine wpOp_step rfl (fun K hK => ?_)
                go_simp
                exact hK _ _ ⟨.slice (some ⟨NB, 0, none⟩) 3 3, by simp [upd], (fun _ _ h => h), rfl, hj6.set (by decide) (by omega) hL0 (fun e => absurd e (by decide)) (hj.plain (Below.refl _ _) (by decide) (by decide) (by decide))⟩
              · have hj := hj6.get (by decide) hL0
                clear hdep
                refine wpOp_step rfl (fun K hK => ?_)
                go_simp
                exact hK _ _ ⟨.pointer (some ⟨L, 0, none⟩), by simp [upd], (fun _ _ h => h), rfl, hj6.set (by decide) (by omega) hL0 (fun e => absurd e (by decide)) (hj.plain (Below.refl _ _) (by decide) (by decide) (by decide))⟩
              · have hj := hj6.get (by decide) hL0
                have d12 : r 73 = .pointer (some ⟨L, 0, none⟩) := (hdep _ rfl ⟨12, .data⟩ (by simp) rfl).2
                have l13 := gd_noK hLi
                have hS := SpJ.s0 hj l13
                have hG := SpJ.g hj
                have HJJ : Hid _ := hj
                have HQ : Hid _ := next_pos 3 L n (k + 1400 + 2 * i + 1) a W hS (row_keep R0.out hG) (by omega) hn (by omega) (by omega)
                clear hS hG
                refine wpOp_step rfl (fun K hK => ?_)
                clear hdep
                go_simp
                refine Calls.mono HQ.out ?_
                rintro e w8' ⟨⟨m, hm, rfl⟩, s8', g8'⟩
                exact hK _ _ ⟨.int .i64 (m : Int), by simp [upd, d12], fun jz z h => SpPv.up (StB.grown g8' (fun g e => (by have : L = g := (by simpa using e); have := hz8.out; omega))) jz z h, ⟨m, hm, rfl⟩, hj6.set (by decide) (by omega) hL0 (fun e => absurd e (by decide)) (SpL.call HJJ.out (by omega) l13 g8' hL7 s8')⟩
              · have hj := hj6.get (by decide) hL0
                have d11 : r 72 = .slice (some ⟨NB, 0, none⟩) 3 3 := (hdep _ rfl ⟨11, .data⟩ (by simp) rfl).2
                obtain ⟨m, hm, d13⟩ : ∃ m : Nat, m < 3 ∧ r 74 = .int .i64 (m : Int) := (hdep _ rfl ⟨13, .data⟩ (by simp) rfl).2
                have hm3 : (m : Int) < 3 := by omega
                clear hdep
                refine wpOp_step rfl (fun K hK => ?_)
                go_simp
                exact hK _ _ ⟨.pointer (some ⟨NB, m, none⟩), by simp [upd, d11, d13], (fun _ _ h => h), ⟨m, hm, rfl⟩, hj6.set (by decide) (by omega) hL0 (fun e => absurd e (by decide)) (hj.plain (Below.refl _ _) (by decide) (by decide) (by decide))⟩
              · have hj := hj6.get (by decide) hL0
                obtain ⟨m, hm, d14⟩ : ∃ m : Nat, m < 3 ∧ r 75 = .pointer (some ⟨NB, m, none⟩) := (hdep _ rfl ⟨14, .data⟩ (by simp) rfl).2
                have xN : W.cell? ⟨NB, m, none⟩ = some (.string (cycN m)) := by rw [row_cell (HFK.out W hj) m]; rcases (by omega : m = 0 ∨ m = 1 ∨ m = 2) with rfl | rfl | rfl <;> rfl
                clear hdep
                refine wpOp_step rfl (fun K hK => ?_)
                go_simp
                exact hK _ _ ⟨.string (cycN m), by simp [upd, d14], (fun _ _ h => h), ⟨m, hm, rfl⟩, hj6.set (by decide) (by omega) hL0 (fun e => absurd e (by decide)) (hj.plain (Below.refl _ _) (by decide) (by decide) (by decide))⟩
              · have hj := hj6.get (by decide) hL0
                have HZ := SpJ.zs hj
                clear hdep
                refine wpOp_step rfl (fun K hK => ?_)
                go_simp
                exact hK _ _ ⟨.slice (some ⟨W.heap.size, 0, none⟩) 0 0, by simp [upd], (fun jz z h => SpPv.up (StB.alloc _ _ _) jz z h), EmB.new _ _ _ HZ, hj6.set (by decide) (by omega) hL0 (fun e => absurd e (by decide)) (hj.plain ((Below.refl _ _).alloc (Nat.le_refl _) _) (by decide) (by decide) (by decide))⟩
              · have hj := hj6.get (by decide) hL0
                have HZ := SpJ.zs hj
                clear hdep
                refine wpOp_step rfl (fun K hK => ?_)
                go_simp
                exact hK _ _ ⟨.slice (some ⟨W.heap.size, 0, none⟩) 0 0, by simp [upd], (fun jz z h => SpPv.up (StB.alloc _ _ _) jz z h), EmB.new _ _ _ HZ, hj6.set (by decide) (by omega) hL0 (fun e => absurd e (by decide)) (hj.plain ((Below.refl _ _).alloc (Nat.le_refl _) _) (by decide) (by decide) (by decide))⟩
              · have hj := hj6.get (by decide) hL0
                have HZ := SpJ.zs hj
                clear hdep
                refine wpOp_step rfl (fun K hK => ?_)
                go_simp
                exact hK _ _ ⟨.slice (some ⟨W.heap.size, 0, none⟩) 0 0, by simp [upd], (fun jz z h => SpPv.up (StB.alloc _ _ _) jz z h), EmB.new _ _ _ HZ, hj6.set (by decide) (by omega) hL0 (fun e => absurd e (by decide)) (hj.plain ((Below.refl _ _).alloc (Nat.le_refl _) _) (by decide) (by decide) (by decide))⟩
              · have hj := hj6.get (by decide) hL0
                obtain ⟨m, hm, d15⟩ : ∃ m : Nat, m < 3 ∧ r 76 = .string (cycN m) := (hdep _ rfl ⟨15, .data⟩ (by simp) rfl).2
                have d6 : EmB w8.heap.size 81 (r 77) W := (hdep _ rfl ⟨16, .data⟩ (by simp) rfl).2
                have d7 : EmB w8.heap.size 86 (r 78) W := (hdep _ rfl ⟨17, .data⟩ (by simp) rfl).2
                have d8 : EmB w8.heap.size 63 (r 79) W := (hdep _ rfl ⟨18, .data⟩ (by simp) rfl).2
                obtain ⟨g61, e6, -, -⟩ := id d6
                obtain ⟨g71, e7, -, -⟩ := id d7
                obtain ⟨g81, e8, -, -⟩ := id d8
                rw [e6] at d6
                rw [e7] at d7
                rw [e8] at d8
                have HE6 : Hid _ := And.intro d6 (And.intro d7 d8)
                clear d6 d7 d8
                clear hdep
                refine wpOp_step rfl (fun K hK => ?_)
                go_simp
                exact hK _ _ ⟨.agg #[.int .i64 2, .string ⟨#[]⟩, .string (cycN m), .slice (some ⟨g61, 0, none⟩) 0 0, .slice (some ⟨g71, 0, none⟩) 0 0, .slice (some ⟨g81, 0, none⟩) 0 0], by simp [upd, d15, e6, e7, e8], (fun _ _ h => h), ⟨m, _, _, _, hm, rfl, HE6.out.1, HE6.out.2.1, HE6.out.2.2⟩, hj6.set (by decide) (by omega) hL0 (fun e => absurd e (by decide)) (hj.plain (Below.refl _ _) (by decide) (by decide) (by decide))⟩
              · have hj := hj6.get (by decide) hL0
                obtain ⟨m, va, vd, vss, hm, d19, e1, e2, e3⟩ : ∃ (m : Nat) (va vd vss : Value), m < 3 ∧ r 80 = .agg #[.int .i64 2, .string ⟨#[]⟩, .string (cycN m), va, vd, vss] ∧ EmB w8.heap.size 81 va W ∧ EmB w8.heap.size 86 vd W ∧ EmB w8.heap.size 63 vss W := (hdep _ rfl ⟨19, .data⟩ (by simp) rfl).2
                have HSP : Hid (SpB w8.heap.size (.slice (some ⟨W.heap.size, 0, none⟩) 1 1) (W.alloc (.cells #[.int .i64 2, .string ⟨#[]⟩, .string (cycN m), va, vd, vss] 63))) := ⟨m, _, va, vd, vss, hm, rfl, SpJ.zs hj, heap_alloc_new _ _, e1.up (StB.alloc _ _ _), e2.up (StB.alloc _ _ _), e3.up (StB.alloc _ _ _)⟩
                clear e1 e2 e3
                clear hdep
                refine wpOp_step rfl (fun K hK => ?_)
                go_simp
                exact hK _ _ ⟨.slice (some ⟨W.heap.size, 0, none⟩) 1 1, by simp [upd, d19], (fun jz z h => SpPv.up (StB.alloc _ _ _) jz z h), HSP.out, hj6.set (by decide) (by omega) hL0 (fun e => absurd e (by decide)) (hj.plain ((Below.refl _ _).alloc (Nat.le_refl _) _) (by decide) (by decide) (by decide))⟩
              · have hj := hj6.get (by decide) hL0
                have d10 : r 71 = V := (hdep _ rfl ⟨10, .data⟩ (by simp) rfl).2
                have d20 : SpB w8.heap.size (r 81) W := (hdep _ rfl ⟨20, .data⟩ (by simp) rfl).2
                have l21 := gd_noK hLi
                obtain ⟨m, g9, c9, W8, ws9, bk9, hm, hrun, q1, q2, q3⟩ := app_spr R8.out (SpJ.r0 hj l21) hL7 (by have := SpJ.zs hj; have := hz8.out; omega) d20
                have HJ8 : Hid _ := hj.put (by omega) l21 q2 hVb.out (by omega) hL7 hm rfl q1 q3
                have HQ2 : Hid _ := q2
                clear hdep q1 q2 q3
                refine wpOp_step rfl (fun K hK => ?_)
                refine wp_append_runC (.tmp 71) (.tmp 81) _ rfl _ _ _ _ d10 rfl hrun ?_
                exact hK _ _ ⟨_, rfl, fun jz z h => SpPv.up (StB.grown HQ2.out (fun g hg => hVl.out g hg)) jz z h, trivial, hj6.set (by decide) (by omega) hL0 (fun e => absurd e (by decide)) HJ8.out⟩
              · have hj := hj6.get (by decide) hL0
                have d1 : r 62 = (.slice (some ⟨g8, 0, none⟩) (j + 1) c8) := (hdep _ rfl ⟨1, .data⟩ (by simp) rfl).2
                have d3 : r 64 = .int .i64 (j : Int) := (hdep _ rfl ⟨3, .data⟩ (by simp) rfl).2
                clear hdep
                refine wpOp_step rfl (fun K hK => ?_)
                go_simp
                exact hK _ _ ⟨.pointer (some ⟨g8, j * 4, none⟩), by simp [upd, d1, d3], (fun _ _ h => h), rfl, hj6.set (by decide) (by omega) hL0 (fun e => absurd e (by decide)) (hj.plain (Below.refl _ _) (by decide) (by decide) (by decide))⟩
              · have q22 := (hdep _ rfl ⟨22, .data⟩ (by simp) rfl).1
                have hj := hj6.get (by decide) hL0
                have d22 : r 83 = .pointer (some ⟨g8, j * 4, none⟩) := (hdep _ rfl ⟨22, .data⟩ (by simp) rfl).2
                clear hdep
                refine wpOp_step rfl (fun K hK => ?_)
                go_simp
                exact hK _ _ ⟨.pointer (some ⟨g8, j * 4 + 3, none⟩), by simp [upd, d22], (fun _ _ h => h), rfl, hj6.set (by decide) (by omega) hL0 (fun _ => q22) (hj.plain (Below.refl _ _) (by decide) (by decide) (by decide))⟩
              · have d23 : r 84 = .pointer (some ⟨g8, j * 4 + 3, none⟩) := (hdep _ rfl ⟨23, .data⟩ (by simp) rfl).2
                have hall : ∀ ii, ii < 24 → ii ≠ 22 → D.getD ii false = true := fun ii h1 h2 => by
                  have hc : ii = 0 ∨ ii = 1 ∨ ii = 2 ∨ ii = 3 ∨ ii = 4 ∨ ii = 5 ∨ ii = 6 ∨ ii = 7 ∨ ii = 8 ∨ ii = 9 ∨ ii = 10 ∨ ii = 11 ∨ ii = 12 ∨ ii = 13 ∨ ii = 14 ∨ ii = 15 ∨ ii = 16 ∨ ii = 17 ∨ ii = 18 ∨ ii = 19 ∨ ii = 20 ∨ ii = 21 ∨ ii = 23 := by omega
                  rcases hc with rfl | rfl | rfl | rfl | rfl | rfl | rfl | rfl | rfl | rfl | rfl | rfl | rfl | rfl | rfl | rfl | rfl | rfl | rfl | rfl | rfl | rfl | rfl
                  · exact (hdep _ rfl ⟨0, .phase⟩ (by simp) rfl).1
                  · exact (hdep _ rfl ⟨1, .phase⟩ (by simp) rfl).1
                  · exact (hdep _ rfl ⟨2, .phase⟩ (by simp) rfl).1
                  · exact (hdep _ rfl ⟨3, .phase⟩ (by simp) rfl).1
                  · exact (hdep _ rfl ⟨4, .phase⟩ (by simp) rfl).1
                  · exact (hdep _ rfl ⟨5, .phase⟩ (by simp) rfl).1
                  · exact (hdep _ rfl ⟨6, .phase⟩ (by simp) rfl).1
                  · exact (hdep _ rfl ⟨7, .phase⟩ (by simp) rfl).1
                  · exact (hdep _ rfl ⟨8, .phase⟩ (by simp) rfl).1
                  · exact (hdep _ rfl ⟨9, .phase⟩ (by simp) rfl).1
                  · exact (hdep _ rfl ⟨10, .phase⟩ (by simp) rfl).1
                  · exact (hdep _ rfl ⟨11, .phase⟩ (by simp) rfl).1
                  · exact (hdep _ rfl ⟨12, .phase⟩ (by simp) rfl).1
                  · exact (hdep _ rfl ⟨13, .phase⟩ (by simp) rfl).1
                  · exact (hdep _ rfl ⟨14, .phase⟩ (by simp) rfl).1
                  · exact (hdep _ rfl ⟨15, .phase⟩ (by simp) rfl).1
                  · exact (hdep _ rfl ⟨16, .phase⟩ (by simp) rfl).1
                  · exact (hdep _ rfl ⟨17, .phase⟩ (by simp) rfl).1
                  · exact (hdep _ rfl ⟨18, .phase⟩ (by simp) rfl).1
                  · exact (hdep _ rfl ⟨19, .phase⟩ (by simp) rfl).1
                  · exact (hdep _ rfl ⟨20, .phase⟩ (by simp) rfl).1
                  · exact (hdep _ rfl ⟨21, .phase⟩ (by simp) rfl).1
                  · exact (hdep _ rfl ⟨23, .data⟩ (by simp) rfl).1
                have hj := hj6.2.1 hL0
                obtain ⟨m, g9, c9, ws9, bk9, hm, d21, hR, hq⟩ := SpJ.r1 hj (hall 21 (by omega) (by omega))
                have s1 := SpJ.s1 hj (hall 13 (by omega) (by omega))
                have g1 := SpJ.g hj
                have hN38 : N3 ≠ g8 := fun e => (NV6.out g8 (List.mem_append_left _ (mem_blk rfl))).1 e.symm
                have hNB8 : NB ≠ g8 := fun e => (NV6.out g8 (List.mem_append_left _ (mem_blk rfl))).2 e.symm
                have hll : ∀ z : De, (l ++ [z]).length = j + 1 := fun z => by simp [HLJ.out]
                have hdk := DocK.swapLast D8.out KL8.out (SpJ.zs hj) (fun p hp => by
                  rcases List.mem_cons.1 hp with rfl | hp
                  · exact SpJ.el hj _ HG88.out.2 (by have := HG88.out.1; omega) HNE8.out
                  · have hb := D8.out.inn p (List.mem_append_left _ hp)
                    exact SpJ.el hj p hb.2 (by omega) (fun e => HND.out.2.2.2 p hp p (List.mem_append_left _ (mem_blk e)) rfl)) hR (fun p hp => hq p (by simpa [blk, Value.ownBlock] using hp))
                rw [HLJ.out] at hdk
                have HFIN : Hid (CycFin w L n (k + 1400 + 2 * i + 1 + 1) N3 NB g8 c8 a l (W.setCell ⟨g8, j * 4 + 3, none⟩ (.slice (some ⟨g9, 0, none⟩) 2 c9))) := by
                  have hsb := sb_spr hm
                  refine ⟨_, _, _, ?_, by rw [hll]; rw [hll] at hdk; exact hdk, ?_, ?_, s1.move (heap_setCell_other _ _ _ _ (by show L ≠ g8; have := HG88.out.1; omega)), grown_new g1 (by have := HG88.out.1; omega) _, ?_, ?_⟩
                  · exact HCB.out.snoc (by have := HLJ.out; omega) HXX.out.1 (by rw [HNX.out, HLJ.out, HJ0.out]; rfl) HXX.out.2.1 hsb.1 hsb.2.1 hsb.2.2
                  · rw [hll, heap_setCell_other _ _ _ _ hN38]; exact HEK.out W hj
                  · rw [heap_setCell_other _ _ _ _ hNB8]; exact HFK.out W hj
                  · rw [heap_setCell_other _ _ _ _ (by show w.heap.size ≠ g8; have := HG88.out.1; omega), SpJ.el hj _ (by have := hz8.out; omega) (by omega) (fun e => by have := hVb.out _ e; omega)]; exact U8.out
                  · intro p hp
                    rcases List.mem_append.1 hp with hp | hp
                    · exact NV6.out p (List.mem_append_left _ hp)
                    · rcases List.mem_append.1 hp with hp | hp
                      · exact NV6.out p (List.mem_append_right _ (List.mem_append_left _ hp))
                      · rcases hq p (by simpa [blk, Value.ownBlock] using hp) with h | h
                        · exact NV6.out p (List.mem_append_right _ (List.mem_append_right _ h))
                        · have := HNL.out; omega
                clear hdk s1 g1
                have xQ := HVK.out W hj
                have fQ := HFR.out W hj
                clear hdep
                refine wpOp_step rfl (fun K hK => ?_)
                go_simp
                exact hK _ _ ⟨undef, by simp [upd, d21, d23], fun jz z h => SpPv.up (StB.set HG88.out.2) jz z h, trivial, hj6.store (by omega) hall HFIN.out⟩
            case last =>
              intro D r W hLs hD hj6 hp
              obtain ⟨x', vs', bs', f1, f2, f3, f4, f5, f6, f7, f8⟩ := (hj6.2.2 (hD 24 (by omega))).2
              have FL : Hid ((l ++ [x']).length = i + 1 + 1) := by have := HLJ.out; have := HJ0.out; rw [Hid]; simp; omega
              have F1 : Hid _ := f1
              have F2 : Hid _ := f2
              have F3 : Hid (W.heap[N3]? = _) := f3
              have F4 : Hid (W.heap[NB]? = _) := f4
              have F5 : Hid (SrcSt W L a n (k + 1400 + 2 * (i + 1))) := f5.more (by omega)
              have F6 : Hid (w.grownBy W (some L)) := f6
              have F7 : Hid (W.heap[w.heap.size]? = _) := f7
              have F8 : Hid _ := f8
              clear hp hj6 hD hLs f1 f2 f3 f4 f5 f6 f7 f8 hij hwj hjlt HEK HFK HVK
              go_wp2_with fail
              exact ⟨⟨i + 1, l ++ [x'], g8, c8, vs', bs', by go_num, by omega, FL, F1, F2, F3, F4, F5, F6, F7, F8⟩, by simp [intOf]; omega⟩
          · go_wp2_with fail
            obtain ⟨w8, hw8⟩ : ∃ z, z = (w7.alloc (.cells #[.bool true] 4)).drew := ⟨_, rfl⟩
            have B8 : Below w7.heap.size w7 w8 := by rw [hw8]; exact ((Below.refl _ _).alloc (Nat.le_refl _) _).drew
            rw [← hw8]
            clear hw8
            have S8 : Hid (SrcSt w8 L a n (k + 1400 + 2 * i + 1)) := S7.out.move (B8.block L S7.out.lt)
            have d8 : DocK (w.heap.size + 1) w8 (.slice (some ⟨g8, 0, none⟩) (l ++ [x]).length c8) (l ++ [x]) vs8 bs8 := D7.out.keep B8.size (fun g hg => B8.block g (D7.out.all g hg).2)
            have hnE := (Array.getElem?_eq_some_iff.1 E7.out).1
            have hnF := (Array.getElem?_eq_some_iff.1 F7.out).1
            have E8 : Hid (w8.heap[N3]? = _) := (B8.block _ hnE).trans E7.out
            have F8 : Hid (w8.heap[NB]? = _) := (B8.block _ hnF).trans F7.out
            have U8 : Hid (w8.heap[w.heap.size]? = _) := (B8.block _ (Array.getElem?_eq_some_iff.1 U7.out).1).trans U7.out
            have G8 : Hid (w.grownBy w8 (some L)) := grown_below G7.out B8
            obtain ⟨j, hj0⟩ : ∃ j, j = i + 1 := ⟨_, rfl⟩
            have hlj : l.length = j := by have := HL7.out; simp at this; omega
            have hz8 : Hid (w.heap.size + 1 ≤ w8.heap.size) := by have := (Array.getElem?_eq_some_iff.1 U8.out).1; rw [Hid]; omega
            have hz87 := B8.size
            obtain ⟨vs1, V, ws, bk, bs1, rfl, rfl, kl, oV, kV⟩ := DefK.last l d8.k
            have hbl : blk (.slice (some ⟨g8, 0, none⟩) (l ++ [x]).length c8) = [g8] := rfl
            have hnd := d8.nd
            rw [hbl, List.nodup_append] at hnd
            obtain ⟨-, hnd1, hnd2⟩ := hnd
            have hnd3 := List.nodup_append.1 hnd1
            have hVin : ∀ g ∈ blk V ++ bk, w.heap.size + 1 ≤ g ∧ g < w8.heap.size := fun g hg => d8.inn g (List.mem_append_right _ hg)
            have hVb : Hid (∀ g, V.ownBlock = some g → w.heap.size + 1 ≤ g) := fun g hg => (hVin g (List.mem_append_left _ (mem_blk hg))).1
            have hVl : Hid (∀ g, V.ownBlock = some g → g < w8.heap.size) := fun g hg => (hVin g (List.mem_append_left _ (mem_blk hg))).2
            have R8 : Hid (RowK (w.heap.size + 1) w8 V idS ws bk) := by
              rw [Hid, ← HXX.out.2.2]; exact ⟨owns_base oV hVb.out, kV, hnd3.2.1, fun g hg => hVin g (List.mem_append_right _ hg)⟩
            have hvl := kl.vlen
            have hg8 := d8.all g8 (by rw [hbl]; simp)
            have xV8 : w8.cell? ⟨g8, j * 4 + 3, none⟩ = some V := by
              have := d8.own.cellAt (j * 4 + 3) (by simp; omega)
              rw [this, List.getElem?_append_right (by omega)]
              have e : j * 4 + 3 - vs1.length = 3 := by omega
              rw [e]; rfl
            have hne8 : V.ownBlock ≠ some g8 := fun e => hnd2 g8 (by simp) g8 (List.mem_append_right _ (List.mem_append_left _ (mem_blk e))) rfl
            have hne3 : V.ownBlock ≠ some N3 := fun e => (NV6.out N3 (List.mem_append_right _ (List.mem_append_right _ (List.mem_append_left _ (mem_blk e))))).1 rfl
            have hneB : V.ownBlock ≠ some NB := fun e => (NV6.out NB (List.mem_append_right _ (List.mem_append_right _ (List.mem_append_left _ (mem_blk e))))).2 rfl
            have hN3L : N3 ≠ L := by have := HN.out; omega
            have hNBL : NB ≠ L := by have := HN.out; omega
            have HEK : Hid (∀ W : World, (∀ g, g < w8.heap.size → g ≠ L → V.ownBlock ≠ some g → W.heap[g]? = w8.heap[g]?) → W.heap[N3]? = some (.cells #[(.slice (some ⟨g8, 0, none⟩) (j + 1) c8)] 25 (0, 0))) := fun W h => by
              rw [h N3 (by omega) hN3L hne3, E8.out, List.length_append, hlj]; rfl
            have HFK : Hid (∀ W : World, (∀ g, g < w8.heap.size → g ≠ L → V.ownBlock ≠ some g → W.heap[g]? = w8.heap[g]?) → W.heap[NB]? = some (.cells #[.string ⟨#[102]⟩, .string ⟨#[103]⟩, .string ⟨#[104]⟩] 9 (0, 0))) := fun W h => by
              rw [h NB (by omega) hNBL hneB, F8.out]
            have HVK : Hid (∀ W : World, (∀ g, g < w8.heap.size → g ≠ L → V.ownBlock ≠ some g → W.heap[g]? = w8.heap[g]?) → W.cell? ⟨g8, j * 4 + 3, none⟩ = some V) := fun W h => by
              rw [World.cell?_of_block (w := w8) (h g8 hg8.2 (by omega) hne8)]; exact xV8
            have hF8 : ∀ o, w8.frozen? ⟨g8, o, none⟩ = false := fun o => by
              rcases d8.own.2 with ⟨e0, _⟩ | ⟨g', cap', cur, e0, h1, h2, _⟩
              · cases e0
              · simp only [Value.slice.injEq, Option.some.injEq, Addr.mk.injEq, and_true] at e0
                rw [e0.1]; exact row_frozen h2 o
            have HFR : Hid (∀ W : World, (∀ g, g < w8.heap.size → g ≠ L → V.ownBlock ≠ some g → W.heap[g]? = w8.heap[g]?) → W.frozen? ⟨g8, j * 4 + 3, none⟩ = false) := fun W h => by
              rw [World.frozen?_of_block (w := w8) (h g8 hg8.2 (by omega) hne8)]; exact hF8 _
            clear hF8
            have HNL : Hid (N3 < w8.heap.size ∧ NB < w8.heap.size) := ⟨by omega, by omega⟩
            have HCB : Hid (CycD l) := HC7.out.take
            have D8 : Hid _ := d8
            have KL8 : Hid _ := kl
            have HND : Hid _ := And.intro hnd2 hnd3
            have HLJ : Hid (l.length = j) := hlj
            have HJ0 : Hid (j = i + 1) := hj0
            have hij : (i : Int) + 1 = (j : Int) := by omega
            have hwj : IntKind.i64.wrap (j : Int) = (j : Int) := by rw [IntKind.wrap_i64]; omega
            have hjlt : (j : Int) < (j : Int) + 1 := by omega
            have HG88 : Hid (w.heap.size + 1 ≤ g8 ∧ g8 < w8.heap.size) := hg8
            have HNE8 : Hid (V.ownBlock ≠ some g8) := hne8
            clear d8 kl oV kV hbl hnd1 hnd2 hnd3 hVin hvl hg8 xV8 hne8 hne3 hneB hlj hj0 S7 D7 E7 F7 G7 U7 B8 hnE hnF
            obtain ⟨aV, cV, hVe⟩ := owns_slice R8.out.own
            have HVE : Hid (V = .slice aV 1 cV) := hVe
            clear hVe
            have HSV : Hid (DefK w8 l vs1 bs1 ∧ vs1.length = l.length * 4) := ⟨KL8.out, KL8.out.vlen⟩
            refine region_rel6 (n := 26) (by kernel_rfl) (by kernel_rfl) (by rfl) (fun r => ⟨#[(.pointer (some ⟨L, 0, none⟩)), undef, (.pointer (some ⟨w.heap.size, 0, none⟩)), (.pointer (some ⟨N3, 0, none⟩)), (.slice (some ⟨NB, 0, none⟩) 3 3), (.int .i64 ((i : Nat) : Int)), (.pointer (some ⟨L, 0, none⟩)), (.slice a0 l0.len c0), (.agg #[.int .i64 1, .string ⟨#[]⟩, .string ⟨#[]⟩, .slice a0 l0.len c0]), (.slice (some ⟨w1.heap.size, 0, none⟩) 1 1), (.agg #[.slice (some ⟨w1.heap.size, 0, none⟩) 1 1]), (.slice (some ⟨NB, 0, none⟩) 3 3), (.int .i64 ((i : Nat) : Int)), (.bool true), u14, u15, (y 16), (y 17), (y 18), (y 19), (y 20), (y 21), (y 22), (y 23), (y 24), (y 25), (y 26), (y 27), (y 28), (.slice (some ⟨g8, 0, none⟩) (l.length + 1) c8), (.pointer (some ⟨N3, 0, none⟩)), (.pointer (some ⟨L, 0, none⟩)), (.bool true), (.pointer (some ⟨w7.heap.size, 0, none⟩)), (.bool true), (r 35), (r 36), (r 37), (r 38), (r 39), (r 40), (r 41), (r 42), (r 43), (r 44), (r 45), (r 46), (r 47), (r 48), (r 49), (r 50), (r 51), (r 52), (r 53), (r 54), (r 55), (r 56), (r 57), (r 58), (r 59), u60, u61, u62, u63, u64, u65, u66, u67, u68, u69, u70, u71, u72, u73, u74, u75, u76, u77, u78, u79, u80, u81, u82, u83, u84, undef], []⟩) (fun nz => match nz with | 35 => u35 | 36 => u36 | 37 => u37 | 38 => u38 | 39 => u39 | 40 => u40 | 41 => u41 | 42 => u42 | 43 => u43 | 44 => u44 | 45 => u45 | 46 => u46 | 47 => u47 | 48 => u48 | 49 => u49 | 50 => u50 | 51 => u51 | 52 => u52 | 53 => u53 | 54 => u54 | 55 => u55 | 56 => u56 | 57 => u57 | 58 => u58 | 59 => u59 | _ => undef) (fun iz => [35, 36, 37, 38, 39, 40, 41, 42, 43, 44, 45, 46, 47, 48, 49, 50, 51, 52, 53, 54, 55, 56, 57, 58, 59, 100].getD iz 0) (fun iz jz hi hj h => (by decide : ∀ i, i < 26 → ∀ j, j < 26 → [35, 36, 37, 38, 39, 40, 41, 42, 43, 44, 45, 46, 47, 48, 49, 50, 51, 52, 53, 54, 55, 56, 57, 58, 59, 100].getD i 0 = [35, 36, 37, 38, 39, 40, 41, 42, 43, 44, 45, 46, 47, 48, 49, 50, 51, 52, 53, 54, 55, 56, 57, 58, 59, 100].getD j 0 → i = j) iz hi jz hj h)
              (SqPv w8.heap.size N3 NB L g8 i j (.slice (some ⟨g8, 0, none⟩) (j + 1) c8) V) (SqF (w.heap.size + 1) L n (k + 1400 + 2 * i + 1) a w w8 V ws bk (fun y57 Z => ∃ W1, SqM (w.heap.size + 1) L n (k + 1400 + 2 * i + 1) a w w8 V ws y57 W1 ∧ Z = W1.setCell ⟨g8, j * 4 + 3, none⟩ y57)) ⟨fun _ => ⟨rfl, ⟨grown_drew G8.out, Nat.le_refl _, fun _ _ _ _ => rfl, fun _ => S8.out.move rfl, fun q => (by simp at q), fun _ => grown_drew (grown_refl _ _), fun q => (by simp at q)⟩⟩, fun q => (by simp at q), fun q => (by simp at q)⟩ ?step ?last
            case step =>
              intro D r W iq hiq hLs hLi hj9 hdep
              have hL0 := gd_noK hLi
              have hcase : iq = 0 ∨ iq = 1 ∨ iq = 2 ∨ iq = 3 ∨ iq = 4 ∨ iq = 5 ∨ iq = 6 ∨ iq = 7 ∨ iq = 8 ∨ iq = 9 ∨ iq = 10 ∨ iq = 11 ∨ iq = 12 ∨ iq = 13 ∨ iq = 14 ∨ iq = 15 ∨ iq = 16 ∨ iq = 17 ∨ iq = 18 ∨ iq = 19 ∨ iq = 20 ∨ iq = 21 ∨ iq = 22 ∨ iq = 23 ∨ iq = 24 ∨ iq = 25 := by omega
              clear hiq
              rcases hcase with rfl | rfl | rfl | rfl | rfl | rfl | rfl | rfl | rfl | rfl | rfl | rfl | rfl | rfl | rfl | rfl | rfl | rfl | rfl | rfl | rfl | rfl | rfl | rfl | rfl | rfl
              · have hj := (hj9.get (by decide) hL0).2.2
                clear hdep
                refine wpOp_step rfl (fun K hK => ?_)
                go_simp
                exact hK _ _ ⟨.pointer (some ⟨N3, 0, none⟩), by simp [upd], (fun _ _ h => h), rfl, SqF.plain hj9 (Below.refl _ _) (by decide) (by decide) hL0⟩
              · have hj := (hj9.get (by decide) hL0).2.2
                have d0 : r 35 = .pointer (some ⟨N3, 0, none⟩) := (hdep _ rfl ⟨0, .data⟩ (by simp) rfl).2
                have xV := row_cell (HEK.out W hj.el) 0
                clear hdep
                refine wpOp_step rfl (fun K hK => ?_)
                go_simp
                exact hK _ _ ⟨.slice (some ⟨g8, 0, none⟩) (j + 1) c8, by simp [upd, d0], (fun _ _ h => h), rfl, SqF.plain hj9 (Below.refl _ _) (by decide) (by decide) hL0⟩
              · have hj := (hj9.get (by decide) hL0).2.2
                clear hdep
                refine wpOp_step rfl (fun K hK => ?_)
                go_simp
                exact hK _ _ ⟨.int .i64 (i : Int), by simp [upd], (fun _ _ h => h), rfl, SqF.plain hj9 (Below.refl _ _) (by decide) (by decide) hL0⟩
              · have hj := (hj9.get (by decide) hL0).2.2
                have d2 : r 37 = .int .i64 (i : Int) := (hdep _ rfl ⟨2, .data⟩ (by simp) rfl).2
                clear hdep
                refine wpOp_step rfl (fun K hK => ?_)
                go_simp
                exact hK _ _ ⟨.int .i64 (j : Int), by simp [upd, d2], (fun _ _ h => h), rfl, SqF.plain hj9 (Below.refl _ _) (by decide) (by decide) hL0⟩
              · have hj := (hj9.get (by decide) hL0).2.2
                clear hdep
                refine wpOp_step rfl (fun K hK => ?_)
                go_simp
                exact hK _ _ ⟨.pointer (some ⟨N3, 0, none⟩), by simp [upd], (fun _ _ h => h), rfl, SqF.plain hj9 (Below.refl _ _) (by decide) (by decide) hL0⟩
              · have hj := (hj9.get (by decide) hL0).2.2
                have d4 : r 39 = .pointer (some ⟨N3, 0, none⟩) := (hdep _ rfl ⟨4, .data⟩ (by simp) rfl).2
                have xV := row_cell (HEK.out W hj.el) 0
                clear hdep
                refine wpOp_step rfl (fun K hK => ?_)
                go_simp
                exact hK _ _ ⟨.slice (some ⟨g8, 0, none⟩) (j + 1) c8, by simp [upd, d4], (fun _ _ h => h), rfl, SqF.plain hj9 (Below.refl _ _) (by decide) (by decide) hL0⟩
              · have hj := (hj9.get (by decide) hL0).2.2
                clear hdep
                refine wpOp_step rfl (fun K hK => ?_)
                go_simp
                exact hK _ _ ⟨.int .i64 (i : Int), by simp [upd], (fun _ _ h => h), rfl, SqF.plain hj9 (Below.refl _ _) (by decide) (by decide) hL0⟩
              · have hj := (hj9.get (by decide) hL0).2.2
                have d6 : r 41 = .int .i64 (i : Int) := (hdep _ rfl ⟨6, .data⟩ (by simp) rfl).2
                clear hdep
                refine wpOp_step rfl (fun K hK => ?_)
                go_simp
                exact hK _ _ ⟨.int .i64 (j : Int), by simp [upd, d6], (fun _ _ h => h), rfl, SqF.plain hj9 (Below.refl _ _) (by decide) (by decide) hL0⟩
              · have hj := (hj9.get (by decide) hL0).2.2
                have d5 : r 40 = (.slice (some ⟨g8, 0, none⟩) (j + 1) c8) := (hdep _ rfl ⟨5, .data⟩ (by simp) rfl).2
                have d7 : r 42 = .int .i64 (j : Int) := (hdep _ rfl ⟨7, .data⟩ (by simp) rfl).2
                clear hdep
                refine wpOp_step rfl (fun K hK => ?_)
                go_simp
                exact hK _ _ ⟨.pointer (some ⟨g8, j * 4, none⟩), by simp [upd, d5, d7], (fun _ _ h => h), rfl, SqF.plain hj9 (Below.refl _ _) (by decide) (by decide) hL0⟩
              · have hj := (hj9.get (by decide) hL0).2.2
                have d8 : r 43 = .pointer (some ⟨g8, j * 4, none⟩) := (hdep _ rfl ⟨8, .data⟩ (by simp) rfl).2
                clear hdep
                refine wpOp_step rfl (fun K hK => ?_)
                go_simp
                exact hK _ _ ⟨.pointer (some ⟨g8, j * 4 + 3, none⟩), by simp [upd, d8], (fun _ _ h => h), rfl, SqF.plain hj9 (Below.refl _ _) (by decide) (by decide) hL0⟩
              · have hj := (hj9.get (by decide) hL0).2.2
                have d9 : r 44 = .pointer (some ⟨g8, j * 4 + 3, none⟩) := (hdep _ rfl ⟨9, .data⟩ (by simp) rfl).2
                have xQ := HVK.out W hj.el
                clear hdep
                refine wpOp_step rfl (fun K hK => ?_)
                go_simp
                exact hK _ _ ⟨V, by simp [upd, d9], (fun _ _ h => h), rfl, SqF.plain hj9 (Below.refl _ _) (by decide) (by decide) hL0⟩
              · have hj := (hj9.get (by decide) hL0).2.2
                clear hdep
                refine wpOp_step rfl (fun K hK => ?_)
                go_simp
                exact hK _ _ ⟨.slice (some ⟨NB, 0, none⟩) 3 3, by simp [upd], (fun _ _ h => h), rfl, SqF.plain hj9 (Below.refl _ _) (by decide) (by decide) hL0⟩
              · have hj := (hj9.get (by decide) hL0).2.2
                clear hdep
                refine wpOp_step rfl (fun K hK => ?_)
                go_simp
                exact hK _ _ ⟨.pointer (some ⟨L, 0, none⟩), by simp [upd], (fun _ _ h => h), rfl, SqF.plain hj9 (Below.refl _ _) (by decide) (by decide) hL0⟩
              · have hj := (hj9.get (by decide) hL0).2.2
                have d12 : r 47 = .pointer (some ⟨L, 0, none⟩) := (hdep _ rfl ⟨12, .data⟩ (by simp) rfl).2
                have hS := SpJ.s0 hj hL0
                have hG := SpJ.g hj
                have HJJ : Hid _ := hj9
                have HQ : Hid _ := next_pos 3 L n (k + 1400 + 2 * i + 1) a W hS (row_keep R0.out hG) (by omega) hn (by omega) (by omega)
                clear hS hG
                refine wpOp_step rfl (fun K hK => ?_)
                clear hdep
                go_simp
                refine Calls.mono HQ.out ?_
                rintro e w8' ⟨⟨m, hm, rfl⟩, s8', g8'⟩
                exact hK _ _ ⟨.int .i64 (m : Int), by simp [upd, d12], fun jz z h => SqPv.up (StB.grown g8' (fun g e => (by have : L = g := (by simpa using e); have := hz8.out; omega))) jz z h, ⟨m, hm, rfl⟩, SqF.call HJJ.out (by omega) hL0 g8' hL7 s8'⟩
              · have hj := (hj9.get (by decide) hL0).2.2
                have d11 : r 46 = .slice (some ⟨NB, 0, none⟩) 3 3 := (hdep _ rfl ⟨11, .data⟩ (by simp) rfl).2
                obtain ⟨m, hm, d13⟩ : ∃ m : Nat, m < 3 ∧ r 48 = .int .i64 (m : Int) := (hdep _ rfl ⟨13, .data⟩ (by simp) rfl).2
                have hm3 : (m : Int) < 3 := by omega
                clear hdep
                refine wpOp_step rfl (fun K hK => ?_)
                go_simp
                exact hK _ _ ⟨.pointer (some ⟨NB, m, none⟩), by simp [upd, d11, d13], (fun _ _ h => h), ⟨m, hm, rfl⟩, SqF.plain hj9 (Below.refl _ _) (by decide) (by decide) hL0⟩
              · have hj := (hj9.get (by decide) hL0).2.2
                obtain ⟨m, hm, d14⟩ : ∃ m : Nat, m < 3 ∧ r 49 = .pointer (some ⟨NB, m, none⟩) := (hdep _ rfl ⟨14, .data⟩ (by simp) rfl).2
                have xN : W.cell? ⟨NB, m, none⟩ = some (.string (cycN m)) := by rw [row_cell (HFK.out W hj.el) m]; rcases (by omega : m = 0 ∨ m = 1 ∨ m = 2) with rfl | rfl | rfl <;> rfl
                clear hdep
                refine wpOp_step rfl (fun K hK => ?_)
                go_simp
                exact hK _ _ ⟨.string (cycN m), by simp [upd, d14], (fun _ _ h => h), ⟨m, hm, rfl⟩, SqF.plain hj9 (Below.refl _ _) (by decide) (by decide) hL0⟩
              · have hj := (hj9.get (by decide) hL0).2.2
                have HZ := SpJ.zs hj
                clear hdep
                refine wpOp_step rfl (fun K hK => ?_)
                go_simp
                exact hK _ _ ⟨.slice (some ⟨W.heap.size, 0, none⟩) 0 0, by simp [upd], (fun jz z h => SqPv.up (StB.alloc _ _ _) jz z h), EmB.new _ _ _ HZ, SqF.plain hj9 ((Below.refl _ _).alloc (Nat.le_refl _) _) (by decide) (by decide) hL0⟩
              · have hj := (hj9.get (by decide) hL0).2.2
                have HZ := SpJ.zs hj
                clear hdep
                refine wpOp_step rfl (fun K hK => ?_)
                go_simp
                exact hK _ _ ⟨.slice (some ⟨W.heap.size, 0, none⟩) 0 0, by simp [upd], (fun jz z h => SqPv.up (StB.alloc _ _ _) jz z h), EmB.new _ _ _ HZ, SqF.plain hj9 ((Below.refl _ _).alloc (Nat.le_refl _) _) (by decide) (by decide) hL0⟩
              · have hj := (hj9.get (by decide) hL0).2.2
                have HZ := SpJ.zs hj
                clear hdep
                refine wpOp_step rfl (fun K hK => ?_)
                go_simp
                exact hK _ _ ⟨.slice (some ⟨W.heap.size, 0, none⟩) 0 0, by simp [upd], (fun jz z h => SqPv.up (StB.alloc _ _ _) jz z h), EmB.new _ _ _ HZ, SqF.plain hj9 ((Below.refl _ _).alloc (Nat.le_refl _) _) (by decide) (by decide) hL0⟩
              · have hj := (hj9.get (by decide) hL0).2.2
                obtain ⟨m, hm, d15⟩ : ∃ m : Nat, m < 3 ∧ r 50 = .string (cycN m) := (hdep _ rfl ⟨15, .data⟩ (by simp) rfl).2
                have d6 : EmB w8.heap.size 81 (r 51) W := (hdep _ rfl ⟨16, .data⟩ (by simp) rfl).2
                have d7 : EmB w8.heap.size 86 (r 52) W := (hdep _ rfl ⟨17, .data⟩ (by simp) rfl).2
                have d8 : EmB w8.heap.size 63 (r 53) W := (hdep _ rfl ⟨18, .data⟩ (by simp) rfl).2
                obtain ⟨g61, e6, -, -⟩ := id d6
                obtain ⟨g71, e7, -, -⟩ := id d7
                obtain ⟨g81, e8, -, -⟩ := id d8
                rw [e6] at d6
                rw [e7] at d7
                rw [e8] at d8
                have HE6 : Hid _ := And.intro d6 (And.intro d7 d8)
                clear d6 d7 d8
                clear hdep
                refine wpOp_step rfl (fun K hK => ?_)
                go_simp
                exact hK _ _ ⟨.agg #[.int .i64 2, .string ⟨#[]⟩, .string (cycN m), .slice (some ⟨g61, 0, none⟩) 0 0, .slice (some ⟨g71, 0, none⟩) 0 0, .slice (some ⟨g81, 0, none⟩) 0 0], by simp [upd, d15, e6, e7, e8], (fun _ _ h => h), ⟨m, _, _, _, hm, rfl, HE6.out.1, HE6.out.2.1, HE6.out.2.2⟩, SqF.plain hj9 (Below.refl _ _) (by decide) (by decide) hL0⟩
              · have hj := (hj9.get (by decide) hL0).2.2
                have d10 : r 45 = .slice aV 1 cV := (hdep _ rfl ⟨10, .data⟩ (by simp) rfl).2.trans HVE.out
                clear hdep
                refine wpOp_step rfl (fun K hK => ?_)
                go_simp
                exact hK _ _ ⟨.int .i64 1, by simp [upd, d10], (fun _ _ h => h), rfl, SqF.plain hj9 (Below.refl _ _) (by decide) (by decide) hL0⟩
              · have hj := (hj9.get (by decide) hL0).2.2
                have HZ := SpJ.zs hj
                clear hdep
                refine wpOp_step rfl (fun K hK => ?_)
                go_simp
                exact hK _ _ ⟨.slice (some ⟨W.heap.size, 0, none⟩) 1 1, by simp [upd], (fun jz z h => SqPv.up (StB.alloc _ _ _) jz z h), ⟨_, rfl, HZ, heap_alloc_new _ _⟩, SqF.plain hj9 ((Below.refl _ _).alloc (Nat.le_refl _) _) (by decide) (by decide) hL0⟩
              · have hj := (hj9.get (by decide) hL0).2.2
                have d10 : r 45 = V := (hdep _ rfl ⟨10, .data⟩ (by simp) rfl).2
                have d21 : ZsB w8.heap.size (r 56) W := (hdep _ rfl ⟨21, .data⟩ (by simp) rfl).2
                have hall : ∀ ii, ii < 22 → D.getD ii false = true := fun ii h1 => by
                  have hc : ii = 0 ∨ ii = 1 ∨ ii = 2 ∨ ii = 3 ∨ ii = 4 ∨ ii = 5 ∨ ii = 6 ∨ ii = 7 ∨ ii = 8 ∨ ii = 9 ∨ ii = 10 ∨ ii = 11 ∨ ii = 12 ∨ ii = 13 ∨ ii = 14 ∨ ii = 15 ∨ ii = 16 ∨ ii = 17 ∨ ii = 18 ∨ ii = 19 ∨ ii = 20 ∨ ii = 21 := by omega
                  rcases hc with rfl | rfl | rfl | rfl | rfl | rfl | rfl | rfl | rfl | rfl | rfl | rfl | rfl | rfl | rfl | rfl | rfl | rfl | rfl | rfl | rfl | rfl
                  · exact (hdep _ rfl ⟨0, .phase⟩ (by simp) rfl).1
                  · exact (hdep _ rfl ⟨1, .phase⟩ (by simp) rfl).1
                  · exact (hdep _ rfl ⟨2, .phase⟩ (by simp) rfl).1
                  · exact (hdep _ rfl ⟨3, .phase⟩ (by simp) rfl).1
                  · exact (hdep _ rfl ⟨4, .phase⟩ (by simp) rfl).1
                  · exact (hdep _ rfl ⟨5, .phase⟩ (by simp) rfl).1
                  · exact (hdep _ rfl ⟨6, .phase⟩ (by simp) rfl).1
                  · exact (hdep _ rfl ⟨7, .phase⟩ (by simp) rfl).1
                  · exact (hdep _ rfl ⟨8, .phase⟩ (by simp) rfl).1
                  · exact (hdep _ rfl ⟨9, .phase⟩ (by simp) rfl).1
                  · exact (hdep _ rfl ⟨10, .phase⟩ (by simp) rfl).1
                  · exact (hdep _ rfl ⟨11, .phase⟩ (by simp) rfl).1
                  · exact (hdep _ rfl ⟨12, .phase⟩ (by simp) rfl).1
                  · exact (hdep _ rfl ⟨13, .phase⟩ (by simp) rfl).1
                  · exact (hdep _ rfl ⟨14, .phase⟩ (by simp) rfl).1
                  · exact (hdep _ rfl ⟨15, .phase⟩ (by simp) rfl).1
                  · exact (hdep _ rfl ⟨16, .phase⟩ (by simp) rfl).1
                  · exact (hdep _ rfl ⟨17, .phase⟩ (by simp) rfl).1
                  · exact (hdep _ rfl ⟨18, .phase⟩ (by simp) rfl).1
                  · exact (hdep _ rfl ⟨19, .phase⟩ (by simp) rfl).1
                  · exact (hdep _ rfl ⟨20, .phase⟩ (by simp) rfl).1
                  · exact (hdep _ rfl ⟨21, .phase⟩ (by simp) rfl).1
                have hj1 := hj
                rw [hall 13 (by decide)] at hj1
                obtain ⟨g9, c9, W8, hrun, q1, q2⟩ := app_zero R8.out hj1 hL7 (by have := hz8.out; omega) (by omega) d21
                have HQ2 : Hid _ := q2
                have HJ8 : Hid _ := SqF.mid (v := .slice (some ⟨g9, 0, none⟩) 2 c9) hj9 (by omega) hL0 hall q1
                clear hdep q1 q2 hall
                refine wpOp_step rfl (fun K hK => ?_)
                refine wp_append_runC (.tmp 45) (.tmp 56) _ rfl _ _ _ _ d10 rfl hrun ?_
                exact hK _ _ ⟨_, rfl, fun jz z h => SqPv.up (StB.grown HQ2.out (fun g hg => hVl.out g hg)) jz z h, trivial, HJ8.out⟩
              · have d1 : r 36 = (.slice (some ⟨g8, 0, none⟩) (j + 1) c8) := (hdep _ rfl ⟨1, .data⟩ (by simp) rfl).2
                have d3 : r 38 = .int .i64 (j : Int) := (hdep _ rfl ⟨3, .data⟩ (by simp) rfl).2
                have q22 := (hdep _ rfl ⟨22, .phase⟩ (by simp) rfl).1
                clear hdep
                refine wpOp_step rfl (fun K hK => ?_)
                go_simp
                exact hK _ _ ⟨.pointer (some ⟨g8, j * 4, none⟩), by simp [upd, d1, d3], (fun _ _ h => h), rfl, SqF.keep hj9 q22 (.inl rfl) (by omega) hL0 (fun e => absurd e (by decide)) (by decide)⟩
              · have d23 : r 58 = .pointer (some ⟨g8, j * 4, none⟩) := (hdep _ rfl ⟨23, .data⟩ (by simp) rfl).2
                have q22 := (hdep _ rfl ⟨22, .phase⟩ (by simp) rfl).1
                have q23 := (hdep _ rfl ⟨23, .data⟩ (by simp) rfl).1
                clear hdep
                refine wpOp_step rfl (fun K hK => ?_)
                go_simp
                exact hK _ _ ⟨.pointer (some ⟨g8, j * 4 + 3, none⟩), by simp [upd, d23], (fun _ _ h => h), rfl, SqF.keep hj9 q22 (.inr rfl) (by omega) hL0 (fun _ => q23) (by decide)⟩
              · have d24 : r 59 = .pointer (some ⟨g8, j * 4 + 3, none⟩) := (hdep _ rfl ⟨24, .data⟩ (by simp) rfl).2
                have q22 := (hdep _ rfl ⟨22, .data⟩ (by simp) rfl).1
                have q24 := (hdep _ rfl ⟨24, .data⟩ (by simp) rfl).1
                have hM := (hj9.2.1 q22).2.1 hL0
                obtain ⟨g9, c9, d22, -, -⟩ := id hM.r
                have xQ := HVK.out W hM.el
                have fQ := HFR.out W hM.el
                have HJ8 : Hid _ := SqF.store (s := 100) (v := undef) (W' := W.setCell ⟨g8, j * 4 + 3, none⟩ (.slice (some ⟨g9, 0, none⟩) 2 c9)) hj9 q22 q24 (by omega) (by decide) ⟨W, hM, by rw [d22]⟩
                clear hdep hM
                refine wpOp_step rfl (fun K hK => ?_)
                go_simp
                exact hK _ _ ⟨undef, by simp [upd, d22, d24], fun jz z h => SqPv.up (StB.set HG88.out.2) jz z h, trivial, HJ8.out⟩
            case last =>
              intro D r W hLs hD hj9 hp
              obtain ⟨W1, M, hW⟩ := ((hj9.2.1 (hD 22 (by omega))).2.2 (hD 25 (by omega))).2.2
              obtain ⟨m, va, vd, vss, hm, d19, e1, e2, e3⟩ : ∃ (m : Nat) (va vd vss : Value), m < 3 ∧ r 54 = .agg #[.int .i64 2, .string ⟨#[]⟩, .string (cycN m), va, vd, vss] ∧ EmB w8.heap.size 81 va W ∧ EmB w8.heap.size 86 vd W ∧ EmB w8.heap.size 63 vss W := hp 19 (by omega)
              have d20 : r 55 = .int .i64 1 := hp 20 (by omega)
              obtain ⟨g9, c9, d22, o9, hat9⟩ := M.r
              have HM : Hid _ := M
              have HEE : Hid _ := And.intro e1 (And.intro e2 e3)
              have HW : Hid _ := hW
              have HO9 : Hid _ := And.intro o9 hat9
              clear hp hj9 hD hLs hij hwj hjlt M e1 e2 e3 hW o9 hat9
              have hb8 : w.heap.size + 1 ≤ w8.heap.size := hz8.out
              have hbk8 : g8 ∉ bk := fun hq => HND.out.1 g8 (by simp) g8 (List.mem_append_right _ (List.mem_append_right _ hq)) rfl
              obtain ⟨oW, hws, hn98, hb9, hat9, HRW, hq9⟩ := sq_row (m := m) R8.out HM.out d22 HW.out (by omega) hb8 HG88.out.2 HNE8.out HEE.out.1 HEE.out.2.1 HEE.out.2.2 HG88.out.1 hbk8
              have HR9 : Hid _ := HRW
              have HQ9 : Hid _ := hq9
              have HAT : Hid _ := hat9
              clear HRW hq9 hat9 hbk8 HO9
              obtain ⟨⟨g61, e61, -, -⟩, ⟨g71, e71, -, -⟩, ⟨g81, e81, -, -⟩⟩ := id HEE.out
              subst e61 e71 e81
              have hl12 : (ws ++ zeS).length = 12 := by rw [List.length_append, hws]; rfl
              have p6 := own_at (o := 6) oW (by omega)
              have o7 := own_setAt (i := 6) oW (.int .i64 2)
              have p7 := own_at (o := 7) o7 (by simp only [List.length_set]; omega)
              have o8 := own_setAt (i := 7) o7 (.string ⟨#[]⟩)
              have p8 := own_at (o := 8) o8 (by simp only [List.length_set]; omega)
              have o9 := own_setAt (i := 8) o8 (.string (cycN m))
              have p9 := own_at (o := 9) o9 (by simp only [List.length_set]; omega)
              have o10 := own_setAt (i := 9) o9 (.slice (some ⟨g61, 0, none⟩) 0 0)
              have p10 := own_at (o := 10) o10 (by simp only [List.length_set]; omega)
              have o11 := own_setAt (i := 10) o10 (.slice (some ⟨g71, 0, none⟩) 0 0)
              have p11 := own_at (o := 11) o11 (by simp only [List.length_set]; omega)
              obtain ⟨⟨x6, c6⟩, f6⟩ := p6
              obtain ⟨⟨x7, c7⟩, f7⟩ := p7
              obtain ⟨⟨x8, c8'⟩, f8⟩ := p8
              obtain ⟨⟨x9, c9'⟩, f9⟩ := p9
              obtain ⟨⟨x10, c10⟩, f10⟩ := p10
              obtain ⟨⟨x11, c11⟩, f11⟩ := p11
              have HHH : Hid (ws.length = 6 ∧ g9 ≠ g8 ∧ w.heap.size + 1 ≤ g9) := ⟨hws, hn98, hb9⟩
              have HOW : Hid _ := oW
              clear oW o7 o8 o9 o10 o11 hl12 hws hn98 hb9
              have HDM : Hid _ := d22
              obtain ⟨Z, hZ⟩ : ∃ Z, Z = set6 W g9 [.int .i64 2, .string ⟨#[]⟩, .string (cycN m), .slice (some ⟨g61, 0, none⟩) 0 0, .slice (some ⟨g71, 0, none⟩) 0 0, .slice (some ⟨g81, 0, none⟩) 0 0] := ⟨_, rfl⟩
              have HFIN : Hid (CycFin w L n (k + 1400 + 2 * i + 1 + 1) N3 NB g8 c8 a l Z) := by
                have hsb := sb_spr hm
                have hll : ∀ z : De, (l ++ [z]).length = j + 1 := fun z => by simp [HLJ.out]
                have hN38 : N3 ≠ g8 := fun e => (NV6.out g8 (List.mem_append_left _ (mem_blk rfl))).1 e.symm
                have hNB8 : NB ≠ g8 := fun e => (NV6.out g8 (List.mem_append_left _ (mem_blk rfl))).2 e.symm
                have hnew : ∀ p, (V.ownBlock = some p ∨ w8.heap.size ≤ p) → p ≠ N3 ∧ p ≠ NB := fun p hp => by
                  rcases hp with hp | hp
                  · exact NV6.out p (List.mem_append_right _ (List.mem_append_right _ (List.mem_append_left _ (mem_blk hp))))
                  · have := HNL.out; omega
                have h9n := hnew g9 HAT.out
                have zo : ∀ p, p ≠ g8 → p ≠ g9 → Z.heap[p]? = W1.heap[p]? := fun p h1 h2 => by
                  rw [hZ, set6_other h2, HW.out]; exact heap_setCell_other _ _ _ _ (by show p ≠ g8; exact h1)
                have zs : Z.heap.size = W1.heap.size := by rw [hZ, set6_size, HW.out]; simp [World.setCell]
                have zel : ∀ p, p < w8.heap.size → p ≠ L → V.ownBlock ≠ some p → p ≠ g8 → Z.heap[p]? = w8.heap[p]? := fun p h1 h2 h3 h4 => (zo p h4 (fun e => by
                  subst e
                  rcases HAT.out with h | h
                  · exact h3 h
                  · omega)).trans (HM.out.el p h1 h2 h3)
                have hg88 := HG88.out
                have hown8 : Z.ownsRow (w.heap.size + 1) 30 4 (.slice (some ⟨g8, 0, none⟩) (l ++ [x]).length c8) (l ++ [x]).length (vs1 ++ [.int .i64 x.k, .string x.nm, .string x.on, .slice (some ⟨g9, 0, none⟩) 2 c9]) := by
                  have o1 := owns_same (w' := W1) D8.out.own (fun p hp => HM.out.el p (by
                    have : g8 = p := by simpa [Value.ownBlock] using hp
                    omega) (by
                    have : g8 = p := by simpa [Value.ownBlock] using hp
                    omega) (by
                    have : g8 = p := by simpa [Value.ownBlock] using hp
                    exact this ▸ HNE8.out))
                  have o2 := own_setAt (i := j * 4 + 3) o1 (.slice (some ⟨g9, 0, none⟩) 2 c9)
                  have e : (vs1 ++ [.int .i64 x.k, .string x.nm, .string x.on, V]).set (j * 4 + 3) (.slice (some ⟨g9, 0, none⟩) 2 c9) = vs1 ++ [.int .i64 x.k, .string x.nm, .string x.on, .slice (some ⟨g9, 0, none⟩) 2 c9] := by
                    have hvl := HSV.out.2
                    have hlj' := HLJ.out
                    rw [List.set_append_right _ _ (by omega), show j * 4 + 3 - vs1.length = 3 by omega]
                    rfl
                  rw [e] at o2
                  refine owns_same o2 fun p hp => ?_
                  have hp8 : p = g8 := by
                    have : g8 = p := by simpa [Value.ownBlock] using hp
                    omega
                  subst hp8
                  rw [hZ, set6_other (fun e => HHH.out.2.1 e.symm), HW.out, HDM.out]
                have hdk := DocK.swapAt (s' := sprS m) D8.out HSV.out.1 (by rw [zs]; exact HM.out.zs) (fun p hp => by
                  have hb := D8.out.inn p (List.mem_append_left _ hp)
                  exact zel p hb.2 (by omega) (fun e => HND.out.2.2.2 p hp p (List.mem_append_left _ (mem_blk e)) rfl) (fun e => HND.out.1 g8 (by simp) p (List.mem_append_left _ hp) e.symm)) hown8 (by rw [hZ]; exact HR9.out) HQ9.out
                refine ⟨_, _, _, ?_, by rw [hll]; rw [hll] at hdk; exact hdk, ?_, ?_, ?_, ?_, ?_, ?_⟩
                · exact HCB.out.snoc (by have := HLJ.out; have := HJ0.out; omega) HXX.out.1 (by rw [HNX.out, HLJ.out, HJ0.out]; rfl) HXX.out.2.1 hsb.1 hsb.2.1 hsb.2.2
                · rw [hll, zo N3 hN38 (fun e => h9n.1 e.symm)]; exact HEK.out W1 HM.out.el
                · rw [zo NB hNB8 (fun e => h9n.2 e.symm)]; exact HFK.out W1 HM.out.el
                · exact HM.out.s.move (zo L (by omega) (by have := HHH.out.2.2; omega))
                · have g1 : w.grownBy W (some L) := by rw [HW.out]; exact grown_new HM.out.g (by omega) _
                  have h9 : w.heap.size ≤ g9 := by have := HHH.out.2.2; omega
                  rw [hZ]
                  exact grown_new (grown_new (grown_new (grown_new (grown_new (grown_new g1 h9 _) h9 _) h9 _) h9 _) h9 _) h9 _
                · rw [zo _ (by omega) (by have := HHH.out.2.2; omega), HM.out.el _ (by omega) (by omega) (fun e => by have := hVb.out _ e; omega)]; exact U8.out
                · intro p hp
                  rcases List.mem_append.1 hp with hp | hp
                  · exact NV6.out p (List.mem_append_left _ hp)
                  · rcases List.mem_append.1 hp with hp | hp
                    · exact NV6.out p (List.mem_append_right _ (List.mem_append_left _ hp))
                    · rcases HQ9.out p hp with h | h
                      · exact NV6.out p (List.mem_append_right _ (List.mem_append_right _ h))
                      · have := HNL.out; omega
              have hZ1 : Z = (((((W.setCell ⟨g9, 6, none⟩ (.int .i64 2)).setCell ⟨g9, 7, none⟩ (.string ⟨#[]⟩)).setCell ⟨g9, 8, none⟩ (.string (cycN m))).setCell ⟨g9, 9, none⟩ (.slice (some ⟨g61, 0, none⟩) 0 0)).setCell ⟨g9, 10, none⟩ (.slice (some ⟨g71, 0, none⟩) 0 0)).setCell ⟨g9, 11, none⟩ (.slice (some ⟨g81, 0, none⟩) 0 0) := hZ
              clear hZ HR9 HQ9 HAT HOW HHH HEE HEK HFK HVK HFR
              go_wp2_with fail
              rw [← hZ1]
              obtain ⟨x', vs', bs', k1, k2, k3, k4, k5, k6, k7, k8⟩ := HFIN.out
              have FL : Hid ((l ++ [x']).length = i + 1 + 1) := by have := HLJ.out; have := HJ0.out; rw [Hid]; simp; omega
              exact ⟨⟨i + 1, l ++ [x'], g8, c8, vs', bs', by go_num, by omega, FL, k1, k2, k3, k4, k5.more (by omega), k6, k7, k8⟩, by simp [intOf]; omega⟩
    · obtain rfl : i = 3 := by omega
      have xB := row_cell HE.out 0
      have fU := row_frozen HU.out 0
      have xU := row_cell HU.out 0
      go_wp2_with fail
      have PG : w.grownBy (wo.setCell ⟨w.heap.size, 0, none⟩ (.slice (some ⟨gd, 0, none⟩) l.length c')) (some L) := grown_new HG.out (Nat.le_refl _) _
      have PU : (wo.setCell ⟨w.heap.size, 0, none⟩ (.slice (some ⟨gd, 0, none⟩) l.length c')).heap[w.heap.size]? = some (.cells #[.slice (some ⟨gd, 0, none⟩) l.length c'] 25 (0, 0)) := by
        have := row_set HU.out 0 (.slice (some ⟨gd, 0, none⟩) l.length c'); simpa using this
      refine bodyPost_ret (v := .agg #[.slice (some ⟨gd, 0, none⟩) l.length c']) (results_cyc _ _ w.heap.size _ rfl PU rfl) rfl ⟨⟨l, _, c', vs, bs, ⟨HC.out, HL.out, ?_⟩, rfl⟩, ?_, PG⟩
      · have d := HD.out.set (.slice (some ⟨gd, 0, none⟩) l.length c') (N := w.heap.size) (k := 0) (fun g hg => by have := (HD.out.all g hg).1; omega)
        exact ⟨owns_base d.own (fun g hg => by have := (d.all g (List.mem_append_left _ (mem_blk hg))).1; omega), d.k, d.nd, fun g hg => by have := d.inn g hg; omega⟩
      · exact (HS.out.set (by omega)).more (by omega)
end Go.Proofs.Ytajjaddlalbnmaa
