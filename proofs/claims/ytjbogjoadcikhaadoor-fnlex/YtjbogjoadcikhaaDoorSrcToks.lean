/- The law's draws: a list of tokens. -/
import Derived.Test.YtjbogjoadcikhaaDoorSrcTok
import Derived.Test.YtjbogjoadcikhaaDoorImplI
namespace Go.Proofs.YtjbogjoadcikhaaDoor.L
open Go.ChangeShapes Go.WideShapes Go.ChangeAt Go.RowKit
set_option linter.unusedVariables false

theorem own_base' {w : World} {b b' : Nat} {e : TypeId} {size n : Nat} {v : Value} {xs : List Value} (h : w.ownsRow b e size v n xs) (hb : b' ≤ b) : w.ownsRow b' e size v n xs := by
  refine ⟨h.1, ?_⟩
  rcases h.2 with h | ⟨g, cap, cur, h1, h2, h3⟩
  · exact .inl h
  · exact .inr ⟨g, cap, cur, h1, Nat.le_trans hb h2, h3⟩
/-- What is drawn: few tokens, each right and short, in a row of its own. -/
def Drawn (l : List Tk) : Prop := l.length ≤ 11 ∧ ∀ x ∈ l, isTok x ∧ x.t.size ≤ 5

set_option maxHeartbeats 2000000 in
theorem tokens_any (L n : Nat) (A : Option Addr) (w : World) (h : SrcSt w L A n 0) (hr : ByteRow L w A n) (hn : n ≤ 1048576) :
    Calls Tryd.prog 13 #[.pointer (some ⟨L, 0, none⟩)] w fun e w' => ∃ (l : List Tk) (a : Option Addr) (c : Nat), Drawn l ∧ e = .returned (.slice a l.length c) ∧ w'.ownsRow w.heap.size 29 3 (.slice a l.length c) l.length (tvs l) ∧ w.grownBy w' (some L) := by
  have hL := h.lt
  have HS : Hid (SrcSt (w.alloc (.cells #[] 29)) L A n 0) := h.alloc _
  have HR : Hid (ByteRow L (w.alloc (.cells #[] 29)) A n) := row_alloc hr (by omega) _
  have HG : Hid (w.grownBy (w.alloc (.cells #[] 29)) (some L)) := grown_alloc (grown_refl _ _) _
  have HO : Hid ((w.alloc (.cells #[] 29)).ownsRow w.heap.size 29 3 (.slice (some ⟨w.heap.size, 0, none⟩) 0 0) 0 []) := own_empty w _ (Nat.le_refl _)
  clear h hr
  go_enter Tryd.func13, Tryd.ntmps13
  go_wp2_with fail
  refine (next_any 12 L n 0 A _ HS.out HR.out (by omega) hn (by omega) (by omega)).mono ?_
  rintro e w1 ⟨⟨v, hv, rfl⟩, st1, hg1⟩
  have HS1 : Hid (SrcSt w1 L A n 1) := st1
  have HR1 : Hid (ByteRow L w1 A n) := row_keep HR.out hg1
  have HG1 : Hid (w.grownBy w1 (some L)) := grown_trans HG.out hg1
  have HO1 : Hid (w1.ownsRow w.heap.size 29 3 (.slice (some ⟨w.heap.size, 0, none⟩) 0 0) 0 []) := own_grown HO.out hg1 hL
  clear st1 hg1 HS HR HG HO
  go_wp2_with fail
  go_loopw [3, 4] (fun v i wr => ∃ (j : Nat) (acc : List Tk) (a : Option Addr) (c : Nat), j + acc.length ≤ 11 ∧ i = .int .i64 j ∧ v = .slice a acc.length c ∧ Hid (SrcSt wr L A n (1 + 3 * acc.length)) ∧ Hid (ByteRow L wr A n) ∧ w.grownBy wr (some L) ∧ Hid (wr.ownsRow w.heap.size 29 3 (.slice a acc.length c) acc.length (tvs acc)) ∧ Hid (∀ x ∈ acc, isTok x ∧ x.t.size ≤ 5)) (fun _ i _ => (intOf i).toNat)
  case atStart => exact ⟨v, [], _, _, by simp; omega, rfl, rfl, HS1, HR1, HG1.out, HO1, (fun x hx => by cases hx)⟩
  case round =>
    rename_i wr
    obtain ⟨j, acc, a, c, hj, rfl, rfl, HSr, HRr, hgr, HOr, HD⟩ := hrel
    clear HS1 HR1 HG1 HO1
    by_cases hp : 0 < j
    · go_wp2_with fail
      refine (token_any L n (1 + 3 * acc.length) A _ HSr.out HRr.out (by omega) hn).mono ?_
      rintro e w2 ⟨⟨x, hx, hxs, rfl⟩, st2, hg2⟩
      have HS2 : Hid (SrcSt w2 L A n (1 + 3 * (acc ++ [x]).length)) := st2.more (by rw [List.length_append]; simp; omega)
      have HR2 : Hid (ByteRow L w2 A n) := row_keep HRr.out hg2
      have hgw := grown_trans hgr hg2
      have HD2 : Hid (∀ y ∈ acc ++ [x], isTok y ∧ y.t.size ≤ 5) := by
        intro y hy
        rcases List.mem_append.1 hy with hy | hy
        · exact HD.out y hy
        · simp only [List.mem_singleton] at hy; subst hy; exact ⟨hx, hxs⟩
      have HO2 := own_grown HOr.out hg2 hL
      obtain ⟨i39, hi39, hz39, hs39, hy39⟩ := info_parts info39
      have HO4 : Hid ((w2.alloc (.cells #[.int .i64 x.k, .int .i64 x.n, .string x.t] 29)).ownsRow w.heap.size 29 3 (.slice a acc.length c) acc.length (tvs acc)) := World.ownsRow.alloc HO2 _
      have HX : Hid _ := tvs_snoc acc x
      have hz2 := hgw.size
      clear HO2 st2 hg2 hx HD
      go_wp2_with (at_builtin; refine wpList_append_own _ rfl _ _ 23 rfl w.heap.size 29 i39 _ 3 32 Tryd.underlying23 hi39 hz39 hs39 hy39 rfl (by decide) _ acc.length _ rfl HO4.out ⟨w2.heap.size, 0, none⟩ 1 1 [.int .i64 x.k, .int .i64 x.n, .string x.t] rfl rfl ?c1 ?c2 ?c3 ?c4 ?c5 ?_)
      case c1 =>
        intro j u hu
        match j, hu with
        | 0, hu => simp at hu; subst hu; simp [Addr.add]
        | 1, hu => simp at hu; subst hu; simp [Addr.add]
        | 2, hu => simp at hu; subst hu; simp [Addr.add]
        | j + 3, hu => simp at hu
      case c2 => intro u hu; simp at hu; rcases hu with rfl | rfl | rfl <;> rfl
      case c3 => unfold maxLen; omega
      case c4 => omega
      case c5 => simp; omega
      intro v' w3 hown hgrow _
      have hbase : ∀ g, (Value.slice a acc.length c).ownBlock = some g → w.heap.size ≤ g := fun g hg => (World.ownsRow.lt HO4.out g hg).1
      have q3 : w.grownBy w3 (some L) := grown_append (grown_alloc hgw _) hgrow hbase
      have hLz : w3.heap[L]? = w2.heap[L]? := (hgrow.block L (by simp; omega) (fun e => by have := hbase L e.symm; omega)).trans (Below.heap_alloc w2 _ L (by omega))
      have HS3 : Hid (SrcSt w3 L A n (1 + 3 * (acc ++ [x]).length)) := HS2.out.grown hLz
      have HR3 : Hid (ByteRow L w3 A n) := HR2.out.keep (by have := hgrow.size; simp at this; omega) (fun k hk => (hgrow.block k (by simp; omega) (fun e => by have := hbase k e.symm; omega)).trans (Below.heap_alloc w2 _ k (by omega)))
      rw [HX.out] at hown
      obtain ⟨a', c', rfl⟩ := own_shape hown
      have HW : Hid (w3.ownsRow w.heap.size 29 3 (.slice a' (acc ++ [x]).length c') (acc ++ [x]).length (tvs (acc ++ [x]))) := by
        rw [show (acc ++ [x]).length = acc.length + 1 by simp]; exact hown
      clear hown HO4 HOr HS2 HR2
      go_wp2_with fail
      exact ⟨⟨j - 1, acc ++ [x], a', c', by rw [List.length_append]; simp; omega, by rw [show ((j - 1 : Nat) : Int) = (j : Int) - 1 by omega], by simp, HS3, HR3, q3, HW, HD2⟩, by simp [intOf]; omega⟩
    · go_wp2_with fail
      go_ret
      exact ⟨acc, a, c, ⟨by omega, HD.out⟩, rfl, HOr.out, hgr⟩

theorem source_any (A : Option Addr) (n c : Nat) (w : World) (hn : n ≤ 1048576) :
    Calls Tryd.prog 12 #[.slice A n c] w fun e w' => e = .returned (.pointer (some ⟨w.heap.size, 0, none⟩)) ∧ SrcSt w' w.heap.size A n 0 ∧ ∃ o, w' = w.alloc o := by
  obtain ⟨r, q, br⟩ := tmod_nat n 1000 (by omega)
  have q' : (n : Int).tmod 1000 = r := q
  go_enter Tryd.func12, Tryd.ntmps12
  go_wp2_with fail
  go_ret
  exact ⟨rfl, ⟨c, 0, _, heap_alloc_new _ _, Nat.le_refl _, by omega, by omega⟩, _, rfl⟩

theorem tokensOf_any (A : Option Addr) (n c0 : Nat) (w : World) (hr : ByteRow w.heap.size w A n) (hn : n ≤ 1048576) :
    Calls Tryd.prog 4 #[.slice A n c0] w fun e w' => ∃ (l : List Tk) (a : Option Addr) (c : Nat), Drawn l ∧ e = .returned (.slice a l.length c) ∧ w'.ownsRow w.heap.size 29 3 (.slice a l.length c) l.length (tvs l) ∧ Below w.heap.size w w' := by
  have HR : Hid (ByteRow w.heap.size w A n) := hr
  clear hr
  go_enter Tryd.func4, Tryd.ntmps4
  go_wp2_with fail
  refine (source_any A n c0 _ hn).mono ?_
  rintro e w1 ⟨rfl, st, o, rfl⟩
  have HS : Hid (SrcSt (w.alloc o) w.heap.size A n 0) := st
  have HR1 : Hid (ByteRow w.heap.size (w.alloc o) A n) := row_alloc HR.out (Nat.le_refl _) _
  clear st
  go_wp2_with fail
  refine (tokens_any w.heap.size n A _ HS.out HR1.out hn).mono ?_
  rintro e w2 ⟨l, a, c, hd, rfl, ho, hg⟩
  have HD : Hid (Drawn l) := hd
  have HO : Hid _ := ho
  have HG : Hid _ := hg
  clear hd ho hg
  go_wp2_with fail
  go_ret
  exact ⟨l, a, c, HD.out, rfl, own_base' HO.out (by simp), ((Below.refl _ _).alloc (Nat.le_refl _) _).grown HG.out (by simp) (fun k e => by simp only [Option.some.injEq] at e; omega)⟩
end Go.Proofs.YtjbogjoadcikhaaDoor.L
