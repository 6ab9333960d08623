/- Tokens put together to a text, and that the specification's text of it does it. -/
import Derived.Test.YtjbogjoadcikhaaDoorJoins
namespace Go.Proofs.YtjbogjoadcikhaaDoor
open Go.ChangeShapes Go.WideShapes Go.ChangeAt Go.RowKit
set_option linter.unusedVariables false

def okT (x : Tk) : Bool := tokB x.k x.n x.t
def textOf (x : Tk) : ByteArray := textS x.k x.n x.t
def allT (l : List Tk) : Bool := l.all okT
def joinB (l : List Tk) : ByteArray := if 4096 < l.length then ⟨#[]⟩ else if 4000 < l.length then ⟨#[]⟩ else if allT l = true then joinS (l.map textOf) else ⟨#[]⟩
def joinC (l : List Tk) : Int := if 4096 < l.length then 2 else if 4000 < l.length then 6 else if allT l = true then 0 else 1

theorem text_size (x : Tk) (h : x.t.size ≤ 1048576) (hk : okT x = true) : (textOf x).size ≤ 1048600 := by
  have hi := tok_int hk
  unfold textOf textS
  split
  · have := Lib.itoa_length_le x.n (by omega) (by omega)
    show (Lib.itoa x.n).length ≤ 1048600
    omega
  · split
    · rw [ByteArray.size_append]
      have : (⟨#[36]⟩ : ByteArray).size = 1 := rfl
      omega
    · omega
theorem allT_take {l : List Tk} {k : Nat} (hk : k < l.length) (h : allT (l.take k) = true) (h2 : okT l[k] = true) : allT (l.take (k + 1)) = true := by
  unfold allT at *
  rw [List.take_succ_eq_append_getElem hk, List.all_append, h]; simp [h2]
theorem allT_no {l : List Tk} {k : Nat} (hk : k < l.length) (h2 : okT l[k] = false) : allT l = false := by
  unfold allT
  rw [List.all_eq_false]
  exact ⟨l[k], List.getElem_mem hk, by simp [h2]⟩
def txs (l : List Tk) (k : Nat) : List Value := (l.take k).map fun x => Value.string (textOf x)
theorem txs_succ {l : List Tk} {k : Nat} (hk : k < l.length) : txs l k ++ [.string (textS l[k].k l[k].n l[k].t)] = txs l (k + 1) := by
  unfold txs
  rw [List.take_succ_eq_append_getElem hk, List.map_append]; rfl
theorem txs_all (l : List Tk) : txs l l.length = (l.map textOf).map Value.string := by
  unfold txs
  rw [List.take_length, List.map_map]; rfl

theorem own_below {w w' : World} {base : Nat} {e : TypeId} {size n : Nat} {v : Value} {xs : List Value} (h : w.ownsRow base e size v n xs) (hb : Below w.heap.size w w') : w'.ownsRow base e size v n xs := by
  refine ⟨h.1, ?_⟩
  rcases h.2 with h | ⟨g, cap, cur, h1, h2, h3, h4⟩
  · exact .inl h
  · exact .inr ⟨g, cap, cur, h1, h2, (hb.block g (Array.getElem?_eq_some_iff.1 h3).1).trans h3, h4⟩
theorem own_strs {w : World} {base n : Nat} {v : Value} {ss : List ByteArray} (h : w.ownsRow base 9 1 v n (ss.map Value.string)) : ∃ a c, v = .slice a ss.length c ∧ StrRow w a ss := by
  have hn : n = ss.length := by have := h.1; simp at this; omega
  subst hn
  rcases h.2 with ⟨rfl, h0⟩ | ⟨g, cap, cur, rfl, h2, h3, h4, h5, h6, h7⟩
  · exact ⟨none, 0, by rw [h0], .inl ⟨rfl, List.length_eq_zero_iff.1 h0⟩⟩
  · refine ⟨_, _, rfl, .inr ⟨g, 0, rfl, (Array.getElem?_eq_some_iff.1 h3).1, fun i x hx => ?_⟩⟩
    have hi : i < ss.length := (List.getElem?_eq_some_iff.1 hx).1
    rw [row_cell h3, Nat.zero_add]
    have e1 : (ss.map Value.string)[i]? = some (.string x) := by rw [List.getElem?_map, hx]; rfl
    rw [← h7, List.getElem?_take, if_pos (by omega)] at e1
    simpa using e1
theorem info9 : (Tryd.prog.info? 9).map (fun i => (i.zero, i.size, i.bytes)) = some (some (.string ⟨#[]⟩), 1, 16) := by kernel_rfl

set_option maxHeartbeats 2000000 in
theorem spec_joinToks (a : Option Addr) (c : Nat) (l : List Tk) (w : World) (hr : TokRow w.heap.size w a l) (hl : l.length ≤ 1048576) (ht : ∀ x ∈ l, x.t.size ≤ 1048576) :
    Calls Tryd.prog 6 #[.slice a l.length c] w fun e w' => e = .returned (.tuple #[.string (joinB l), .int .i64 (joinC l)]) ∧ Below w.heap.size w w' := by
  by_cases h1 : 4096 < l.length
  · have H1 : Hid (joinB l = ⟨#[]⟩) := by unfold Hid joinB; rw [if_pos h1]
    have H2 : Hid (joinC l = 2) := by unfold Hid joinC; rw [if_pos h1]
    go_enter Tryd.func6, Tryd.ntmps6
    go_wp2_with fail
    go_ret2
    exact ⟨by rw [H1.out, H2.out]; rfl, Below.refl _ _⟩
  by_cases h2 : 4000 < l.length
  · have H1 : Hid (joinB l = ⟨#[]⟩) := by unfold Hid joinB; rw [if_neg h1, if_pos h2]
    have H2 : Hid (joinC l = 6) := by unfold Hid joinC; rw [if_neg h1, if_pos h2]
    go_enter Tryd.func6, Tryd.ntmps6
    go_wp2_with fail
    go_ret2
    exact ⟨by rw [H1.out, H2.out]; rfl, Below.refl _ _⟩
  have HR : Hid (TokRow w.heap.size w a l) := hr
  have HT : Hid (∀ x ∈ l, x.t.size ≤ 1048576) := ht
  clear hr ht
  go_enter Tryd.func6, Tryd.ntmps6
  go_wp2_with fail
  go_loopw [4, 5] (fun v i wr => ∃ k : Nat, k ≤ l.length ∧ i = .int .i64 k ∧ Below w.heap.size w wr ∧ Hid (wr.ownsRow w.heap.size 9 1 v k (txs l k)) ∧ Hid (allT (l.take k) = true)) (fun _ i _ => l.length - (intOf i).toNat)
  case atStart =>
    refine ⟨0, by omega, rfl, (Below.refl _ _).alloc (Nat.le_refl _) _, ?_, rfl⟩
    exact World.ownsRow_made w #[] 0 (Nat.le_refl _) (Nat.zero_le _) rfl
  case round =>
    rename_i wr
    obtain ⟨k, hk, rfl, hb, HO, HA⟩ := hrel
    by_cases hlt : k < l.length
    · obtain ⟨b, o, ha, hbl, c0, c1, c2⟩ := (HR.out.below hb (Nat.le_refl _)).at_ k hlt
      subst ha
      have hsz := HT.out l[k] (List.getElem_mem hlt)
      cases hok : tokB l[k].k l[k].n l[k].t
      · have hno := allT_no hlt hok
        have H1 : Hid (joinB l = ⟨#[]⟩) := by unfold Hid joinB; rw [if_neg h1, if_neg h2, if_neg (by rw [hno]; decide)]
        have H2 : Hid (joinC l = 1) := by unfold Hid joinC; rw [if_neg h1, if_neg h2, if_neg (by rw [hno]; decide)]
        clear hno
        go_wp2_with fail
        refine (spec_tokOK _ _ _ _ (by unfold maxLen; omega)).mono ?_
        rintro e w1 ⟨rfl, hb1⟩
        go_wp2_with fail
        go_ret2
        exact ⟨by rw [H1.out, H2.out]; rfl, hb.trans (hb1.mono hb.size)⟩
      · have hi := tok_int hok
        go_wp2_with fail
        refine (spec_tokOK _ _ _ _ (by unfold maxLen; omega)).mono ?_
        rintro e w1 ⟨rfl, hb1⟩
        have q1 := hb.trans (hb1.mono hb.size)
        obtain ⟨b', o', ha', hbl', d0, d1, d2⟩ := (HR.out.below q1 (Nat.le_refl _)).at_ k hlt
        simp only [Option.some.injEq, Addr.mk.injEq, and_true] at ha'
        obtain ⟨rfl, rfl⟩ := ha'
        clear c0 c1 c2
        go_wp2_with fail
        refine (spec_text _ _ _ _ hsz (by omega) (by omega)).mono ?_
        rintro e w2 ⟨rfl, hb2⟩
        have q2 := q1.trans (hb2.mono q1.size)
        have HO2 := own_below (own_below HO.out hb1) hb2
        clear d0 d1 d2
        obtain ⟨i9, hi9, hz9, hs9, hy9⟩ := info_parts info9
        have HO3 : (w2.alloc (.cells #[.string (textS l[k].k l[k].n l[k].t)] 9)).ownsRow w.heap.size 9 1 _ k _ := HO2.alloc _
        have HX := txs_succ hlt
        have HF := allT_take hlt HA.out hok
        have HO4 : Hid _ := HO3
        have HX2 : Hid _ := HX
        clear HO2 HO3 HX
        go_wp2_with (at_builtin; refine wpList_append_own _ rfl _ _ 31 rfl w.heap.size 9 i9 _ 1 16 Tryd.underlying31 hi9 hz9 hs9 hy9 rfl (by decide) _ k _ rfl HO4.out ⟨w2.heap.size, 0, none⟩ 1 1 [.string (textS l[k].k l[k].n l[k].t)] rfl rfl ?c1 ?c2 ?c3 ?c4 ?c5 ?_)
        case c1 =>
          intro j u hu
          cases j with
          | zero => simp at hu; subst hu; simp [Addr.add]
          | succ j => simp at hu
        case c2 => intro u hu; simp at hu; subst hu; rfl
        case c3 => unfold maxLen; omega
        case c4 => omega
        case c5 => have := q2.size; simp; omega
        intro v' w3 hown hgrow _
        have q3 : Below w.heap.size w w3 := (q2.alloc q2.size _).grown hgrow (by have := q2.size; simp; omega) (fun g hg => (World.ownsRow.lt HO4.out g hg).1)
        rw [HX2.out] at hown
        go_wp2_with fail
        exact ⟨⟨k + 1, by omega, by go_num, q3, hown, HF⟩, by simp [intOf]; omega⟩
    · obtain rfl : k = l.length := by omega
      rw [List.take_length] at HA
      have H1 : Hid (joinB l = joinS (l.map textOf)) := by unfold Hid joinB; rw [if_neg h1, if_neg h2, if_pos HA.out]
      have H2 : Hid (joinC l = 0) := by unfold Hid joinC; rw [if_neg h1, if_neg h2, if_pos HA.out]
      have HO1 := HO.out
      rw [txs_all] at HO1
      have HL : Hid ((l.map textOf).length ≤ 4000) := by rw [Hid, List.length_map]; omega
      have HZ : Hid (∀ s ∈ l.map textOf, s.size ≤ 1048600) := by
        intro s hs
        obtain ⟨x, hx, rfl⟩ := List.mem_map.1 hs
        exact text_size x (HT.out x hx) (List.all_eq_true.1 HA.out x hx)
      generalize l.map textOf = ss at *
      obtain ⟨a', c', hv, hrow⟩ := own_strs HO1
      subst hv
      have HW : Hid (StrRow wr a' ss) := hrow
      clear HO1 hrow HO
      go_wp2_with fail
      refine (spec_join a' c' ss _ HW.out HL.out HZ.out).mono ?_
      rintro e w2 ⟨rfl, rfl⟩
      go_wp2_with fail
      go_ret2
      exact ⟨by rw [H1.out, H2.out]; rfl, hb⟩
end Go.Proofs.YtjbogjoadcikhaaDoor
