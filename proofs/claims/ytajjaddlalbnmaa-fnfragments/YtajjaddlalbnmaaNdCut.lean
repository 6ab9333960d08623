/- A drawn selection whose own list is cut to its first. -/
import Derived.Test.YtajjaddlalbnmaaNdNode
namespace Go.Proofs.Ytajjaddlalbnmaa
open Go.ChangeShapes Go.WideShapes Go.ChangeAt Go.RowKit
open Go.Proofs.Ytajjaddlalbnmaa.G (row_cell row_frozen row_set)
set_option linter.unusedVariables false

theorem own_some {w : World} {base n c z : Nat} {e : TypeId} {a : Option Addr} {xs : List Value} (h : w.ownsRow base e z (.slice a n c) n xs) (hn : 1 ≤ n) : ∃ g, a = some ⟨g, 0, none⟩ ∧ n ≤ c := by
  rcases h.2 with ⟨_, h0⟩ | ⟨g, cap, cur, hv, _, _, h1, _⟩
  · omega
  · simp only [Value.slice.injEq] at hv
    obtain ⟨rfl, _, rfl⟩ := hv
    exact ⟨g, rfl, h1⟩
theorem own_first {w : World} {base n c z g : Nat} {e : TypeId} {xs : List Value} (h : w.ownsRow base e z (.slice (some ⟨g, 0, none⟩) n c) n xs) (hn : 1 ≤ n) : w.ownsRow base e z (.slice (some ⟨g, 0, none⟩) 1 c) 1 (xs.take z) := by
  have hz : z ≤ n * z := Nat.le_mul_of_pos_left z hn
  rcases h.2 with ⟨h0, _⟩ | ⟨g', cap, cur, hv, h1, h2, h3, h4, h5, h6⟩
  · cases h0
  · simp only [Value.slice.injEq, Option.some.injEq, Addr.mk.injEq] at hv
    obtain ⟨⟨rfl, _⟩, _, rfl⟩ := hv
    refine ⟨by rw [List.length_take, h.1]; omega, .inr ⟨g, c, cur, rfl, h1, h2, by omega, h4, h5, ?_⟩⟩
    rw [← h6, List.take_take, Nat.one_mul, Nat.min_eq_left hz]
theorem XS.cutSub {b N n c g : Nat} {W : World} {kd : Int} {al nm : ByteArray} {us : List Ar} {ds : List Di} {h : Hd} {s r : Sels} {va vd : Value} (X : XS b N W kd al nm us ds (.cons h s r) va vd (.slice (some ⟨g, 0, none⟩) n c)) (hn : n = (Sels.cons h s r).len) :
    XS b N (W.setCell ⟨N, 5, none⟩ (.slice (some ⟨g, 0, none⟩) 1 c)) kd al nm us ds (.cons h s .nil) va vd (.slice (some ⟨g, 0, none⟩) 1 c) := by
  obtain ⟨ws, bk, O, hN⟩ := X.o
  obtain ⟨va', vd', vsub, vr, ws', bk', br, hv, hb, o1, o2, o3, k1, k2⟩ := O.k
  subst hb
  have hs : (blk va ++ (blk vd ++ (blk (.slice (some ⟨g, 0, none⟩) 1 c) ++ ((blk va' ++ (blk vd' ++ (blk vsub ++ bk'))) ++ [])))).Sublist (blk va ++ (blk vd ++ (blk (.slice (some ⟨g, 0, none⟩) n c) ++ ((blk va' ++ (blk vd' ++ (blk vsub ++ bk'))) ++ br)))) :=
    (List.Sublist.refl _).append ((List.Sublist.refl _).append ((List.Sublist.refl _).append ((List.Sublist.refl _).append (List.nil_sublist _))))
  have hN' := fun hm => hN (hs.subset hm)
  have s1 := O.s
  rw [← hn] at s1
  have s2 := own_first s1 (by rw [hn]; simp only [Sels.len]; omega)
  have hw : ws.take 6 = [.int .i64 h.k, .string h.al, .string h.nm, va', vd', vsub] ++ [] := by rw [hv]; rfl
  rw [hw] at s2
  have O2 : OneK b W ⟨kd, al, nm, us, ds⟩ (.cons h s .nil) va vd (.slice (some ⟨g, 0, none⟩) 1 c) ([.int .i64 h.k, .string h.al, .string h.nm, va', vd', vsub] ++ []) ((blk va' ++ (blk vd' ++ (blk vsub ++ bk'))) ++ []) :=
    ⟨O.a, O.d, s2, ⟨va', vd', vsub, [], ws', bk', [], rfl, rfl, o1, o2, o3, k1, rfl, rfl⟩, O.nd.sublist hs, fun q hq => O.inn q (hs.subset hq)⟩
  exact ⟨row_set X.x 5 _, ⟨_, _, onek_set O2 hN', hN'⟩, X.bN⟩
end Go.Proofs.Ytajjaddlalbnmaa
