/- What the law copies of a document is owned: each list in a block of its own. -/
import Derived.Test.YtajjaddlalbnmaaDocOwn
namespace Go.Proofs.Ytajjaddlalbnmaa
open Go.ChangeShapes Go.WideShapes Go.ChangeAt Go.RowKit
set_option linter.unusedVariables false

/-- A selection's lists, owned, one behind the other. -/
def Parts (lo hi : Nat) (w : World) (b1 b2 b3 : Option Addr) (h : Hd) (sub : Sels) : Prop := ∃ m1 m2, lo ≤ m1 ∧ m1 ≤ m2 ∧ m2 ≤ hi ∧ ArOwn lo m1 w b1 h.args ∧ DiOwn m1 m2 w b2 h.dirs ∧ SelOwn m2 hi w b3 sub
theorem Parts.keep {lo hi : Nat} {w w' : World} {b1 b2 b3 : Option Addr} {h : Hd} {sub : Sels} (H : Parts lo hi w b1 b2 b3 h sub) (hk : Agree lo hi w w') : Parts lo hi w' b1 b2 b3 h sub := by
  obtain ⟨m1, m2, e1, e2, e3, p1, p2, p3⟩ := H
  exact ⟨m1, m2, e1, e2, e3, p1.keep fun g h1 h2 => hk g (by omega) (by omega), p2.keep fun g h1 h2 => hk g (by omega) (by omega), p3.keep fun g h1 h2 => hk g (by omega) (by omega)⟩
theorem Parts.wide {lo hi lo' hi' : Nat} {w : World} {b1 b2 b3 : Option Addr} {h : Hd} {sub : Sels} (H : Parts lo hi w b1 b2 b3 h sub) (e1 : lo' ≤ lo) (e2 : hi ≤ hi') : Parts lo' hi' w b1 b2 b3 h sub := by
  obtain ⟨m1, m2, f1, f2, f3, p1, p2, p3⟩ := H
  exact ⟨m1, m2, by omega, f2, by omega, p1.wide e1 (Nat.le_refl _), p2, p3.wide (Nat.le_refl _) e2⟩
theorem SelSeq.lay {w0 W' : World} {k lo m hi : Nat} {cs : Array Value} {pre : List (Hd × Sels)} {h : Hd} {sub : Sels} {b1 b2 b3 : Option Addr} {f1 f2 f3 : Nat} (hlen : pre.length = k) (hcs : k * 6 + 6 ≤ cs.size) (HL : SelSeq w0 (app pre .nil) cs 0 lo m) (ha : Agree lo m w0 W') (HP : Parts m hi W' b1 b2 b3 h sub) :
    SelSeq W' (app (pre ++ [(h, sub)]) .nil) (put6 cs (k * 6) (.int .i64 h.k) (.string h.al) (.string h.nm) (.slice b1 h.args.length f1) (.slice b2 h.dirs.length f2) (.slice b3 sub.len f3)) 0 lo hi := by
  subst hlen
  obtain ⟨g0, g1, g2, g3, g4, g5⟩ := put6_at (cs := cs) (k := pre.length * 6) (v0 := .int .i64 h.k) (v1 := .string h.al) (v2 := .string h.nm) (v3 := .slice b1 h.args.length f1) (v4 := .slice b2 h.dirs.length f2) (v5 := .slice b3 sub.len f3) (by omega)
  obtain ⟨m1, m2, e1, e2, e3, p1, p2, p3⟩ := HP
  refine SelSeq.snoc pre (SelSeq.cells (cs := cs) (SelSeq.keep HL ha) fun j _ hj => put6_else ?_) ?_
  · rw [app_len] at hj
    simp only [Sels.len] at hj
    omega
  · rw [show 0 + 6 * pre.length = pre.length * 6 by omega]
    exact ⟨m1, m2, e1, e2, e3, g0, g1, g2, ⟨b1, f1, g3, p1⟩, ⟨b2, f2, g4, p2⟩, ⟨b3, f3, g5, p3⟩⟩

theorem DeSeq.lay {w0 W' : World} {k lo m hi : Nat} {cs : Array Value} {l : List De} {x : De} {b3 : Option Addr} {f3 : Nat} (hlen : l.length = k) (hcs : k * 4 + 4 ≤ cs.size) (HL : DeSeq w0 l cs 0 lo m) (ha : Agree lo m w0 W') (e : m ≤ hi) (HP : SelOwn m hi W' b3 x.sels) :
    DeSeq W' (l ++ [x]) (put4 cs (k * 4) (.int .i64 x.k) (.string x.nm) (.string x.on) (.slice b3 x.sels.len f3)) 0 lo hi := by
  subst hlen
  obtain ⟨g0, g1, g2, g3⟩ := put4_at (cs := cs) (k := l.length * 4) (v0 := .int .i64 x.k) (v1 := .string x.nm) (v2 := .string x.on) (v3 := .slice b3 x.sels.len f3) (by omega)
  refine DeSeq.snoc (DeSeq.cells (cs := cs) (DeSeq.keep HL ha) fun j _ hj => put4_else (by omega)) ?_
  rw [show 0 + 4 * l.length = l.length * 4 by omega]
  exact ⟨e, g0, g1, g2, b3, f3, g3, HP⟩

end Go.Proofs.Ytajjaddlalbnmaa
