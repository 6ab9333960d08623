/- A set in memory from its k-th selection on. -/
import Derived.Test.YtajjaddlalbnmaaDocVal
namespace Go.Proofs.Ytajjaddlalbnmaa
open Go.ChangeShapes Go.WideShapes Go.ChangeAt Go.RowKit
set_option linter.unusedVariables false

def SelFrom (lo hi : Nat) (w : World) (a : Option Addr) (k : Nat) (l : Sels) : Prop :=
  l = .nil ∨ ∃ b o, a = some ⟨b, o, none⟩ ∧ lo ≤ b ∧ b < hi ∧ SelPre lo hi w l (rdOf w b) (o + k * 6) l.len
theorem SelRow.from_ {lo hi : Nat} {w : World} {a : Option Addr} {l : Sels} (h : SelRow lo hi w a l) : SelFrom lo hi w a 0 l := by
  rcases h with h | ⟨b, o, rfl, h1, h2, h3⟩
  · exact .inl h
  · exact .inr ⟨b, o, rfl, h1, h2, by simpa using h3⟩
theorem SelFrom.keep {lo hi : Nat} {w w' : World} {a : Option Addr} {k : Nat} {l : Sels} (h : SelFrom lo hi w a k l) (hk : Agree lo hi w w') : SelFrom lo hi w' a k l := by
  rcases h with h | ⟨b, o, rfl, h1, h2, h3⟩
  · exact .inl h
  · exact .inr ⟨b, o, rfl, h1, h2, by rw [hk.rd h1 h2]; exact h3.keep hk⟩
theorem SelFrom.wide {lo hi lo' hi' : Nat} {w : World} {a : Option Addr} {k : Nat} {l : Sels} (h : SelFrom lo hi w a k l) (e1 : lo' ≤ lo) (e2 : hi ≤ hi') : SelFrom lo' hi' w a k l := by
  rcases h with h | ⟨b, o, rfl, h1, h2, h3⟩
  · exact .inl h
  · exact .inr ⟨b, o, rfl, by omega, by omega, h3.wide e1 e2⟩
/-- The k-th selection's cells, its lists, and the rest. -/
theorem SelFrom.step_cap {lo hi : Nat} {w : World} {a : Option Addr} {k : Nat} {h : Hd} {sub rest : Sels} (H : SelFrom lo hi w a k (.cons h sub rest)) :
    ∃ b o a1 c1 a2 c2 a3 c3, a = some ⟨b, o, none⟩ ∧ lo ≤ b ∧ b < hi ∧ w.cell? ⟨b, o + k * 6, none⟩ = some (.int .i64 h.k) ∧ w.cell? ⟨b, o + k * 6 + 1, none⟩ = some (.string h.al) ∧ w.cell? ⟨b, o + k * 6 + 2, none⟩ = some (.string h.nm) ∧
      w.cell? ⟨b, o + k * 6 + 3, none⟩ = some (.slice a1 h.args.length c1) ∧ w.cell? ⟨b, o + k * 6 + 4, none⟩ = some (.slice a2 h.dirs.length c2) ∧ w.cell? ⟨b, o + k * 6 + 5, none⟩ = some (.slice a3 sub.len c3) ∧
      ArRow lo hi w a1 h.args ∧ DiRow lo hi w a2 h.dirs ∧ SelRow lo hi w a3 sub ∧ SelFrom lo hi w a (k + 1) rest ∧ h.args.length ≤ c1 := by
  rcases H with H | ⟨b, o, rfl, h1, h2, h3⟩
  · cases H
  · obtain ⟨⟨p0, p1, p2, ⟨a1, c1, p3, hq, q3⟩, ⟨a2, c2, p4, q4⟩⟩, ⟨a3, c3, p5, q5⟩, p6⟩ := h3.head
    refine ⟨b, o, a1, c1, a2, c2, a3, c3, rfl, h1, h2, p0, p1, p2, p3, p4, p5, q3, q4, q5, ?_, hq⟩
    exact .inr ⟨b, o, rfl, h1, h2, by rw [show o + (k + 1) * 6 = o + k * 6 + 6 by omega]; exact p6⟩
theorem SelFrom.step {lo hi : Nat} {w : World} {a : Option Addr} {k : Nat} {h : Hd} {sub rest : Sels} (H : SelFrom lo hi w a k (.cons h sub rest)) :
    ∃ b o a1 c1 a2 c2 a3 c3, a = some ⟨b, o, none⟩ ∧ lo ≤ b ∧ b < hi ∧ w.cell? ⟨b, o + k * 6, none⟩ = some (.int .i64 h.k) ∧ w.cell? ⟨b, o + k * 6 + 1, none⟩ = some (.string h.al) ∧ w.cell? ⟨b, o + k * 6 + 2, none⟩ = some (.string h.nm) ∧
      w.cell? ⟨b, o + k * 6 + 3, none⟩ = some (.slice a1 h.args.length c1) ∧ w.cell? ⟨b, o + k * 6 + 4, none⟩ = some (.slice a2 h.dirs.length c2) ∧ w.cell? ⟨b, o + k * 6 + 5, none⟩ = some (.slice a3 sub.len c3) ∧
      ArRow lo hi w a1 h.args ∧ DiRow lo hi w a2 h.dirs ∧ SelRow lo hi w a3 sub ∧ SelFrom lo hi w a (k + 1) rest := by
  obtain ⟨b, o, a1, c1, a2, c2, a3, c3, x0, x1, x2, x3, x4, x5, x6, x7, x8, x9, y0, y1, y2, _⟩ := H.step_cap
  exact ⟨b, o, a1, c1, a2, c2, a3, c3, x0, x1, x2, x3, x4, x5, x6, x7, x8, x9, y0, y1, y2⟩
theorem SelFrom.next {lo hi : Nat} {w : World} {a : Option Addr} {k : Nat} {h : Hd} {sub rest : Sels} (H : SelFrom lo hi w a k (.cons h sub rest)) : SelFrom lo hi w a (k + 1) rest := by
  obtain ⟨_, _, _, _, _, _, _, _, _, _, _, _, _, _, _, _, _, _, _, _, hf⟩ := H.step
  exact hf
theorem Row.cells_ar {lo hi : Nat} {w : World} {a : Option Addr} {l : List Ar} (h : ArRow lo hi w a l) (k : Nat) (hk : k < l.length) :
    ∃ b o, a = some ⟨b, o, none⟩ ∧ lo ≤ b ∧ b < hi ∧ w.cell? ⟨b, o + k * 4, none⟩ = some (.string l[k].nm) ∧ w.cell? ⟨b, o + k * 4 + 1, none⟩ = some (.int .i64 l[k].v.k) ∧ w.cell? ⟨b, o + k * 4 + 2, none⟩ = some (.int .i64 l[k].v.n) ∧ w.cell? ⟨b, o + k * 4 + 3, none⟩ = some (.string l[k].v.t) := by
  obtain ⟨b, o, h1, h2, h3, h4, h5, h6, h7⟩ := h.at_ k hk
  exact ⟨b, o, h1, h2, h3, h4, h5, h6, h7⟩
theorem Row.cells_di {lo hi : Nat} {w : World} {a : Option Addr} {l : List Di} (h : DiRow lo hi w a l) (k : Nat) (hk : k < l.length) :
    ∃ b o, a = some ⟨b, o, none⟩ ∧ lo ≤ b ∧ b < hi ∧ w.cell? ⟨b, o + k * 4, none⟩ = some (.bool l[k].sk) ∧ w.cell? ⟨b, o + k * 4 + 1, none⟩ = some (.int .i64 l[k].v.k) ∧ w.cell? ⟨b, o + k * 4 + 2, none⟩ = some (.int .i64 l[k].v.n) ∧ w.cell? ⟨b, o + k * 4 + 3, none⟩ = some (.string l[k].v.t) := by
  obtain ⟨b, o, h1, h2, h3, h4, h5, h6, h7⟩ := h.at_ k hk
  exact ⟨b, o, h1, h2, h3, h4, h5, h6, h7⟩
theorem DeRow.cells {lo hi : Nat} {w : World} {a : Option Addr} {l : List De} (h : DeRow lo hi w a l) (k : Nat) (hk : k < l.length) :
    ∃ b o a3 c3, a = some ⟨b, o, none⟩ ∧ lo ≤ b ∧ b < hi ∧ w.cell? ⟨b, o + k * 4, none⟩ = some (.int .i64 l[k].k) ∧ w.cell? ⟨b, o + k * 4 + 1, none⟩ = some (.string l[k].nm) ∧ w.cell? ⟨b, o + k * 4 + 2, none⟩ = some (.string l[k].on) ∧ w.cell? ⟨b, o + k * 4 + 3, none⟩ = some (.slice a3 l[k].sels.len c3) ∧ SelRow lo hi w a3 l[k].sels := by
  obtain ⟨b, o, h1, h2, h3, h4, h5, h6, ⟨a3, c3, h7, h8⟩⟩ := Row.at_ h k hk
  exact ⟨b, o, a3, c3, h1, h2, h3, h4, h5, h6, h7, h8⟩
/-- Rows in old memory stay behind a call. -/
theorem Row.up {α : Type} {at_ : (Nat → Option Value) → Nat → α → Prop} {z : Nat} {w w' : World} {a : Option Addr} {l : List α} (h : Row at_ z 0 w.heap.size w a l) (hb : Below w.heap.size w w') : Row at_ z 0 w'.heap.size w' a l :=
  (h.keep (Below.agree hb (Nat.le_refl _))).wide (Nat.le_refl _) hb.size
theorem SelRow.up {w w' : World} {a : Option Addr} {l : Sels} (h : SelRow 0 w.heap.size w a l) (hb : Below w.heap.size w w') : SelRow 0 w'.heap.size w' a l :=
  (h.keep (Below.agree hb (Nat.le_refl _))).wide (Nat.le_refl _) hb.size
theorem SelFrom.up {w w' : World} {a : Option Addr} {k : Nat} {l : Sels} (h : SelFrom 0 w.heap.size w a k l) (hb : Below w.heap.size w w') : SelFrom 0 w'.heap.size w' a k l :=
  (h.keep (Below.agree hb (Nat.le_refl _))).wide (Nat.le_refl _) hb.size
theorem DeRow.up {w w' : World} {a : Option Addr} {l : List De} (h : DeRow 0 w.heap.size w a l) (hb : Below w.heap.size w w') : DeRow 0 w'.heap.size w' a l :=
  (h.keep (Below.agree hb (Nat.le_refl _))).wide (Nat.le_refl _) hb.size
end Go.Proofs.Ytajjaddlalbnmaa
