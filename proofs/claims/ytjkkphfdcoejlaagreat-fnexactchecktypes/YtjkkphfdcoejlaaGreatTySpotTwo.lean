/- CheckTypes: the program's spots: made. -/
import Derived.Test.YtjkkphfdcoejlaaGreatTySpot
namespace Go.Proofs.YtjkkphfdcoejlaaGreat
open Go.ChangeShapes Go.WideShapes Go.ChangeAt Go.RowKit
set_option linter.unusedVariables false

/-- A spot's field. -/
def SpF (t : G.Td) (h : Hd) (f : G.Fd) (kn : Bool) : Prop := ((h.k == 1) = false ∧ f = fd0 ∧ kn = false) ∨ ((h.k == 1) = true ∧ kn = false ∧ fldOf t h.nm = none ∧ f = fd0) ∨ ((h.k == 1) = true ∧ kn = true ∧ fldOf t h.nm = some f)
def selV (h : Hd) (n : Nat) (a1 : Option Addr) (c1 : Nat) (a2 : Option Addr) (c2 : Nat) (a3 : Option Addr) (c3 : Nat) : Value :=
  .agg #[.int .i64 h.k, .string h.al, .string h.nm, .slice a1 h.args.length c1, .slice a2 h.dirs.length c2, .slice a3 n c3]
def tdV (t : G.Td) (at_ : Option Addr) (ct : Nat) : Value := .agg #[.string t.nm, .slice at_ t.fs.length ct]
def SpotR (w : World) (h : Hd) (n : Nat) (a1 : Option Addr) (c1 : Nat) (a2 : Option Addr) (c2 : Nat) (a3 : Option Addr) (c3 : Nat) (t : G.Td) (at_ : Option Addr) (ct : Nat) (e : Ending) : Prop := ∃ f af cf kn, e = .returned (spV h n a1 c1 a2 c2 a3 c3 t at_ ct f af cf kn) ∧ SpF t h f kn ∧ G.AgRow 0 w.heap.size w af f.args
set_option maxHeartbeats 4000000 in
set_option maxRecDepth 40000 in
/-- A spot of what is no field. -/
theorem spot_not (h : Hd) (n : Nat) (a1 a2 a3 at_ : Option Addr) (c1 c2 c3 ct : Nat) (t : G.Td) (w : World) (e1 : (h.k == 1) = false) :
    Calls Tryz.prog 69 #[selV h n a1 c1 a2 c2 a3 c3, tdV t at_ ct] w fun e w' => SpotR w h n a1 c1 a2 c2 a3 c3 t at_ ct e ∧ Below w.heap.size w w' := by
  unfold selV tdV
  have HN : Hid (SpotR w h n a1 c1 a2 c2 a3 c3 t at_ ct (.returned (spV h n a1 c1 a2 c2 a3 c3 t at_ ct fd0 none 0 false))) := ⟨fd0, none, 0, false, rfl, .inl ⟨e1, rfl, rfl⟩, ag_nil _ _ _ _⟩
  go_enter Tryz.func69, Tryz.ntmps69
  go_wp2_with fail
  refine bodyPost_ret (v := spV h n a1 c1 a2 c2 a3 c3 t at_ ct fd0 none 0 false) (by simp [results, Tryz.results69, go_sem, spV, fd0]) rfl ⟨HN.out, ?_⟩
  repeat (first | exact Below.refl _ _ | refine Below.setCell ?_ (by first | omega | (simp <;> omega)) _ | refine Below.alloc ?_ (by first | omega | (simp <;> omega)) _)
end Go.Proofs.YtjkkphfdcoejlaaGreat
