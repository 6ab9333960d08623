/- The plain schema: its data, and the program's making of it. -/
import Derived.Test.YtkjomeceojjfhaaSchToOwn
import Derived.Deep.RegionHeld3
import Derived.Deep.CutRange
namespace Go.Proofs.Ytkjomeceojjfhaa.G
open Go.ChangeShapes Go.WideShapes Go.ChangeAt Go.RowKit
set_option linter.unusedVariables false

def sId : ByteArray := ⟨#[105, 100]⟩
def sValue : ByteArray := ⟨#[118, 97, 108, 117, 101]⟩
def sBy : ByteArray := ⟨#[98, 121]⟩
def sTo : ByteArray := ⟨#[116, 111]⟩
def sNodeT : ByteArray := ⟨#[78, 111, 100, 101]⟩
def sInt : ByteArray := ⟨#[73, 110, 116]⟩
def qFs : List Fd := [⟨⟨#[110, 111, 100, 101]⟩, [⟨sId, true⟩], sNodeT, false, false⟩, ⟨⟨#[109, 117, 115, 116]⟩, [⟨sId, true⟩], sNodeT, false, true⟩, ⟨⟨#[110, 111, 100, 101, 115]⟩, [], sNodeT, true, false⟩, ⟨⟨#[115, 105, 122, 101]⟩, [], sInt, false, true⟩]
def mFs : List Fd := [⟨⟨#[115, 101, 116]⟩, [⟨sId, true⟩, ⟨sValue, true⟩], sNodeT, false, false⟩, ⟨⟨#[97, 100, 100]⟩, [⟨sId, true⟩, ⟨sBy, true⟩], sNodeT, false, false⟩, ⟨⟨#[108, 105, 110, 107]⟩, [⟨sId, true⟩, ⟨sTo, false⟩], sNodeT, false, false⟩]
def nFs : List Fd := [⟨sId, [], sInt, false, true⟩, ⟨sValue, [], sInt, false, false⟩, ⟨⟨#[112, 108, 117, 115]⟩, [⟨sBy, true⟩], sInt, false, false⟩, ⟨⟨#[110, 101, 120, 116]⟩, [], sNodeT, false, false⟩, ⟨⟨#[110, 101, 101, 100]⟩, [], sNodeT, false, true⟩]
def sQuery : ByteArray := ⟨#[81, 117, 101, 114, 121]⟩
def sMut : ByteArray := ⟨#[77, 117, 116, 97, 116, 105, 111, 110]⟩
def PL : List Td := [⟨sQuery, qFs⟩, ⟨sMut, mFs⟩, ⟨sNodeT, nFs⟩]

theorem heap_at (w : World) (o : Obj) (n : Nat) (h : n = w.heap.size) : (w.alloc o).heap[n]? = some o := by
  subst h
  exact heap_alloc_new w o

def agv : List Ag → List Value
  | [] => []
  | x :: l => .string x.nm :: .bool x.need :: agv l
theorem agv_get : ∀ {l : List Ag} {i : Nat} {x : Ag}, l[i]? = some x → (agv l)[i * 2]? = some (.string x.nm) ∧ (agv l)[i * 2 + 1]? = some (.bool x.need)
  | [], i, x, h => by simp at h
  | y :: l, 0, x, h => by
    simp only [List.getElem?_cons_zero, Option.some.injEq] at h
    subst h
    exact ⟨rfl, rfl⟩
  | y :: l, i + 1, x, h => by
    have q := agv_get (l := l) (i := i) (x := x) (by simpa using h)
    have e : (i + 1) * 2 = i * 2 + 2 := by omega
    have e' : (i + 1) * 2 + 1 = i * 2 + 1 + 2 := by omega
    rw [e', e]
    simpa only [agv, List.getElem?_cons_succ] using q
theorem agv_len : ∀ l : List Ag, (agv l).length = l.length * 2
  | [] => rfl
  | x :: l => by simp only [agv, List.length_cons, agv_len l]; omega
theorem AgOwn.lay {w : World} {b : Nat} (l : List Ag) (h : w.heap[b]? = some (.cells (agv l).toArray 30 (0, 0))) : AgOwn w (some ⟨b, 0, none⟩) l [b] :=
  .inr ⟨b, _, rfl, rfl, h, by simp [agv_len], fun i x hx => by have := agv_get hx; exact ⟨by simpa using this.1, by simpa using this.2⟩⟩
theorem AgOwn.lay0 (w : World) (a : Option Addr) : AgOwn w a [] [] := .inl ⟨rfl, rfl⟩
def fdvs : List Fd → List (Option Addr × Nat) → List Value
  | x :: l, p :: r => .string x.nm :: .slice p.1 x.args.length p.2 :: .string x.ty :: .bool x.ls :: .bool x.bg :: fdvs l r
  | _, _ => []
def AllAg (w : World) : List Fd → List (Option Addr × Nat) → List (List Nat) → Prop
  | [], [], [] => True
  | x :: l, p :: r, s :: t => AgOwn w p.1 x.args s ∧ AllAg w l r t
  | _, _, _ => False
theorem AllAg.len {w : World} : ∀ {l r t}, AllAg w l r t → t.length = l.length ∧ (fdvs l r).length = l.length * 5
  | [], [], [], _ => ⟨rfl, rfl⟩
  | x :: l, p :: r, s :: t, h => by
    have := AllAg.len h.2
    simp only [List.length_cons, fdvs]
    omega
theorem AllAg.get {w : World} : ∀ {l r t i x s}, AllAg w l r t → l[i]? = some x → t[i]? = some s → ∃ p : Option Addr × Nat, AgOwn w p.1 x.args s ∧ (fdvs l r)[i * 5]? = some (.string x.nm) ∧ (fdvs l r)[i * 5 + 1]? = some (.slice p.1 x.args.length p.2) ∧ (fdvs l r)[i * 5 + 2]? = some (.string x.ty) ∧ (fdvs l r)[i * 5 + 3]? = some (.bool x.ls) ∧ (fdvs l r)[i * 5 + 4]? = some (.bool x.bg)
  | [], [], [], i, x, s, _, hx, _ => by simp at hx
  | y :: l, p :: r, u :: t, 0, x, s, h, hx, hs => by
    simp only [List.getElem?_cons_zero, Option.some.injEq] at hx hs
    subst hx hs
    exact ⟨p, h.1, rfl, rfl, rfl, rfl, rfl⟩
  | y :: l, p :: r, u :: t, i + 1, x, s, h, hx, hs => by
    obtain ⟨q, q0, q1, q2, q3, q4, q5⟩ := AllAg.get (i := i) h.2 (by simpa using hx) (by simpa using hs)
    have e0 : (i + 1) * 5 = i * 5 + 5 := by omega
    refine ⟨q, q0, ?_, ?_, ?_, ?_, ?_⟩ <;> simp only [e0, fdvs]
    · simpa only [List.getElem?_cons_succ] using q1
    · rw [show i * 5 + 5 + 1 = i * 5 + 1 + 5 by omega]; simpa only [List.getElem?_cons_succ] using q2
    · rw [show i * 5 + 5 + 2 = i * 5 + 2 + 5 by omega]; simpa only [List.getElem?_cons_succ] using q3
    · rw [show i * 5 + 5 + 3 = i * 5 + 3 + 5 by omega]; simpa only [List.getElem?_cons_succ] using q4
    · rw [show i * 5 + 5 + 4 = i * 5 + 4 + 5 by omega]; simpa only [List.getElem?_cons_succ] using q5
theorem FdOwn.lay {w : World} {b : Nat} (l : List Fd) (r : List (Option Addr × Nat)) (t : List (List Nat)) (h : w.heap[b]? = some (.cells (fdvs l r).toArray 33 (0, 0))) (ha : AllAg w l r t) : FdOwn w (some ⟨b, 0, none⟩) l (b :: t.flatten) := by
  refine .inr ⟨b, _, t, rfl, rfl, ha.len.1, h, by simp [ha.len.2], fun i x s hx hs => ?_⟩
  obtain ⟨q, q0, q1, q2, q3, q4, q5⟩ := AllAg.get ha hx hs
  exact ⟨⟨by simpa using q1, by simpa using q3, by simpa using q4, by simpa using q5⟩, q.1, q.2, by simpa using q2, q0⟩
def tdvs : List Td → List (Option Addr × Nat) → List Value
  | x :: l, p :: r => .string x.nm :: .slice p.1 x.fs.length p.2 :: tdvs l r
  | _, _ => []
def AllFd (w : World) : List Td → List (Option Addr × Nat) → List (List Nat) → Prop
  | [], [], [] => True
  | x :: l, p :: r, s :: t => FdOwn w p.1 x.fs s ∧ AllFd w l r t
  | _, _, _ => False
theorem AllFd.len {w : World} : ∀ {l r t}, AllFd w l r t → t.length = l.length ∧ (tdvs l r).length = l.length * 2
  | [], [], [], _ => ⟨rfl, rfl⟩
  | x :: l, p :: r, s :: t, h => by
    have := AllFd.len h.2
    simp only [List.length_cons, tdvs]
    omega
theorem AllFd.get {w : World} : ∀ {l r t i x s}, AllFd w l r t → l[i]? = some x → t[i]? = some s → ∃ p : Option Addr × Nat, FdOwn w p.1 x.fs s ∧ (tdvs l r)[i * 2]? = some (.string x.nm) ∧ (tdvs l r)[i * 2 + 1]? = some (.slice p.1 x.fs.length p.2)
  | [], [], [], i, x, s, _, hx, _ => by simp at hx
  | y :: l, p :: r, u :: t, 0, x, s, h, hx, hs => by
    simp only [List.getElem?_cons_zero, Option.some.injEq] at hx hs
    subst hx hs
    exact ⟨p, h.1, rfl, rfl⟩
  | y :: l, p :: r, u :: t, i + 1, x, s, h, hx, hs => by
    obtain ⟨q, q0, q1, q2⟩ := AllFd.get (i := i) h.2 (by simpa using hx) (by simpa using hs)
    have e0 : (i + 1) * 2 = i * 2 + 2 := by omega
    refine ⟨q, q0, ?_, ?_⟩ <;> simp only [e0, tdvs]
    · simpa only [List.getElem?_cons_succ] using q1
    · rw [show i * 2 + 2 + 1 = i * 2 + 1 + 2 by omega]; simpa only [List.getElem?_cons_succ] using q2
theorem TdOwn.lay {w : World} {b : Nat} (l : List Td) (r : List (Option Addr × Nat)) (t : List (List Nat)) (h : w.heap[b]? = some (.cells (tdvs l r).toArray 36 (0, 0))) (ha : AllFd w l r t) : TdOwn w (some ⟨b, 0, none⟩) l (b :: t.flatten) := by
  refine .inr ⟨b, _, t, rfl, rfl, ha.len.1, h, by simp [ha.len.2], fun i x s hx hs => ?_⟩
  obtain ⟨q, q0, q1, q2⟩ := AllFd.get ha hx hs
  exact ⟨by simpa [TdCell] using q1, q.1, q.2, by simpa using q2, q0⟩

theorem needed_any (n : ByteArray) (w : World) :
    Calls Try.prog 9 #[.string n] w fun e w' => e = .returned (.agg #[.string n, .bool true]) ∧ w' = w.alloc (.cells #[.string n, .bool true] 30) := by
  go_enter Try.func9, Try.ntmps9
  go_wp2_with fail
  refine bodyPost_ret (v := .agg #[.string n, .bool true]) (by simp [results, Try.results9, go_sem]) rfl ⟨rfl, rfl⟩
theorem typeOf_any (n : ByteArray) (a : Option Addr) (m c : Nat) (w : World) :
    Calls Try.prog 10 #[.string n, .slice a m c] w fun e w' => e = .returned (.agg #[.string n, .slice a m c]) ∧ w' = w.alloc (.cells #[.string n, .slice a m c] 36) := by
  go_enter Try.func10, Try.ntmps10
  go_wp2_with fail
  refine bodyPost_ret (v := .agg #[.string n, .slice a m c]) (by simp [results, Try.results10, go_sem]) rfl ⟨rfl, rfl⟩
theorem fieldOf_any (n k : ByteArray) (a : Option Addr) (m c : Nat) (w : World) :
    Calls Try.prog 11 #[.string n, .string k, .slice a m c] w fun e w' => e = .returned (.agg #[.string n, .slice a m c, .string k, .bool false, .bool false]) ∧ w' = w.alloc (.cells #[.string n, .slice a m c, .string k, .bool false, .bool false] 33) := by
  go_enter Try.func11, Try.ntmps11
  go_wp2_with fail
  refine bodyPost_ret (v := .agg #[.string n, .slice a m c, .string k, .bool false, .bool false]) (by simp [results, Try.results11, go_sem]) rfl ⟨rfl, rfl⟩
theorem banged_any (n k : ByteArray) (a : Option Addr) (m c : Nat) (b1 b2 : Bool) (w : World) :
    Calls Try.prog 12 #[.agg #[.string n, .slice a m c, .string k, .bool b1, .bool b2]] w fun e w' => e = .returned (.agg #[.string n, .slice a m c, .string k, .bool b1, .bool true]) ∧ w' = (w.alloc (.cells #[.string n, .slice a m c, .string k, .bool b1, .bool true] 33)).alloc (.cells #[.string n, .slice a m c, .string k, .bool b1, .bool true] 33) := by
  go_enter Try.func12, Try.ntmps12
  go_wp2_with fail
  refine bodyPost_ret (v := .agg #[.string n, .slice a m c, .string k, .bool b1, .bool true]) (by simp [results, Try.results12, go_sem]) rfl ⟨rfl, ?_⟩
  rfl
theorem listed_any (n k : ByteArray) (a : Option Addr) (m c : Nat) (b1 b2 : Bool) (w : World) :
    Calls Try.prog 13 #[.agg #[.string n, .slice a m c, .string k, .bool b1, .bool b2]] w fun e w' => e = .returned (.agg #[.string n, .slice a m c, .string k, .bool true, .bool b2]) ∧ w' = (w.alloc (.cells #[.string n, .slice a m c, .string k, .bool true, .bool b2] 33)).alloc (.cells #[.string n, .slice a m c, .string k, .bool true, .bool b2] 33) := by
  go_enter Try.func13, Try.ntmps13
  go_wp2_with fail
  refine bodyPost_ret (v := .agg #[.string n, .slice a m c, .string k, .bool true, .bool b2]) (by simp [results, Try.results13, go_sem]) rfl ⟨rfl, rfl⟩
end Go.Proofs.Ytkjomeceojjfhaa.G
