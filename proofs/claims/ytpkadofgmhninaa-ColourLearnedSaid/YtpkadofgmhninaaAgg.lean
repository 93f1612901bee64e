/- Thirty-six integers are loaded and stored together. -/
import Derived.Test.YtpkadofgmhninaaWith
import Derived.Test.YtpkadofgmhninaaPlans
import Derived.Laws.CopyRow
namespace Go.Proofs.Ytpkadofgmhninaa
open Go.RowKit
attribute [local go_sem] Oper.semAt_some
/-- Thirty-six integers in a block. -/
def GapsW (W : World) (B : Nat) (g : List Int) : Prop := g.length = 36 ∧ W.heap[B]? = some (.cells ((g.map (Value.int .i64)).toArray) 89 (0, 0))
theorem GapsW.cell {W : World} {B : Nat} {g : List Int} (h : GapsW W B g) {a b : Nat} (ha : a < 6) (hb : b < 6) : W.cell? ⟨B, a * 6 + b, none⟩ = some (.int .i64 (CSet.gat g a b)) ∧ W.frozen? ⟨B, a * 6 + b, none⟩ = false := by
  obtain ⟨h1, h2⟩ := h
  have hl : a * 6 + b < g.length := by omega
  constructor
  · simp only [World.cell?, h2]
    unfold CSet.gat
    rw [show 6 * a + b = a * 6 + b by omega, List.getD, List.getElem?_eq_getElem hl]
    simp [hl]
  · simp [World.frozen?, h2]
theorem GapsW.set {W : World} {B : Nat} {g : List Int} (h : GapsW W B g) (a b : Nat) (v : Int) : GapsW (W.setCell ⟨B, a * 6 + b, none⟩ (.int .i64 v)) B (g.set (6 * a + b) v) := by
  obtain ⟨h1, h2⟩ := h
  refine ⟨by simp [h1], ?_⟩
  have := Go.setCell_eq_setRow W B (a * 6 + b) _ _ _ (.int .i64 v) h2
  rw [this, Go.setRow_heap W B _ _ _ _ h2, show 6 * a + b = a * 6 + b by omega]
  simp [List.map_set]
theorem GapsW.bel {A C : World} {B : Nat} {g : List Int} (h : GapsW A B g) (b : Bel A C) : GapsW C B g :=
  ⟨h.1, (b.block B (Array.getElem?_eq_some_iff.1 h.2).1).trans h.2⟩
theorem GapsW.but {A C : World} {B m : Nat} {g : List Int} (h : GapsW A B g) (b : But m A C) (hm : B ≠ m) : GapsW C B g :=
  ⟨h.1, (b.block B (Array.getElem?_eq_some_iff.1 h.2).1 hm).trans h.2⟩
theorem GapsW.quiet {A C : World} {B n : Nat} {g : List Int} (h : GapsW A B g) (b : Quiet n A C) : GapsW C B g :=
  ⟨h.1, b.same _ _ h.2 (.inr rfl)⟩

abbrev gv (g : List Int) : Value := .agg (g.map (Value.int .i64)).toArray
theorem Try.size89 : (Try.prog.info? 89).map (·.size) = some 36 := by kernel_rfl
theorem Try.agg89 : (Try.prog.underlying 89).isSome = true := by kernel_rfl

theorem run_load89 (W : World) (B : Nat) (g : List Int) (h : GapsW W B g) : (loadVar 89 ⟨B, 0, none⟩).run Try.prog W = .ok (gv g) W := by
  have hl := run_loadCells_list (P := Try.prog) W ⟨B, 0, none⟩ (g.map (Value.int .i64)) (fun j v hj => by
    rw [addr_add]
    simp only [World.cell?, h.2, Nat.zero_add]
    rw [← hj]; simp)
  rw [List.length_map, h.1] at hl
  cases hq : Try.prog.info? 89 with
  | none => have := Try.size89; simp [hq] at this
  | some i =>
    have hi : i.size = 36 := by have := Try.size89; simpa [hq] using this
    simp [loadVar, isAgg, sizeOf, typeInfo, hq, hi, hl]

theorem wpListIn_load89 {F : Fence} {n : Nat} {ops : Array Oper} {rest : List Oper} {dst : Option Tmp} {ty : TypeId} {pos : String} {after : Array Edge} {a : Act} {w : World} {Q : Exit → Act → World → Prop} (x : Tmp) (B : Nat) (g : List Int)
    (hx : a.eval (.tmp x) = .pointer (some ⟨B, 0, none⟩)) (hG : GapsW w B g) (h : wpListIn F n Try.prog ops Q rest (a.put dst (gv g)) w) :
    wpListIn F n Try.prog ops Q ({ dst := dst, op := .load 89 (.tmp x), type := ty, pos := pos, after := after, guard := none } :: rest) a w := by
  refine wpListIn_plain rfl fun K hK' => ?_
  have hrun := run_load89 w B g hG
  unfold Oper.wpIn
  refine ⟨?_, ?_⟩
  · simp [Oper.about]
  · rw [Oper.semAt_plain F _ _ (by intro c hc'; cases hc')]
    simp only [execOp, hx, Instr.loadAt, Instr.sureAddr, Sem.run_bind, Sem.run_pure, Result.andThen_ok, hrun]
    exact hK' _ _ h

theorem run_store89 (W : World) (B : Nat) (g : List Int) (cur : Array Value) (hc : W.heap[B]? = some (.cells cur 89 (0, 0))) (hs : cur.size = 36) (hg : g.length = 36) :
    (storeVar 89 ⟨B, 0, none⟩ (gv g)).run Try.prog W = .ok () (W.setRow B (g.map (Value.int .i64)).toArray) := by
  have hst := run_storeCells_at Try.prog B 0 89 (g.map (Value.int .i64)) 0 cur W hc (by simp; omega) (fun v hv => by obtain ⟨c, _, rfl⟩ := List.mem_map.1 hv; rfl)
  cases hq : Try.prog.info? 89 with
  | none => have := Try.size89; simp [hq] at this
  | some i =>
    have hi : i.size = 36 := by have := Try.size89; simpa [hq] using this
    have hd : List.drop 36 cur.toList = [] := by rw [List.drop_eq_nil_of_le]; simp [hs]
    simp only [Nat.zero_add, Nat.add_zero, List.take_zero, List.nil_append, List.length_map, hg, hd, List.append_nil] at hst
    simp [storeVar, sizeOf, typeInfo, hq, hi, Value.cells, hg, hst]

theorem wpListIn_store89 {F : Fence} {n : Nat} {ops : Array Oper} {rest : List Oper} {ty : TypeId} {pos : String} {after : Array Edge} {a : Act} {w : World} {Q : Exit → Act → World → Prop} (x : Tmp) (y : Operand) (B : Nat) (g : List Int) (cur : Array Value)
    (hx : a.eval (.tmp x) = .pointer (some ⟨B, 0, none⟩)) (hy : a.eval y = gv g) (hc : w.heap[B]? = some (.cells cur 89 (0, 0))) (hs : cur.size = 36) (hg : g.length = 36)
    (h : ∀ w', GapsW w' B g → But B w w' → w'.heap.size = w.heap.size → wpListIn F n Try.prog ops Q rest a w') :
    wpListIn F n Try.prog ops Q ({ dst := none, op := .store 89 (.tmp x) y, type := ty, pos := pos, after := after, guard := none } :: rest) a w := by
  refine wpListIn_plain rfl fun K hK' => ?_
  have hrun := run_store89 w B g cur hc hs hg
  unfold Oper.wpIn
  refine ⟨?_, ?_⟩
  · simp [Oper.about]
  · rw [Oper.semAt_plain F _ _ (by intro c hc'; cases hc')]
    simp only [execOp, hx, hy, Instr.storeAt, Instr.sureAddr, Sem.run_bind, Sem.run_pure, Result.andThen_ok, hrun]
    refine hK' _ _ (h _ ⟨hg, Go.setRow_heap _ _ _ _ _ _ hc⟩ ⟨rfl, rfl, rfl, by simp [World.setRow], fun k hk hm => Go.setRow_other _ _ _ _ hm⟩ (by simp [World.setRow]))

theorem run_asLoad {W : World} {B : Nat} {g : List Int} (h : GapsW W B g) {x : Value} (hx : x = .pointer (some ⟨B, 0, none⟩)) :
    (((asAddr x).run Try.prog W).andThen fun a w' => (loadVar 89 a).run Try.prog w') = .ok (gv g) W := by
  subst hx
  simp only [asAddr, Sem.run_pure, Result.andThen_ok]
  exact run_load89 _ _ _ h

end Go.Proofs.Ytpkadofgmhninaa
