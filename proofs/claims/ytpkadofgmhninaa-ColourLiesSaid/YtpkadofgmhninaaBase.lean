/- The base of the seat's walks: worlds that only grow, what a slice of integers reads as, and small facts on lists. -/
import Derived.Test.YtpkadofgmhninaaRows
import Derived.RangeFuncNested
import Derived.RangeFuncBound
import Derived.RangeFuncCalls
import Derived.RangeFuncLeaves
import Derived.Shelf.Abstract
import Derived.WalkKit
import Derived.WalkSpells
import Derived.WalkLawsBesides
import Derived.OwnWalkIn
import Derived.TacticsInMore
import Derived.LoopNIn
import Derived.LoopIn
import Derived.BigQuiet
import Derived.Deep.RegionHeld3
import Derived.Deep.RegionWith
import Derived.Deep.LoopGhost
import Derived.Lib.Hide
import Derived.Handy
namespace Go.Proofs.Ytpkadofgmhninaa
open Go.RowKit

/-- All that lay in A lies in B as it lay. -/
def Bel (A B : World) : Prop := Below A.heap.size A B

theorem Bel.refl (A : World) : Bel A A := Below.refl _ _
theorem Bel.trans {A B C : World} (h : Bel A B) (k : Bel B C) : Bel A C := Below.trans h (Below.mono k h.size)
theorem Bel.alloc {A B : World} (h : Bel A B) (o : Obj) : Bel A (B.alloc o) := Below.alloc h h.size o
theorem Bel.drew {A B : World} (h : Bel A B) : Bel A B.drew := Below.drew h

theorem lt_of_cell {A : World} {p : Addr} {v : Value} (h : A.cell? p = some v) : p.block < A.heap.size := by
  unfold World.cell? at h
  by_cases e : p.block < A.heap.size
  · exact e
  · rw [Array.getElem?_eq_none (by omega)] at h; simp at h

theorem Bel.cell {A B : World} (h : Bel A B) {p : Addr} {v : Value} (hc : A.cell? p = some v) : B.cell? p = some v :=
  (Below.cell h (lt_of_cell hc)).trans hc
theorem Bel.frozen {A B : World} (h : Bel A B) {p : Addr} {v : Value} (hc : A.cell? p = some v) (hf : A.frozen? p = false) : B.frozen? p = false :=
  (Below.frozen h (lt_of_cell hc)).trans hf
theorem Bel.boxed {A B : World} (h : Bel A B) {k : Nat} {t : TypeId} {v : Value} (hb : Boxed A k t v) : Boxed B k t v :=
  (h.block k hb.lt).trans hb
theorem Bel.size {A B : World} (h : Bel A B) : A.heap.size ≤ B.heap.size := Below.size h

/-- From block n on all that lay in A lies in B as it lay. -/
def KeepFrom (n : Nat) (A B : World) : Prop := A.heap.size ≤ B.heap.size ∧ ∀ k, n ≤ k → k < A.heap.size → B.heap[k]? = A.heap[k]?
theorem KeepFrom.refl (n : Nat) (A : World) : KeepFrom n A A := ⟨Nat.le_refl _, fun _ _ _ => rfl⟩
theorem KeepFrom.trans {n : Nat} {A B C : World} (h : KeepFrom n A B) (k : KeepFrom n B C) : KeepFrom n A C :=
  ⟨Nat.le_trans h.1 k.1, fun i hi hl => (k.2 i hi (Nat.lt_of_lt_of_le hl h.1)).trans (h.2 i hi hl)⟩
theorem Bel.keep {A B : World} (h : Bel A B) (n : Nat) : KeepFrom n A B := ⟨h.size, fun k _ hl => h.block k hl⟩
theorem KeepFrom.boxed {n : Nat} {A B : World} (h : KeepFrom n A B) {k : Nat} {t : TypeId} {v : Value} (hk : n ≤ k) (hb : Boxed A k t v) : Boxed B k t v :=
  (h.2 k hk hb.lt).trans hb

/-- A call that returns, and leaves what lay as it lay. -/
def Ret (f : FuncId) (args : Array Value) (w : World) (Q : Value → World → Prop) : Prop :=
  Calls Try.prog f args w fun e w' => ∃ v, e = .returned v ∧ Q v w'

theorem Ret.mono {f : FuncId} {args : Array Value} {w : World} {Q Q' : Value → World → Prop} (h : Ret f args w Q) (hq : ∀ v w', Q v w' → Q' v w') : Ret f args w Q' :=
  Calls.mono h fun _ _ ⟨v, he, h'⟩ => ⟨v, he, hq _ _ h'⟩

/-- The cells from an address on hold these values (n of them). -/
def At (w : World) (a : Option Addr) (size n : Nat) (get : Nat → Nat → Value) : Prop :=
  ∀ i, i < n → ∃ b off, a = some ⟨b, off, none⟩ ∧ ∀ j, j < size → w.cell? ⟨b, off + i * size + j, none⟩ = some (get i j)

theorem At.bel {A B : World} (h : Bel A B) {a : Option Addr} {size n : Nat} {get : Nat → Nat → Value} (hc : At A a size n get) : At B a size n get := by
  intro i hi
  obtain ⟨b, off, e, h'⟩ := hc i hi
  exact ⟨b, off, e, fun j hj => h.cell (h' j hj)⟩

/-- A slice of integers. -/
def Ints (w : World) (v : Value) (xs : List Int) : Prop :=
  ∃ (a : Option Addr) (c : Nat), v = .slice a xs.length c ∧ xs.length ≤ c ∧ c ≤ maxLen ∧ (a = none → c = 0) ∧
    ∀ i, i < xs.length → ∃ b off, a = some ⟨b, off, none⟩ ∧ w.cell? ⟨b, off + i, none⟩ = some (.int .i64 (xs.getD i 0))

theorem Ints.bel {A B : World} (h : Bel A B) {v : Value} {xs : List Int} (hx : Ints A v xs) : Ints B v xs := by
  obtain ⟨a, c, e, h1, h2, hz, h3⟩ := hx
  refine ⟨a, c, e, h1, h2, hz, fun i hi => ?_⟩
  obtain ⟨b, off, e', h'⟩ := h3 i hi
  exact ⟨b, off, e', h.cell h'⟩

theorem ret_int {k : IntKind} {a b : Int} (h : a = b) : Ending.returned (.int k a) = .returned (.int k b) := by rw [h]
theorem ret_bool {a b : Bool} (h : a = b) : Ending.returned (.bool a) = .returned (.bool b) := by rw [h]

theorem getD_lt {α : Type} (xs : List α) (i : Nat) (d : α) (hi : i < xs.length) : xs.getD i d = xs[i] := by simp [List.getD, List.getElem?_eq_getElem hi]

theorem all_getD (xs : List Int) (p : Int → Bool) : decide (∀ i, i < xs.length → p (xs.getD i 0) = true) = xs.all p := by
  rw [Bool.eq_iff_iff, decide_eq_true_iff, List.all_eq_true]
  constructor
  · intro h x hx
    obtain ⟨i, hi, rfl⟩ := List.getElem_of_mem hx
    have := h i hi
    rwa [getD_lt _ _ _ hi] at this
  · intro h i hi
    rw [getD_lt _ _ _ hi]
    exact h _ (List.getElem_mem hi)

theorem Ints.nil (w : World) : Ints w (.slice none 0 0) [] := ⟨none, 0, rfl, Nat.le_refl _, Nat.zero_le _, fun _ => rfl, fun _ hi => absurd hi (Nat.not_lt_zero _)⟩

theorem Ints.build1 (W : World) (x : Int) : Ints (W.alloc (.cells #[.int .i64 x] 3)) (.slice (some ⟨W.heap.size, 0, none⟩) 1 1) [x] := by
  refine ⟨_, 1, rfl, Nat.le_refl _, by unfold maxLen; omega, nofun, fun i hi => ⟨W.heap.size, 0, rfl, ?_⟩⟩
  obtain rfl : i = 0 := by simp at hi; omega
  simp
theorem Ints.build2 (W : World) (x y : Int) : Ints (W.alloc (.cells #[.int .i64 x, .int .i64 y] 3)) (.slice (some ⟨W.heap.size, 0, none⟩) 2 2) [x, y] := by
  refine ⟨_, 2, rfl, Nat.le_refl _, by unfold maxLen; omega, nofun, fun i hi => ⟨W.heap.size, 0, rfl, ?_⟩⟩
  have : i = 0 ∨ i = 1 := by simp at hi; omega
  rcases this with rfl | rfl <;> simp

end Go.Proofs.Ytpkadofgmhninaa
