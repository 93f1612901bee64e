/- The base of the seat's walks: worlds that only grow, what a slice of integers reads as, and small facts on lists. IndexFunc, ContainsFunc and every, at the types of the seat: by what the function value answers, element by element. 'every', at the four types of the seat. -/
import Derived.Test.YtpkadofgmhninaaRows
import Derived.RangeFuncNested
import Derived.RangeFuncBound
import Derived.RangeFuncCalls
import Derived.RangeFuncLeaves
import Derived.Shelf.Abstract
import Derived.WalkKit
import Derived.WalkSpells
import Derived.WalkLawsBesides
import Derived.OwnWalkIn
import Derived.TacticsInMore
import Derived.LoopNIn
import Derived.LoopIn
import Derived.BigQuiet
import Derived.Deep.RegionHeld3
import Derived.Deep.RegionWith
import Derived.Deep.LoopGhost
import Derived.Lib.Hide
import Derived.Handy
namespace Go.Proofs.Ytpkadofgmhninaa
open Go.RowKit

/-- All that lay in A lies in B as it lay. -/
def Bel (A B : World) : Prop := Below A.heap.size A B

theorem Bel.refl (A : World) : Bel A A := Below.refl _ _
theorem Bel.trans {A B C : World} (h : Bel A B) (k : Bel B C) : Bel A C := Below.trans h (Below.mono k h.size)
theorem Bel.alloc {A B : World} (h : Bel A B) (o : Obj) : Bel A (B.alloc o) := Below.alloc h h.size o
theorem Bel.drew {A B : World} (h : Bel A B) : Bel A B.drew := Below.drew h

theorem lt_of_cell {A : World} {p : Addr} {v : Value} (h : A.cell? p = some v) : p.block < A.heap.size := by
  unfold World.cell? at h
  by_cases e : p.block < A.heap.size
  · exact e
  · rw [Array.getElem?_eq_none (by omega)] at h; simp at h

theorem Bel.cell {A B : World} (h : Bel A B) {p : Addr} {v : Value} (hc : A.cell? p = some v) : B.cell? p = some v :=
  (Below.cell h (lt_of_cell hc)).trans hc
theorem Bel.frozen {A B : World} (h : Bel A B) {p : Addr} {v : Value} (hc : A.cell? p = some v) (hf : A.frozen? p = false) : B.frozen? p = false :=
  (Below.frozen h (lt_of_cell hc)).trans hf
theorem Bel.boxed {A B : World} (h : Bel A B) {k : Nat} {t : TypeId} {v : Value} (hb : Boxed A k t v) : Boxed B k t v :=
  (h.block k hb.lt).trans hb
theorem Bel.size {A B : World} (h : Bel A B) : A.heap.size ≤ B.heap.size := Below.size h

/-- From block n on all that lay in A lies in B as it lay. -/
def KeepFrom (n : Nat) (A B : World) : Prop := A.heap.size ≤ B.heap.size ∧ ∀ k, n ≤ k → k < A.heap.size → B.heap[k]? = A.heap[k]?
theorem KeepFrom.refl (n : Nat) (A : World) : KeepFrom n A A := ⟨Nat.le_refl _, fun _ _ _ => rfl⟩
theorem KeepFrom.trans {n : Nat} {A B C : World} (h : KeepFrom n A B) (k : KeepFrom n B C) : KeepFrom n A C :=
  ⟨Nat.le_trans h.1 k.1, fun i hi hl => (k.2 i hi (Nat.lt_of_lt_of_le hl h.1)).trans (h.2 i hi hl)⟩
theorem Bel.keep {A B : World} (h : Bel A B) (n : Nat) : KeepFrom n A B := ⟨h.size, fun k _ hl => h.block k hl⟩
theorem KeepFrom.boxed {n : Nat} {A B : World} (h : KeepFrom n A B) {k : Nat} {t : TypeId} {v : Value} (hk : n ≤ k) (hb : Boxed A k t v) : Boxed B k t v :=
  (h.2 k hk hb.lt).trans hb

/-- A call that returns, and leaves what lay as it lay. -/
def Ret (f : FuncId) (args : Array Value) (w : World) (Q : Value → World → Prop) : Prop :=
  Calls Try.prog f args w fun e w' => ∃ v, e = .returned v ∧ Q v w'

theorem Ret.mono {f : FuncId} {args : Array Value} {w : World} {Q Q' : Value → World → Prop} (h : Ret f args w Q) (hq : ∀ v w', Q v w' → Q' v w') : Ret f args w Q' :=
  Calls.mono h fun _ _ ⟨v, he, h'⟩ => ⟨v, he, hq _ _ h'⟩

/-- The cells from an address on hold these values (n of them). -/
def At (w : World) (a : Option Addr) (size n : Nat) (get : Nat → Nat → Value) : Prop :=
  ∀ i, i < n → ∃ b off, a = some ⟨b, off, none⟩ ∧ ∀ j, j < size → w.cell? ⟨b, off + i * size + j, none⟩ = some (get i j)

theorem At.bel {A B : World} (h : Bel A B) {a : Option Addr} {size n : Nat} {get : Nat → Nat → Value} (hc : At A a size n get) : At B a size n get := by
  intro i hi
  obtain ⟨b, off, e, h'⟩ := hc i hi
  exact ⟨b, off, e, fun j hj => h.cell (h' j hj)⟩

/-- A slice of integers. -/
def Ints (w : World) (v : Value) (xs : List Int) : Prop :=
  ∃ (a : Option Addr) (c : Nat), v = .slice a xs.length c ∧ xs.length ≤ c ∧ c ≤ maxLen ∧ (a = none → c = 0) ∧
    ∀ i, i < xs.length → ∃ b off, a = some ⟨b, off, none⟩ ∧ w.cell? ⟨b, off + i, none⟩ = some (.int .i64 (xs.getD i 0))

theorem Ints.bel {A B : World} (h : Bel A B) {v : Value} {xs : List Int} (hx : Ints A v xs) : Ints B v xs := by
  obtain ⟨a, c, e, h1, h2, hz, h3⟩ := hx
  refine ⟨a, c, e, h1, h2, hz, fun i hi => ?_⟩
  obtain ⟨b, off, e', h'⟩ := h3 i hi
  exact ⟨b, off, e', h.cell h'⟩

theorem ret_int {k : IntKind} {a b : Int} (h : a = b) : Ending.returned (.int k a) = .returned (.int k b) := by rw [h]
theorem ret_bool {a b : Bool} (h : a = b) : Ending.returned (.bool a) = .returned (.bool b) := by rw [h]

theorem getD_lt {α : Type} (xs : List α) (i : Nat) (d : α) (hi : i < xs.length) : xs.getD i d = xs[i] := by simp [List.getD, List.getElem?_eq_getElem hi]

theorem all_getD (xs : List Int) (p : Int → Bool) : decide (∀ i, i < xs.length → p (xs.getD i 0) = true) = xs.all p := by
  rw [Bool.eq_iff_iff, decide_eq_true_iff, List.all_eq_true]
  constructor
  · intro h x hx
    obtain ⟨i, hi, rfl⟩ := List.getElem_of_mem hx
    have := h i hi
    rwa [getD_lt _ _ _ hi] at this
  · intro h i hi
    rw [getD_lt _ _ _ hi]
    exact h _ (List.getElem_mem hi)

theorem Ints.nil (w : World) : Ints w (.slice none 0 0) [] := ⟨none, 0, rfl, Nat.le_refl _, Nat.zero_le _, fun _ => rfl, fun _ hi => absurd hi (Nat.not_lt_zero _)⟩

theorem Ints.build1 (W : World) (x : Int) : Ints (W.alloc (.cells #[.int .i64 x] 3)) (.slice (some ⟨W.heap.size, 0, none⟩) 1 1) [x] := by
  refine ⟨_, 1, rfl, Nat.le_refl _, by unfold maxLen; omega, nofun, fun i hi => ⟨W.heap.size, 0, rfl, ?_⟩⟩
  obtain rfl : i = 0 := by simp at hi; omega
  simp
theorem Ints.build2 (W : World) (x y : Int) : Ints (W.alloc (.cells #[.int .i64 x, .int .i64 y] 3)) (.slice (some ⟨W.heap.size, 0, none⟩) 2 2) [x, y] := by
  refine ⟨_, 2, rfl, Nat.le_refl _, by unfold maxLen; omega, nofun, fun i hi => ⟨W.heap.size, 0, rfl, ?_⟩⟩
  have : i = 0 ∨ i = 1 := by simp at hi; omega
  rcases this with rfl | rfl <;> simp

end Go.Proofs.Ytpkadofgmhninaa
namespace Go.Proofs.Ytpkadofgmhninaa
open Go.RowKit

/-- The place of the first of n for which something holds, as Go tells it. -/
def foundAt (n m : Nat) : Int := if m < n then (m : Int) else -1
theorem foundAt_lt {n m : Nat} (h : m < n) : foundAt n m = m := if_pos h
theorem foundAt_ge {n m : Nat} (h : ¬ m < n) : foundAt n m = -1 := if_neg h

set_option maxHeartbeats 400000 in
theorem idxFunc_int (g : FuncId) (lb : Array Value) (eg : ∀ args w, (callFunc g args).run Try.prog w = .ok (.enter g args) w)
    (a : Option Addr) (n c : Nat) (x : Nat → Int) (p : Nat → Bool) (J : Nat → World → Prop) (hn : n ≤ maxLen)
    (hread : ∀ k W, k < n → J k W → ∃ b off, a = some ⟨b, off, none⟩ ∧ W.cell? ⟨b, off + k, none⟩ = some (.int .i64 (x k)))
    (hf : ∀ k W, k < n → J k W → Calls Try.prog g (#[.int .i64 (x k)] ++ lb) W fun e W' => e = .returned (.bool (p k)) ∧ J (k + 1) W')
    (w : World) (h0 : J 0 w) :
    Calls Try.prog 108 #[.slice a n c, .func (.func g) #[] lb] w fun e w' => ∃ m, m ≤ n ∧ e = .returned (.int .i64 (foundAt n m)) ∧ (∀ i, i < m → p i = false) ∧ (m < n → p m = true) ∧ J (if m < n then m + 1 else m) w' := by
  unfold maxLen at hn
  go_enter Try.func108, Try.ntmps108
  go_wp2
  go_loopw [5, 8] (fun _ i wr => ∃ k : Nat, k ≤ n ∧ i = .int .i64 k ∧ (∀ i, i < k → p i = false) ∧ J k wr) (fun _ i _ => n - (intOf i).toNat)
  case atStart => exact ⟨0, Nat.zero_le _, rfl, fun _ h => absurd h (Nat.not_lt_zero _), h0⟩
  case round =>
    obtain ⟨k, hk, rfl, hh, hJ⟩ := hrel
    have Hh := Lib.hid hh
    clear hh
    by_cases hlt : k < n
    · obtain ⟨b, off, rfl, hcell⟩ := hread k wr hlt hJ
      skip
      have hc := hf k wr hlt hJ
      have HJ := Lib.hid hJ
      clear hJ hread hf
      cases hp : p k
      · have Hp := Lib.hid hp
        rw [hp] at hc
        clear hp
        go_wp2_with (refine hc.mono ?_; rintro e w1 ⟨rfl, hJ1⟩; have HJ1 := Lib.hid hJ1; clear hJ1)
        go_roundw
        case rel =>
          refine ⟨k + 1, by omega, by go_num, ?_, HJ1.out⟩
          intro i hi
          by_cases e : i = k
          · subst e; exact Hp.out
          · exact Hh.out i (by omega)
        case measure => simp [intOf]; omega
      · have Hp := Lib.hid hp
        rw [hp] at hc
        clear hp
        go_wp2_with (refine hc.mono ?_; rintro e w1 ⟨rfl, hJ1⟩; have HJ1 := Lib.hid hJ1; clear hJ1)
        go_ret
        exact ⟨k, by omega, ret_int (foundAt_lt hlt).symm, Hh.out, fun _ => Hp.out, by rw [if_pos hlt]; exact HJ1.out⟩
    · have hk' : ¬ k < n := hlt
      have HJ := Lib.hid hJ
      clear hJ hread hf
      go_wp2
      go_ret
      exact ⟨k, by omega, ret_int (foundAt_ge hk').symm, Hh.out, fun h => absurd h hk', by rw [if_neg hk']; exact HJ.out⟩

set_option maxHeartbeats 400000 in
theorem contFunc_int (g : FuncId) (lb : Array Value) (eg : ∀ args w, (callFunc g args).run Try.prog w = .ok (.enter g args) w)
    (a : Option Addr) (n c : Nat) (x : Nat → Int) (p : Nat → Bool) (J : Nat → World → Prop) (hn : n ≤ maxLen)
    (hread : ∀ k W, k < n → J k W → ∃ b off, a = some ⟨b, off, none⟩ ∧ W.cell? ⟨b, off + k, none⟩ = some (.int .i64 (x k)))
    (hf : ∀ k W, k < n → J k W → Calls Try.prog g (#[.int .i64 (x k)] ++ lb) W fun e W' => e = .returned (.bool (p k)) ∧ J (k + 1) W')
    (w : World) (h0 : J 0 w) :
    Calls Try.prog 100 #[.slice a n c, .func (.func g) #[] lb] w fun e w' => ∃ m, m ≤ n ∧ e = .returned (.bool (decide (m < n))) ∧ (∀ i, i < m → p i = false) ∧ (m < n → p m = true) ∧ J (if m < n then m + 1 else m) w' := by
  have hc := idxFunc_int g lb eg a n c x p J hn hread hf w h0
  clear hread hf h0
  go_enter Try.func100, Try.ntmps100
  go_wp2_with (go_at_call 108; refine hc.mono ?_; rintro e w1 ⟨m, hm, rfl, h1, h2, h3⟩; have H1 := Lib.hid h1; have H2 := Lib.hid h2; have H3 := Lib.hid h3; clear h1 h2 h3)
  go_ret
  refine ⟨m, hm, ?_, H1.out, H2.out, H3.out⟩
  by_cases e : m < n
  · rw [foundAt_lt e]; simp [e]
  · rw [foundAt_ge e]; simp [e]

set_option maxHeartbeats 400000 in
theorem idxFunc_ints (g : FuncId) (lb : Array Value) (eg : ∀ args w, (callFunc g args).run Try.prog w = .ok (.enter g args) w)
    (a : Option Addr) (n c : Nat) (x : Nat → Value) (p : Nat → Bool) (J : Nat → World → Prop) (hn : n ≤ maxLen)
    (hread : ∀ k W, k < n → J k W → ∃ b off, a = some ⟨b, off, none⟩ ∧ W.cell? ⟨b, off + k, none⟩ = some (x k))
    (hf : ∀ k W, k < n → J k W → Calls Try.prog g (#[x k] ++ lb) W fun e W' => e = .returned (.bool (p k)) ∧ J (k + 1) W')
    (w : World) (h0 : J 0 w) :
    Calls Try.prog 106 #[.slice a n c, .func (.func g) #[] lb] w fun e w' => ∃ m, m ≤ n ∧ e = .returned (.int .i64 (foundAt n m)) ∧ (∀ i, i < m → p i = false) ∧ (m < n → p m = true) ∧ J (if m < n then m + 1 else m) w' := by
  unfold maxLen at hn
  go_enter Try.func106, Try.ntmps106
  go_wp2
  go_loopw [5, 8] (fun _ i wr => ∃ k : Nat, k ≤ n ∧ i = .int .i64 k ∧ (∀ i, i < k → p i = false) ∧ J k wr) (fun _ i _ => n - (intOf i).toNat)
  case atStart => exact ⟨0, Nat.zero_le _, rfl, fun _ h => absurd h (Nat.not_lt_zero _), h0⟩
  case round =>
    obtain ⟨k, hk, rfl, hh, hJ⟩ := hrel
    have Hh := Lib.hid hh
    clear hh
    by_cases hlt : k < n
    · obtain ⟨b, off, rfl, hcell⟩ := hread k wr hlt hJ
      skip
      have hc := hf k wr hlt hJ
      have HJ := Lib.hid hJ
      clear hJ hread hf
      cases hp : p k
      · have Hp := Lib.hid hp
        rw [hp] at hc
        clear hp
        go_wp2_with (refine hc.mono ?_; rintro e w1 ⟨rfl, hJ1⟩; have HJ1 := Lib.hid hJ1; clear hJ1)
        go_roundw
        case rel =>
          refine ⟨k + 1, by omega, by go_num, ?_, HJ1.out⟩
          intro i hi
          by_cases e : i = k
          · subst e; exact Hp.out
          · exact Hh.out i (by omega)
        case measure => simp [intOf]; omega
      · have Hp := Lib.hid hp
        rw [hp] at hc
        clear hp
        go_wp2_with (refine hc.mono ?_; rintro e w1 ⟨rfl, hJ1⟩; have HJ1 := Lib.hid hJ1; clear hJ1)
        go_ret
        exact ⟨k, by omega, ret_int (foundAt_lt hlt).symm, Hh.out, fun _ => Hp.out, by rw [if_pos hlt]; exact HJ1.out⟩
    · have hk' : ¬ k < n := hlt
      have HJ := Lib.hid hJ
      clear hJ hread hf
      go_wp2
      go_ret
      exact ⟨k, by omega, ret_int (foundAt_ge hk').symm, Hh.out, fun h => absurd h hk', by rw [if_neg hk']; exact HJ.out⟩

set_option maxHeartbeats 400000 in
theorem idxFunc_plan (g : FuncId) (lb : Array Value) (eg : ∀ args w, (callFunc g args).run Try.prog w = .ok (.enter g args) w)
    (a : Option Addr) (n c : Nat) (x : Nat → Value) (p : Nat → Bool) (J : Nat → World → Prop) (hn : n ≤ maxLen)
    (hread : ∀ k W, k < n → J k W → ∃ b off, a = some ⟨b, off, none⟩ ∧ W.cell? ⟨b, off + k, none⟩ = some (x k))
    (hf : ∀ k W, k < n → J k W → Calls Try.prog g (#[x k] ++ lb) W fun e W' => e = .returned (.bool (p k)) ∧ J (k + 1) W')
    (w : World) (h0 : J 0 w) :
    Calls Try.prog 97 #[.slice a n c, .func (.func g) #[] lb] w fun e w' => ∃ m, m ≤ n ∧ e = .returned (.int .i64 (foundAt n m)) ∧ (∀ i, i < m → p i = false) ∧ (m < n → p m = true) ∧ J (if m < n then m + 1 else m) w' := by
  unfold maxLen at hn
  go_enter Try.func97, Try.ntmps97
  go_wp2
  go_loopw [5, 8] (fun _ i wr => ∃ k : Nat, k ≤ n ∧ i = .int .i64 k ∧ (∀ i, i < k → p i = false) ∧ J k wr) (fun _ i _ => n - (intOf i).toNat)
  case atStart => exact ⟨0, Nat.zero_le _, rfl, fun _ h => absurd h (Nat.not_lt_zero _), h0⟩
  case round =>
    obtain ⟨k, hk, rfl, hh, hJ⟩ := hrel
    have Hh := Lib.hid hh
    clear hh
    by_cases hlt : k < n
    · obtain ⟨b, off, rfl, hcell⟩ := hread k wr hlt hJ
      skip
      have hc := hf k wr hlt hJ
      have HJ := Lib.hid hJ
      clear hJ hread hf
      cases hp : p k
      · have Hp := Lib.hid hp
        rw [hp] at hc
        clear hp
        go_wp2_with (refine hc.mono ?_; rintro e w1 ⟨rfl, hJ1⟩; have HJ1 := Lib.hid hJ1; clear hJ1)
        go_roundw
        case rel =>
          refine ⟨k + 1, by omega, by go_num, ?_, HJ1.out⟩
          intro i hi
          by_cases e : i = k
          · subst e; exact Hp.out
          · exact Hh.out i (by omega)
        case measure => simp [intOf]; omega
      · have Hp := Lib.hid hp
        rw [hp] at hc
        clear hp
        go_wp2_with (refine hc.mono ?_; rintro e w1 ⟨rfl, hJ1⟩; have HJ1 := Lib.hid hJ1; clear hJ1)
        go_ret
        exact ⟨k, by omega, ret_int (foundAt_lt hlt).symm, Hh.out, fun _ => Hp.out, by rw [if_pos hlt]; exact HJ1.out⟩
    · have hk' : ¬ k < n := hlt
      have HJ := Lib.hid hJ
      clear hJ hread hf
      go_wp2
      go_ret
      exact ⟨k, by omega, ret_int (foundAt_ge hk').symm, Hh.out, fun h => absurd h hk', by rw [if_neg hk']; exact HJ.out⟩

set_option maxHeartbeats 400000 in
theorem contFunc_plan (g : FuncId) (lb : Array Value) (eg : ∀ args w, (callFunc g args).run Try.prog w = .ok (.enter g args) w)
    (a : Option Addr) (n c : Nat) (x : Nat → Value) (p : Nat → Bool) (J : Nat → World → Prop) (hn : n ≤ maxLen)
    (hread : ∀ k W, k < n → J k W → ∃ b off, a = some ⟨b, off, none⟩ ∧ W.cell? ⟨b, off + k, none⟩ = some (x k))
    (hf : ∀ k W, k < n → J k W → Calls Try.prog g (#[x k] ++ lb) W fun e W' => e = .returned (.bool (p k)) ∧ J (k + 1) W')
    (w : World) (h0 : J 0 w) :
    Calls Try.prog 80 #[.slice a n c, .func (.func g) #[] lb] w fun e w' => ∃ m, m ≤ n ∧ e = .returned (.bool (decide (m < n))) ∧ (∀ i, i < m → p i = false) ∧ (m < n → p m = true) ∧ J (if m < n then m + 1 else m) w' := by
  have hc := idxFunc_plan g lb eg a n c x p J hn hread hf w h0
  clear hread hf h0
  go_enter Try.func80, Try.ntmps80
  go_wp2_with (go_at_call 97; refine hc.mono ?_; rintro e w1 ⟨m, hm, rfl, h1, h2, h3⟩; have H1 := Lib.hid h1; have H2 := Lib.hid h2; have H3 := Lib.hid h3; clear h1 h2 h3)
  go_ret
  refine ⟨m, hm, ?_, H1.out, H2.out, H3.out⟩
  by_cases e : m < n
  · rw [foundAt_lt e]; simp [e]
  · rw [foundAt_ge e]; simp [e]

set_option maxHeartbeats 400000 in
theorem idxFunc_pair (g : FuncId) (lb : Array Value) (eg : ∀ args w, (callFunc g args).run Try.prog w = .ok (.enter g args) w)
    (a : Option Addr) (n c : Nat) (x y : Nat → Int) (p : Nat → Bool) (J : Nat → World → Prop) (hn : n ≤ maxLen)
    (hread : ∀ k W, k < n → J k W → ∃ b off, a = some ⟨b, off, none⟩ ∧ W.cell? ⟨b, off + k * 2, none⟩ = some (.int .i64 (x k)) ∧ W.cell? ⟨b, off + k * 2 + 1, none⟩ = some (.int .i64 (y k)))
    (hf : ∀ k W, k < n → J k W → Calls Try.prog g (#[.agg #[.int .i64 (x k), .int .i64 (y k)]] ++ lb) W fun e W' => e = .returned (.bool (p k)) ∧ J (k + 1) W')
    (w : World) (h0 : J 0 w) :
    Calls Try.prog 98 #[.slice a n c, .func (.func g) #[] lb] w fun e w' => ∃ m, m ≤ n ∧ e = .returned (.int .i64 (foundAt n m)) ∧ (∀ i, i < m → p i = false) ∧ (m < n → p m = true) ∧ J (if m < n then m + 1 else m) w' := by
  unfold maxLen at hn
  go_enter Try.func98, Try.ntmps98
  go_wp2
  go_loopw [5, 8] (fun _ i wr => ∃ k : Nat, k ≤ n ∧ i = .int .i64 k ∧ (∀ i, i < k → p i = false) ∧ J k wr) (fun _ i _ => n - (intOf i).toNat)
  case atStart => exact ⟨0, Nat.zero_le _, rfl, fun _ h => absurd h (Nat.not_lt_zero _), h0⟩
  case round =>
    obtain ⟨k, hk, rfl, hh, hJ⟩ := hrel
    have Hh := Lib.hid hh
    clear hh
    by_cases hlt : k < n
    · obtain ⟨b, off, rfl, hcell⟩ := hread k wr hlt hJ
      obtain ⟨hc0, hc1⟩ := hcell
      have hc := hf k wr hlt hJ
      have HJ := Lib.hid hJ
      clear hJ hread hf
      cases hp : p k
      · have Hp := Lib.hid hp
        rw [hp] at hc
        clear hp
        go_wp2_with (refine hc.mono ?_; rintro e w1 ⟨rfl, hJ1⟩; have HJ1 := Lib.hid hJ1; clear hJ1)
        go_roundw
        case rel =>
          refine ⟨k + 1, by omega, by go_num, ?_, HJ1.out⟩
          intro i hi
          by_cases e : i = k
          · subst e; exact Hp.out
          · exact Hh.out i (by omega)
        case measure => simp [intOf]; omega
      · have Hp := Lib.hid hp
        rw [hp] at hc
        clear hp
        go_wp2_with (refine hc.mono ?_; rintro e w1 ⟨rfl, hJ1⟩; have HJ1 := Lib.hid hJ1; clear hJ1)
        go_ret
        exact ⟨k, by omega, ret_int (foundAt_lt hlt).symm, Hh.out, fun _ => Hp.out, by rw [if_pos hlt]; exact HJ1.out⟩
    · have hk' : ¬ k < n := hlt
      have HJ := Lib.hid hJ
      clear hJ hread hf
      go_wp2
      go_ret
      exact ⟨k, by omega, ret_int (foundAt_ge hk').symm, Hh.out, fun h => absurd h hk', by rw [if_neg hk']; exact HJ.out⟩

set_option maxHeartbeats 400000 in
theorem contFunc_pair (g : FuncId) (lb : Array Value) (eg : ∀ args w, (callFunc g args).run Try.prog w = .ok (.enter g args) w)
    (a : Option Addr) (n c : Nat) (x y : Nat → Int) (p : Nat → Bool) (J : Nat → World → Prop) (hn : n ≤ maxLen)
    (hread : ∀ k W, k < n → J k W → ∃ b off, a = some ⟨b, off, none⟩ ∧ W.cell? ⟨b, off + k * 2, none⟩ = some (.int .i64 (x k)) ∧ W.cell? ⟨b, off + k * 2 + 1, none⟩ = some (.int .i64 (y k)))
    (hf : ∀ k W, k < n → J k W → Calls Try.prog g (#[.agg #[.int .i64 (x k), .int .i64 (y k)]] ++ lb) W fun e W' => e = .returned (.bool (p k)) ∧ J (k + 1) W')
    (w : World) (h0 : J 0 w) :
    Calls Try.prog 85 #[.slice a n c, .func (.func g) #[] lb] w fun e w' => ∃ m, m ≤ n ∧ e = .returned (.bool (decide (m < n))) ∧ (∀ i, i < m → p i = false) ∧ (m < n → p m = true) ∧ J (if m < n then m + 1 else m) w' := by
  have hc := idxFunc_pair g lb eg a n c x y p J hn hread hf w h0
  clear hread hf h0
  go_enter Try.func85, Try.ntmps85
  go_wp2_with (go_at_call 98; refine hc.mono ?_; rintro e w1 ⟨m, hm, rfl, h1, h2, h3⟩; have H1 := Lib.hid h1; have H2 := Lib.hid h2; have H3 := Lib.hid h3; clear h1 h2 h3)
  go_ret
  refine ⟨m, hm, ?_, H1.out, H2.out, H3.out⟩
  by_cases e : m < n
  · rw [foundAt_lt e]; simp [e]
  · rw [foundAt_ge e]; simp [e]

set_option maxHeartbeats 400000 in
theorem idxFunc_paint (g : FuncId) (lb : Array Value) (eg : ∀ args w, (callFunc g args).run Try.prog w = .ok (.enter g args) w)
    (a : Option Addr) (n c : Nat) (x : Nat → Nat → Int) (p : Nat → Bool) (J : Nat → World → Prop) (hn : n ≤ maxLen)
    (hread : ∀ k W, k < n → J k W → ∃ b off, a = some ⟨b, off, none⟩ ∧ W.cell? ⟨b, off + k * 6, none⟩ = some (.int .i64 (x k 0)) ∧ W.cell? ⟨b, off + k * 6 + 1, none⟩ = some (.int .i64 (x k 1)) ∧ W.cell? ⟨b, off + k * 6 + 2, none⟩ = some (.int .i64 (x k 2)) ∧ W.cell? ⟨b, off + k * 6 + 3, none⟩ = some (.int .i64 (x k 3)) ∧ W.cell? ⟨b, off + k * 6 + 4, none⟩ = some (.int .i64 (x k 4)) ∧ W.cell? ⟨b, off + k * 6 + 5, none⟩ = some (.int .i64 (x k 5)))
    (hf : ∀ k W, k < n → J k W → Calls Try.prog g (#[.agg #[.int .i64 (x k 0), .int .i64 (x k 1), .int .i64 (x k 2), .int .i64 (x k 3), .int .i64 (x k 4), .int .i64 (x k 5)]] ++ lb) W fun e W' => e = .returned (.bool (p k)) ∧ J (k + 1) W')
    (w : World) (h0 : J 0 w) :
    Calls Try.prog 105 #[.slice a n c, .func (.func g) #[] lb] w fun e w' => ∃ m, m ≤ n ∧ e = .returned (.int .i64 (foundAt n m)) ∧ (∀ i, i < m → p i = false) ∧ (m < n → p m = true) ∧ J (if m < n then m + 1 else m) w' := by
  unfold maxLen at hn
  go_enter Try.func105, Try.ntmps105
  go_wp2
  go_loopw [5, 8] (fun _ i wr => ∃ k : Nat, k ≤ n ∧ i = .int .i64 k ∧ (∀ i, i < k → p i = false) ∧ J k wr) (fun _ i _ => n - (intOf i).toNat)
  case atStart => exact ⟨0, Nat.zero_le _, rfl, fun _ h => absurd h (Nat.not_lt_zero _), h0⟩
  case round =>
    obtain ⟨k, hk, rfl, hh, hJ⟩ := hrel
    have Hh := Lib.hid hh
    clear hh
    by_cases hlt : k < n
    · obtain ⟨b, off, rfl, hcell⟩ := hread k wr hlt hJ
      obtain ⟨hc0, hc1, hc2, hc3, hc4, hc5⟩ := hcell
      have hc := hf k wr hlt hJ
      have HJ := Lib.hid hJ
      clear hJ hread hf
      cases hp : p k
      · have Hp := Lib.hid hp
        rw [hp] at hc
        clear hp
        go_wp2_with (refine hc.mono ?_; rintro e w1 ⟨rfl, hJ1⟩; have HJ1 := Lib.hid hJ1; clear hJ1)
        go_roundw
        case rel =>
          refine ⟨k + 1, by omega, by go_num, ?_, HJ1.out⟩
          intro i hi
          by_cases e : i = k
          · subst e; exact Hp.out
          · exact Hh.out i (by omega)
        case measure => simp [intOf]; omega
      · have Hp := Lib.hid hp
        rw [hp] at hc
        clear hp
        go_wp2_with (refine hc.mono ?_; rintro e w1 ⟨rfl, hJ1⟩; have HJ1 := Lib.hid hJ1; clear hJ1)
        go_ret
        exact ⟨k, by omega, ret_int (foundAt_lt hlt).symm, Hh.out, fun _ => Hp.out, by rw [if_pos hlt]; exact HJ1.out⟩
    · have hk' : ¬ k < n := hlt
      have HJ := Lib.hid hJ
      clear hJ hread hf
      go_wp2
      go_ret
      exact ⟨k, by omega, ret_int (foundAt_ge hk').symm, Hh.out, fun h => absurd h hk', by rw [if_neg hk']; exact HJ.out⟩

set_option maxHeartbeats 400000 in
theorem contFunc_paint (g : FuncId) (lb : Array Value) (eg : ∀ args w, (callFunc g args).run Try.prog w = .ok (.enter g args) w)
    (a : Option Addr) (n c : Nat) (x : Nat → Nat → Int) (p : Nat → Bool) (J : Nat → World → Prop) (hn : n ≤ maxLen)
    (hread : ∀ k W, k < n → J k W → ∃ b off, a = some ⟨b, off, none⟩ ∧ W.cell? ⟨b, off + k * 6, none⟩ = some (.int .i64 (x k 0)) ∧ W.cell? ⟨b, off + k * 6 + 1, none⟩ = some (.int .i64 (x k 1)) ∧ W.cell? ⟨b, off + k * 6 + 2, none⟩ = some (.int .i64 (x k 2)) ∧ W.cell? ⟨b, off + k * 6 + 3, none⟩ = some (.int .i64 (x k 3)) ∧ W.cell? ⟨b, off + k * 6 + 4, none⟩ = some (.int .i64 (x k 4)) ∧ W.cell? ⟨b, off + k * 6 + 5, none⟩ = some (.int .i64 (x k 5)))
    (hf : ∀ k W, k < n → J k W → Calls Try.prog g (#[.agg #[.int .i64 (x k 0), .int .i64 (x k 1), .int .i64 (x k 2), .int .i64 (x k 3), .int .i64 (x k 4), .int .i64 (x k 5)]] ++ lb) W fun e W' => e = .returned (.bool (p k)) ∧ J (k + 1) W')
    (w : World) (h0 : J 0 w) :
    Calls Try.prog 93 #[.slice a n c, .func (.func g) #[] lb] w fun e w' => ∃ m, m ≤ n ∧ e = .returned (.bool (decide (m < n))) ∧ (∀ i, i < m → p i = false) ∧ (m < n → p m = true) ∧ J (if m < n then m + 1 else m) w' := by
  have hc := idxFunc_paint g lb eg a n c x p J hn hread hf w h0
  clear hread hf h0
  go_enter Try.func93, Try.ntmps93
  go_wp2_with (go_at_call 105; refine hc.mono ?_; rintro e w1 ⟨m, hm, rfl, h1, h2, h3⟩; have H1 := Lib.hid h1; have H2 := Lib.hid h2; have H3 := Lib.hid h3; clear h1 h2 h3)
  go_ret
  refine ⟨m, hm, ?_, H1.out, H2.out, H3.out⟩
  by_cases e : m < n
  · rw [foundAt_lt e]; simp [e]
  · rw [foundAt_ge e]; simp [e]

end Go.Proofs.Ytpkadofgmhninaa
namespace Go.Proofs.Ytpkadofgmhninaa
open Go.RowKit

theorem not_all {n m : Nat} {q : Nat → Bool} (hm : m ≤ n) (h1 : ∀ i, i < m → (!q i) = false) (h2 : m < n → (!q m) = true) : (!decide (m < n)) = decide (∀ i, i < n → q i = true) := by
  by_cases e : m < n
  · simp only [e, decide_true, Bool.not_true]
    symm; rw [decide_eq_false_iff_not]
    intro h
    have := h m e
    have := h2 e
    simp_all
  · simp only [e, decide_false, Bool.not_false]
    symm; rw [decide_eq_true_iff]
    intro i hi
    have := h1 i (by omega)
    simpa using this

set_option maxHeartbeats 400000 in
theorem every1_int (g : FuncId) (lb : Array Value) (eg : ∀ args w, (callFunc g args).run Try.prog w = .ok (.enter g args) w) (x : Int) (q : Bool) (B : Nat) (R : World → Prop) (W : World)
    (hb : Boxed W B 151 (.func (.func g) #[] lb))
    (hf : ∀ W1, Bel W W1 → Calls Try.prog g (#[.int .i64 x] ++ lb) W1 fun e W' => e = .returned (.bool q) ∧ R W') :
    Calls Try.prog 101 #[.int .i64 x, .pointer (some ⟨B, 0, none⟩)] W fun e W' => e = .returned (.bool (!q)) ∧ R W' := by
  have hc := hb.cell
  have hlt := hb.lt
  have hf' := hf W (Bel.refl W)
  clear hf
  go_enter Try.func101, Try.ntmps101
  go_wp2_with (refine hf'.mono ?_; rintro e w1 ⟨rfl, hR⟩; have HR := Lib.hid hR; clear hR)
  go_ret
  exact ⟨rfl, HR.out⟩

set_option maxHeartbeats 400000 in
theorem every_int (g : FuncId) (lb : Array Value) (eg : ∀ args w, (callFunc g args).run Try.prog w = .ok (.enter g args) w)
    (a : Option Addr) (n c : Nat) (x : Nat → Int) (q : Nat → Bool) (J : Nat → World → Prop) (hn : n ≤ maxLen) (w : World)
    (hJ : ∀ k A B, J k A → Bel A B → J k B)
    (hread : ∀ k W, k < n → J k W → ∃ b off, a = some ⟨b, off, none⟩ ∧ W.cell? ⟨b, off + k, none⟩ = some (.int .i64 (x k)))
    (hf : ∀ k W, k < n → J k W → Calls Try.prog g (#[.int .i64 (x k)] ++ lb) W fun e W' => e = .returned (.bool (q k)) ∧ J (k + 1) W' ∧ KeepFrom w.heap.size W W')
    (h0 : J 0 w) :
    Calls Try.prog 88 #[.slice a n c, .func (.func g) #[] lb] w fun e w' => e = .returned (.bool (decide (∀ i, i < n → q i = true))) ∧ ∃ k, J k w' := by
  have hB0 : Bel w (w.alloc (.cells #[.func (.func g) #[] lb] 151)) := (Bel.refl w).alloc _
  have hbx := Boxed.new w 151 (.func (.func g) #[] lb)
  have hc := contFunc_int 101 #[.pointer (some ⟨w.heap.size, 0, none⟩)] (enters_of Try.func101 (by kernel_rfl) rfl) a n c x (fun k => !q k)
    (fun k W => J k W ∧ Boxed W w.heap.size 151 (.func (.func g) #[] lb)) hn (fun k W hk h => hread k W hk h.1)
    (fun k W hk h => by
      refine every1_int g lb eg (x k) (q k) w.heap.size (fun W' => J (k + 1) W' ∧ Boxed W' w.heap.size 151 (.func (.func g) #[] lb)) W h.2 (fun W1 h1 => ?_)
      exact (hf k W1 hk (hJ k _ _ h.1 h1)).mono (fun e W' ⟨he, hj, hk'⟩ => ⟨he, hj, hk'.boxed (Nat.le_refl _) (h1.boxed h.2)⟩))
    _ ⟨hJ 0 _ _ h0 hB0, hbx⟩
  clear hread hf h0 hJ hB0 hbx
  go_enter Try.func88, Try.ntmps88
  go_wp2_with (go_at_call 100; refine hc.mono ?_; rintro e w1 ⟨m, hm, rfl, h1, h2, h3⟩; have H1 := Lib.hid h1; have H2 := Lib.hid h2; have H3 := Lib.hid h3; clear h1 h2 h3)
  go_ret
  exact ⟨ret_bool (not_all hm H1.out H2.out), _, H3.out.1⟩

set_option maxHeartbeats 400000 in
theorem every1_plan (g : FuncId) (lb : Array Value) (eg : ∀ args w, (callFunc g args).run Try.prog w = .ok (.enter g args) w) (x : Value) (q : Bool) (B : Nat) (R : World → Prop) (W : World)
    (hb : Boxed W B 115 (.func (.func g) #[] lb))
    (hf : ∀ W1, Bel W W1 → Calls Try.prog g (#[x] ++ lb) W1 fun e W' => e = .returned (.bool q) ∧ R W') :
    Calls Try.prog 81 #[x, .pointer (some ⟨B, 0, none⟩)] W fun e W' => e = .returned (.bool (!q)) ∧ R W' := by
  have hc := hb.cell
  have hlt := hb.lt
  have hf' := hf W (Bel.refl W)
  clear hf
  go_enter Try.func81, Try.ntmps81
  go_wp2_with (refine hf'.mono ?_; rintro e w1 ⟨rfl, hR⟩; have HR := Lib.hid hR; clear hR)
  go_ret
  exact ⟨rfl, HR.out⟩

set_option maxHeartbeats 400000 in
theorem every_plan (g : FuncId) (lb : Array Value) (eg : ∀ args w, (callFunc g args).run Try.prog w = .ok (.enter g args) w)
    (a : Option Addr) (n c : Nat) (x : Nat → Value) (q : Nat → Bool) (J : Nat → World → Prop) (hn : n ≤ maxLen) (w : World)
    (hJ : ∀ k A B, J k A → Bel A B → J k B)
    (hread : ∀ k W, k < n → J k W → ∃ b off, a = some ⟨b, off, none⟩ ∧ W.cell? ⟨b, off + k, none⟩ = some (x k))
    (hf : ∀ k W, k < n → J k W → Calls Try.prog g (#[x k] ++ lb) W fun e W' => e = .returned (.bool (q k)) ∧ J (k + 1) W' ∧ KeepFrom w.heap.size W W')
    (h0 : J 0 w) :
    Calls Try.prog 52 #[.slice a n c, .func (.func g) #[] lb] w fun e w' => e = .returned (.bool (decide (∀ i, i < n → q i = true))) ∧ ∃ k, J k w' := by
  have hB0 : Bel w (w.alloc (.cells #[.func (.func g) #[] lb] 115)) := (Bel.refl w).alloc _
  have hbx := Boxed.new w 115 (.func (.func g) #[] lb)
  have hc := contFunc_plan 81 #[.pointer (some ⟨w.heap.size, 0, none⟩)] (enters_of Try.func81 (by kernel_rfl) rfl) a n c x (fun k => !q k)
    (fun k W => J k W ∧ Boxed W w.heap.size 115 (.func (.func g) #[] lb)) hn (fun k W hk h => hread k W hk h.1)
    (fun k W hk h => by
      refine every1_plan g lb eg (x k) (q k) w.heap.size (fun W' => J (k + 1) W' ∧ Boxed W' w.heap.size 115 (.func (.func g) #[] lb)) W h.2 (fun W1 h1 => ?_)
      exact (hf k W1 hk (hJ k _ _ h.1 h1)).mono (fun e W' ⟨he, hj, hk'⟩ => ⟨he, hj, hk'.boxed (Nat.le_refl _) (h1.boxed h.2)⟩))
    _ ⟨hJ 0 _ _ h0 hB0, hbx⟩
  clear hread hf h0 hJ hB0 hbx
  go_enter Try.func52, Try.ntmps52
  go_wp2_with (go_at_call 80; refine hc.mono ?_; rintro e w1 ⟨m, hm, rfl, h1, h2, h3⟩; have H1 := Lib.hid h1; have H2 := Lib.hid h2; have H3 := Lib.hid h3; clear h1 h2 h3)
  go_ret
  exact ⟨ret_bool (not_all hm H1.out H2.out), _, H3.out.1⟩

set_option maxHeartbeats 400000 in
theorem every1_pair (g : FuncId) (lb : Array Value) (eg : ∀ args w, (callFunc g args).run Try.prog w = .ok (.enter g args) w) (x y : Int) (q : Bool) (B : Nat) (R : World → Prop) (W : World)
    (hb : Boxed W B 141 (.func (.func g) #[] lb))
    (hf : ∀ W1, Bel W W1 → Calls Try.prog g (#[.agg #[.int .i64 x, .int .i64 y]] ++ lb) W1 fun e W' => e = .returned (.bool q) ∧ R W') :
    Calls Try.prog 96 #[.agg #[.int .i64 x, .int .i64 y], .pointer (some ⟨B, 0, none⟩)] W fun e W' => e = .returned (.bool (!q)) ∧ R W' := by
  have hc := hb.cell
  have hlt := hb.lt
  have hf' := hf _ ((Bel.refl W).alloc (.cells #[.int .i64 x, .int .i64 y] 85))
  clear hf
  go_enter Try.func96, Try.ntmps96
  go_wp2_with (refine hf'.mono ?_; rintro e w1 ⟨rfl, hR⟩; have HR := Lib.hid hR; clear hR)
  go_ret
  exact ⟨rfl, HR.out⟩

set_option maxHeartbeats 400000 in
theorem every_pair (g : FuncId) (lb : Array Value) (eg : ∀ args w, (callFunc g args).run Try.prog w = .ok (.enter g args) w)
    (a : Option Addr) (n c : Nat) (x y : Nat → Int) (q : Nat → Bool) (J : Nat → World → Prop) (hn : n ≤ maxLen) (w : World)
    (hJ : ∀ k A B, J k A → Bel A B → J k B)
    (hread : ∀ k W, k < n → J k W → ∃ b off, a = some ⟨b, off, none⟩ ∧ W.cell? ⟨b, off + k * 2, none⟩ = some (.int .i64 (x k)) ∧ W.cell? ⟨b, off + k * 2 + 1, none⟩ = some (.int .i64 (y k)))
    (hf : ∀ k W, k < n → J k W → Calls Try.prog g (#[.agg #[.int .i64 (x k), .int .i64 (y k)]] ++ lb) W fun e W' => e = .returned (.bool (q k)) ∧ J (k + 1) W' ∧ KeepFrom w.heap.size W W')
    (h0 : J 0 w) :
    Calls Try.prog 77 #[.slice a n c, .func (.func g) #[] lb] w fun e w' => e = .returned (.bool (decide (∀ i, i < n → q i = true))) ∧ ∃ k, J k w' := by
  have hB0 : Bel w (w.alloc (.cells #[.func (.func g) #[] lb] 141)) := (Bel.refl w).alloc _
  have hbx := Boxed.new w 141 (.func (.func g) #[] lb)
  have hc := contFunc_pair 96 #[.pointer (some ⟨w.heap.size, 0, none⟩)] (enters_of Try.func96 (by kernel_rfl) rfl) a n c x y (fun k => !q k)
    (fun k W => J k W ∧ Boxed W w.heap.size 141 (.func (.func g) #[] lb)) hn (fun k W hk h => hread k W hk h.1)
    (fun k W hk h => by
      refine every1_pair g lb eg (x k) (y k) (q k) w.heap.size (fun W' => J (k + 1) W' ∧ Boxed W' w.heap.size 141 (.func (.func g) #[] lb)) W h.2 (fun W1 h1 => ?_)
      exact (hf k W1 hk (hJ k _ _ h.1 h1)).mono (fun e W' ⟨he, hj, hk'⟩ => ⟨he, hj, hk'.boxed (Nat.le_refl _) (h1.boxed h.2)⟩))
    _ ⟨hJ 0 _ _ h0 hB0, hbx⟩
  clear hread hf h0 hJ hB0 hbx
  go_enter Try.func77, Try.ntmps77
  go_wp2_with (go_at_call 85; refine hc.mono ?_; rintro e w1 ⟨m, hm, rfl, h1, h2, h3⟩; have H1 := Lib.hid h1; have H2 := Lib.hid h2; have H3 := Lib.hid h3; clear h1 h2 h3)
  go_ret
  exact ⟨ret_bool (not_all hm H1.out H2.out), _, H3.out.1⟩

set_option maxHeartbeats 400000 in
theorem every1_paint (g : FuncId) (lb : Array Value) (eg : ∀ args w, (callFunc g args).run Try.prog w = .ok (.enter g args) w) (x : Nat → Int) (q : Bool) (B : Nat) (R : World → Prop) (W : World)
    (hb : Boxed W B 138 (.func (.func g) #[] lb))
    (hf : ∀ W1, Bel W W1 → Calls Try.prog g (#[.agg #[.int .i64 (x 0), .int .i64 (x 1), .int .i64 (x 2), .int .i64 (x 3), .int .i64 (x 4), .int .i64 (x 5)]] ++ lb) W1 fun e W' => e = .returned (.bool q) ∧ R W') :
    Calls Try.prog 94 #[.agg #[.int .i64 (x 0), .int .i64 (x 1), .int .i64 (x 2), .int .i64 (x 3), .int .i64 (x 4), .int .i64 (x 5)], .pointer (some ⟨B, 0, none⟩)] W fun e W' => e = .returned (.bool (!q)) ∧ R W' := by
  have hc := hb.cell
  have hlt := hb.lt
  have hf' := hf _ ((Bel.refl W).alloc (.cells #[.int .i64 (x 0), .int .i64 (x 1), .int .i64 (x 2), .int .i64 (x 3), .int .i64 (x 4), .int .i64 (x 5)] 56))
  clear hf
  go_enter Try.func94, Try.ntmps94
  go_wp2_with (refine hf'.mono ?_; rintro e w1 ⟨rfl, hR⟩; have HR := Lib.hid hR; clear hR)
  go_ret
  exact ⟨rfl, HR.out⟩

set_option maxHeartbeats 400000 in
theorem every_paint (g : FuncId) (lb : Array Value) (eg : ∀ args w, (callFunc g args).run Try.prog w = .ok (.enter g args) w)
    (a : Option Addr) (n c : Nat) (x : Nat → Nat → Int) (q : Nat → Bool) (J : Nat → World → Prop) (hn : n ≤ maxLen) (w : World)
    (hJ : ∀ k A B, J k A → Bel A B → J k B)
    (hread : ∀ k W, k < n → J k W → ∃ b off, a = some ⟨b, off, none⟩ ∧ W.cell? ⟨b, off + k * 6, none⟩ = some (.int .i64 (x k 0)) ∧ W.cell? ⟨b, off + k * 6 + 1, none⟩ = some (.int .i64 (x k 1)) ∧ W.cell? ⟨b, off + k * 6 + 2, none⟩ = some (.int .i64 (x k 2)) ∧ W.cell? ⟨b, off + k * 6 + 3, none⟩ = some (.int .i64 (x k 3)) ∧ W.cell? ⟨b, off + k * 6 + 4, none⟩ = some (.int .i64 (x k 4)) ∧ W.cell? ⟨b, off + k * 6 + 5, none⟩ = some (.int .i64 (x k 5)))
    (hf : ∀ k W, k < n → J k W → Calls Try.prog g (#[.agg #[.int .i64 (x k 0), .int .i64 (x k 1), .int .i64 (x k 2), .int .i64 (x k 3), .int .i64 (x k 4), .int .i64 (x k 5)]] ++ lb) W fun e W' => e = .returned (.bool (q k)) ∧ J (k + 1) W' ∧ KeepFrom w.heap.size W W')
    (h0 : J 0 w) :
    Calls Try.prog 75 #[.slice a n c, .func (.func g) #[] lb] w fun e w' => e = .returned (.bool (decide (∀ i, i < n → q i = true))) ∧ ∃ k, J k w' := by
  have hB0 : Bel w (w.alloc (.cells #[.func (.func g) #[] lb] 138)) := (Bel.refl w).alloc _
  have hbx := Boxed.new w 138 (.func (.func g) #[] lb)
  have hc := contFunc_paint 94 #[.pointer (some ⟨w.heap.size, 0, none⟩)] (enters_of Try.func94 (by kernel_rfl) rfl) a n c x (fun k => !q k)
    (fun k W => J k W ∧ Boxed W w.heap.size 138 (.func (.func g) #[] lb)) hn (fun k W hk h => hread k W hk h.1)
    (fun k W hk h => by
      refine every1_paint g lb eg (x k) (q k) w.heap.size (fun W' => J (k + 1) W' ∧ Boxed W' w.heap.size 138 (.func (.func g) #[] lb)) W h.2 (fun W1 h1 => ?_)
      exact (hf k W1 hk (hJ k _ _ h.1 h1)).mono (fun e W' ⟨he, hj, hk'⟩ => ⟨he, hj, hk'.boxed (Nat.le_refl _) (h1.boxed h.2)⟩))
    _ ⟨hJ 0 _ _ h0 hB0, hbx⟩
  clear hread hf h0 hJ hB0 hbx
  go_enter Try.func75, Try.ntmps75
  go_wp2_with (go_at_call 93; refine hc.mono ?_; rintro e w1 ⟨m, hm, rfl, h1, h2, h3⟩; have H1 := Lib.hid h1; have H2 := Lib.hid h2; have H3 := Lib.hid h3; clear h1 h2 h3)
  go_ret
  exact ⟨ret_bool (not_all hm H1.out H2.out), _, H3.out.1⟩

end Go.Proofs.Ytpkadofgmhninaa
