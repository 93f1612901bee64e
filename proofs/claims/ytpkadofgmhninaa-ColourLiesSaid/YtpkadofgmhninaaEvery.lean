/- 'every', at the four types of the seat. -/
import Derived.Test.YtpkadofgmhninaaFind
namespace Go.Proofs.Ytpkadofgmhninaa
open Go.RowKit

theorem not_all {n m : Nat} {q : Nat → Bool} (hm : m ≤ n) (h1 : ∀ i, i < m → (!q i) = false) (h2 : m < n → (!q m) = true) : (!decide (m < n)) = decide (∀ i, i < n → q i = true) := by
  by_cases e : m < n
  · simp only [e, decide_true, Bool.not_true]
    symm; rw [decide_eq_false_iff_not]
    intro h
    have := h m e
    have := h2 e
    simp_all
  · simp only [e, decide_false, Bool.not_false]
    symm; rw [decide_eq_true_iff]
    intro i hi
    have := h1 i (by omega)
    simpa using this

set_option maxHeartbeats 400000 in
theorem every1_int (g : FuncId) (lb : Array Value) (eg : ∀ args w, (callFunc g args).run Try.prog w = .ok (.enter g args) w) (x : Int) (q : Bool) (B : Nat) (R : World → Prop) (W : World)
    (hb : Boxed W B 151 (.func (.func g) #[] lb))
    (hf : ∀ W1, Bel W W1 → Calls Try.prog g (#[.int .i64 x] ++ lb) W1 fun e W' => e = .returned (.bool q) ∧ R W') :
    Calls Try.prog 101 #[.int .i64 x, .pointer (some ⟨B, 0, none⟩)] W fun e W' => e = .returned (.bool (!q)) ∧ R W' := by
  have hc := hb.cell
  have hlt := hb.lt
  have hf' := hf W (Bel.refl W)
  clear hf
  go_enter Try.func101, Try.ntmps101
  go_wp2_with (refine hf'.mono ?_; rintro e w1 ⟨rfl, hR⟩; have HR := Lib.hid hR; clear hR)
  go_ret
  exact ⟨rfl, HR.out⟩

set_option maxHeartbeats 400000 in
theorem every_int (g : FuncId) (lb : Array Value) (eg : ∀ args w, (callFunc g args).run Try.prog w = .ok (.enter g args) w)
    (a : Option Addr) (n c : Nat) (x : Nat → Int) (q : Nat → Bool) (J : Nat → World → Prop) (hn : n ≤ maxLen) (w : World)
    (hJ : ∀ k A B, J k A → Bel A B → J k B)
    (hread : ∀ k W, k < n → J k W → ∃ b off, a = some ⟨b, off, none⟩ ∧ W.cell? ⟨b, off + k, none⟩ = some (.int .i64 (x k)))
    (hf : ∀ k W, k < n → J k W → Calls Try.prog g (#[.int .i64 (x k)] ++ lb) W fun e W' => e = .returned (.bool (q k)) ∧ J (k + 1) W' ∧ KeepFrom w.heap.size W W')
    (h0 : J 0 w) :
    Calls Try.prog 88 #[.slice a n c, .func (.func g) #[] lb] w fun e w' => e = .returned (.bool (decide (∀ i, i < n → q i = true))) ∧ ∃ k, J k w' := by
  have hB0 : Bel w (w.alloc (.cells #[.func (.func g) #[] lb] 151)) := (Bel.refl w).alloc _
  have hbx := Boxed.new w 151 (.func (.func g) #[] lb)
  have hc := contFunc_int 101 #[.pointer (some ⟨w.heap.size, 0, none⟩)] (enters_of Try.func101 (by kernel_rfl) rfl) a n c x (fun k => !q k)
    (fun k W => J k W ∧ Boxed W w.heap.size 151 (.func (.func g) #[] lb)) hn (fun k W hk h => hread k W hk h.1)
    (fun k W hk h => by
      refine every1_int g lb eg (x k) (q k) w.heap.size (fun W' => J (k + 1) W' ∧ Boxed W' w.heap.size 151 (.func (.func g) #[] lb)) W h.2 (fun W1 h1 => ?_)
      exact (hf k W1 hk (hJ k _ _ h.1 h1)).mono (fun e W' ⟨he, hj, hk'⟩ => ⟨he, hj, hk'.boxed (Nat.le_refl _) (h1.boxed h.2)⟩))
    _ ⟨hJ 0 _ _ h0 hB0, hbx⟩
  clear hread hf h0 hJ hB0 hbx
  go_enter Try.func88, Try.ntmps88
  go_wp2_with (go_at_call 100; refine hc.mono ?_; rintro e w1 ⟨m, hm, rfl, h1, h2, h3⟩; have H1 := Lib.hid h1; have H2 := Lib.hid h2; have H3 := Lib.hid h3; clear h1 h2 h3)
  go_ret
  exact ⟨ret_bool (not_all hm H1.out H2.out), _, H3.out.1⟩

set_option maxHeartbeats 400000 in
theorem every1_plan (g : FuncId) (lb : Array Value) (eg : ∀ args w, (callFunc g args).run Try.prog w = .ok (.enter g args) w) (x : Value) (q : Bool) (B : Nat) (R : World → Prop) (W : World)
    (hb : Boxed W B 115 (.func (.func g) #[] lb))
    (hf : ∀ W1, Bel W W1 → Calls Try.prog g (#[x] ++ lb) W1 fun e W' => e = .returned (.bool q) ∧ R W') :
    Calls Try.prog 81 #[x, .pointer (some ⟨B, 0, none⟩)] W fun e W' => e = .returned (.bool (!q)) ∧ R W' := by
  have hc := hb.cell
  have hlt := hb.lt
  have hf' := hf W (Bel.refl W)
  clear hf
  go_enter Try.func81, Try.ntmps81
  go_wp2_with (refine hf'.mono ?_; rintro e w1 ⟨rfl, hR⟩; have HR := Lib.hid hR; clear hR)
  go_ret
  exact ⟨rfl, HR.out⟩

set_option maxHeartbeats 400000 in
theorem every_plan (g : FuncId) (lb : Array Value) (eg : ∀ args w, (callFunc g args).run Try.prog w = .ok (.enter g args) w)
    (a : Option Addr) (n c : Nat) (x : Nat → Value) (q : Nat → Bool) (J : Nat → World → Prop) (hn : n ≤ maxLen) (w : World)
    (hJ : ∀ k A B, J k A → Bel A B → J k B)
    (hread : ∀ k W, k < n → J k W → ∃ b off, a = some ⟨b, off, none⟩ ∧ W.cell? ⟨b, off + k, none⟩ = some (x k))
    (hf : ∀ k W, k < n → J k W → Calls Try.prog g (#[x k] ++ lb) W fun e W' => e = .returned (.bool (q k)) ∧ J (k + 1) W' ∧ KeepFrom w.heap.size W W')
    (h0 : J 0 w) :
    Calls Try.prog 52 #[.slice a n c, .func (.func g) #[] lb] w fun e w' => e = .returned (.bool (decide (∀ i, i < n → q i = true))) ∧ ∃ k, J k w' := by
  have hB0 : Bel w (w.alloc (.cells #[.func (.func g) #[] lb] 115)) := (Bel.refl w).alloc _
  have hbx := Boxed.new w 115 (.func (.func g) #[] lb)
  have hc := contFunc_plan 81 #[.pointer (some ⟨w.heap.size, 0, none⟩)] (enters_of Try.func81 (by kernel_rfl) rfl) a n c x (fun k => !q k)
    (fun k W => J k W ∧ Boxed W w.heap.size 115 (.func (.func g) #[] lb)) hn (fun k W hk h => hread k W hk h.1)
    (fun k W hk h => by
      refine every1_plan g lb eg (x k) (q k) w.heap.size (fun W' => J (k + 1) W' ∧ Boxed W' w.heap.size 115 (.func (.func g) #[] lb)) W h.2 (fun W1 h1 => ?_)
      exact (hf k W1 hk (hJ k _ _ h.1 h1)).mono (fun e W' ⟨he, hj, hk'⟩ => ⟨he, hj, hk'.boxed (Nat.le_refl _) (h1.boxed h.2)⟩))
    _ ⟨hJ 0 _ _ h0 hB0, hbx⟩
  clear hread hf h0 hJ hB0 hbx
  go_enter Try.func52, Try.ntmps52
  go_wp2_with (go_at_call 80; refine hc.mono ?_; rintro e w1 ⟨m, hm, rfl, h1, h2, h3⟩; have H1 := Lib.hid h1; have H2 := Lib.hid h2; have H3 := Lib.hid h3; clear h1 h2 h3)
  go_ret
  exact ⟨ret_bool (not_all hm H1.out H2.out), _, H3.out.1⟩

set_option maxHeartbeats 400000 in
theorem every1_pair (g : FuncId) (lb : Array Value) (eg : ∀ args w, (callFunc g args).run Try.prog w = .ok (.enter g args) w) (x y : Int) (q : Bool) (B : Nat) (R : World → Prop) (W : World)
    (hb : Boxed W B 141 (.func (.func g) #[] lb))
    (hf : ∀ W1, Bel W W1 → Calls Try.prog g (#[.agg #[.int .i64 x, .int .i64 y]] ++ lb) W1 fun e W' => e = .returned (.bool q) ∧ R W') :
    Calls Try.prog 96 #[.agg #[.int .i64 x, .int .i64 y], .pointer (some ⟨B, 0, none⟩)] W fun e W' => e = .returned (.bool (!q)) ∧ R W' := by
  have hc := hb.cell
  have hlt := hb.lt
  have hf' := hf _ ((Bel.refl W).alloc (.cells #[.int .i64 x, .int .i64 y] 85))
  clear hf
  go_enter Try.func96, Try.ntmps96
  go_wp2_with (refine hf'.mono ?_; rintro e w1 ⟨rfl, hR⟩; have HR := Lib.hid hR; clear hR)
  go_ret
  exact ⟨rfl, HR.out⟩

set_option maxHeartbeats 400000 in
theorem every_pair (g : FuncId) (lb : Array Value) (eg : ∀ args w, (callFunc g args).run Try.prog w = .ok (.enter g args) w)
    (a : Option Addr) (n c : Nat) (x y : Nat → Int) (q : Nat → Bool) (J : Nat → World → Prop) (hn : n ≤ maxLen) (w : World)
    (hJ : ∀ k A B, J k A → Bel A B → J k B)
    (hread : ∀ k W, k < n → J k W → ∃ b off, a = some ⟨b, off, none⟩ ∧ W.cell? ⟨b, off + k * 2, none⟩ = some (.int .i64 (x k)) ∧ W.cell? ⟨b, off + k * 2 + 1, none⟩ = some (.int .i64 (y k)))
    (hf : ∀ k W, k < n → J k W → Calls Try.prog g (#[.agg #[.int .i64 (x k), .int .i64 (y k)]] ++ lb) W fun e W' => e = .returned (.bool (q k)) ∧ J (k + 1) W' ∧ KeepFrom w.heap.size W W')
    (h0 : J 0 w) :
    Calls Try.prog 77 #[.slice a n c, .func (.func g) #[] lb] w fun e w' => e = .returned (.bool (decide (∀ i, i < n → q i = true))) ∧ ∃ k, J k w' := by
  have hB0 : Bel w (w.alloc (.cells #[.func (.func g) #[] lb] 141)) := (Bel.refl w).alloc _
  have hbx := Boxed.new w 141 (.func (.func g) #[] lb)
  have hc := contFunc_pair 96 #[.pointer (some ⟨w.heap.size, 0, none⟩)] (enters_of Try.func96 (by kernel_rfl) rfl) a n c x y (fun k => !q k)
    (fun k W => J k W ∧ Boxed W w.heap.size 141 (.func (.func g) #[] lb)) hn (fun k W hk h => hread k W hk h.1)
    (fun k W hk h => by
      refine every1_pair g lb eg (x k) (y k) (q k) w.heap.size (fun W' => J (k + 1) W' ∧ Boxed W' w.heap.size 141 (.func (.func g) #[] lb)) W h.2 (fun W1 h1 => ?_)
      exact (hf k W1 hk (hJ k _ _ h.1 h1)).mono (fun e W' ⟨he, hj, hk'⟩ => ⟨he, hj, hk'.boxed (Nat.le_refl _) (h1.boxed h.2)⟩))
    _ ⟨hJ 0 _ _ h0 hB0, hbx⟩
  clear hread hf h0 hJ hB0 hbx
  go_enter Try.func77, Try.ntmps77
  go_wp2_with (go_at_call 85; refine hc.mono ?_; rintro e w1 ⟨m, hm, rfl, h1, h2, h3⟩; have H1 := Lib.hid h1; have H2 := Lib.hid h2; have H3 := Lib.hid h3; clear h1 h2 h3)
  go_ret
  exact ⟨ret_bool (not_all hm H1.out H2.out), _, H3.out.1⟩

set_option maxHeartbeats 400000 in
theorem every1_paint (g : FuncId) (lb : Array Value) (eg : ∀ args w, (callFunc g args).run Try.prog w = .ok (.enter g args) w) (x : Nat → Int) (q : Bool) (B : Nat) (R : World → Prop) (W : World)
    (hb : Boxed W B 138 (.func (.func g) #[] lb))
    (hf : ∀ W1, Bel W W1 → Calls Try.prog g (#[.agg #[.int .i64 (x 0), .int .i64 (x 1), .int .i64 (x 2), .int .i64 (x 3), .int .i64 (x 4), .int .i64 (x 5)]] ++ lb) W1 fun e W' => e = .returned (.bool q) ∧ R W') :
    Calls Try.prog 94 #[.agg #[.int .i64 (x 0), .int .i64 (x 1), .int .i64 (x 2), .int .i64 (x 3), .int .i64 (x 4), .int .i64 (x 5)], .pointer (some ⟨B, 0, none⟩)] W fun e W' => e = .returned (.bool (!q)) ∧ R W' := by
  have hc := hb.cell
  have hlt := hb.lt
  have hf' := hf _ ((Bel.refl W).alloc (.cells #[.int .i64 (x 0), .int .i64 (x 1), .int .i64 (x 2), .int .i64 (x 3), .int .i64 (x 4), .int .i64 (x 5)] 56))
  clear hf
  go_enter Try.func94, Try.ntmps94
  go_wp2_with (refine hf'.mono ?_; rintro e w1 ⟨rfl, hR⟩; have HR := Lib.hid hR; clear hR)
  go_ret
  exact ⟨rfl, HR.out⟩

set_option maxHeartbeats 400000 in
theorem every_paint (g : FuncId) (lb : Array Value) (eg : ∀ args w, (callFunc g args).run Try.prog w = .ok (.enter g args) w)
    (a : Option Addr) (n c : Nat) (x : Nat → Nat → Int) (q : Nat → Bool) (J : Nat → World → Prop) (hn : n ≤ maxLen) (w : World)
    (hJ : ∀ k A B, J k A → Bel A B → J k B)
    (hread : ∀ k W, k < n → J k W → ∃ b off, a = some ⟨b, off, none⟩ ∧ W.cell? ⟨b, off + k * 6, none⟩ = some (.int .i64 (x k 0)) ∧ W.cell? ⟨b, off + k * 6 + 1, none⟩ = some (.int .i64 (x k 1)) ∧ W.cell? ⟨b, off + k * 6 + 2, none⟩ = some (.int .i64 (x k 2)) ∧ W.cell? ⟨b, off + k * 6 + 3, none⟩ = some (.int .i64 (x k 3)) ∧ W.cell? ⟨b, off + k * 6 + 4, none⟩ = some (.int .i64 (x k 4)) ∧ W.cell? ⟨b, off + k * 6 + 5, none⟩ = some (.int .i64 (x k 5)))
    (hf : ∀ k W, k < n → J k W → Calls Try.prog g (#[.agg #[.int .i64 (x k 0), .int .i64 (x k 1), .int .i64 (x k 2), .int .i64 (x k 3), .int .i64 (x k 4), .int .i64 (x k 5)]] ++ lb) W fun e W' => e = .returned (.bool (q k)) ∧ J (k + 1) W' ∧ KeepFrom w.heap.size W W')
    (h0 : J 0 w) :
    Calls Try.prog 75 #[.slice a n c, .func (.func g) #[] lb] w fun e w' => e = .returned (.bool (decide (∀ i, i < n → q i = true))) ∧ ∃ k, J k w' := by
  have hB0 : Bel w (w.alloc (.cells #[.func (.func g) #[] lb] 138)) := (Bel.refl w).alloc _
  have hbx := Boxed.new w 138 (.func (.func g) #[] lb)
  have hc := contFunc_paint 94 #[.pointer (some ⟨w.heap.size, 0, none⟩)] (enters_of Try.func94 (by kernel_rfl) rfl) a n c x (fun k => !q k)
    (fun k W => J k W ∧ Boxed W w.heap.size 138 (.func (.func g) #[] lb)) hn (fun k W hk h => hread k W hk h.1)
    (fun k W hk h => by
      refine every1_paint g lb eg (x k) (q k) w.heap.size (fun W' => J (k + 1) W' ∧ Boxed W' w.heap.size 138 (.func (.func g) #[] lb)) W h.2 (fun W1 h1 => ?_)
      exact (hf k W1 hk (hJ k _ _ h.1 h1)).mono (fun e W' ⟨he, hj, hk'⟩ => ⟨he, hj, hk'.boxed (Nat.le_refl _) (h1.boxed h.2)⟩))
    _ ⟨hJ 0 _ _ h0 hB0, hbx⟩
  clear hread hf h0 hJ hB0 hbx
  go_enter Try.func75, Try.ntmps75
  go_wp2_with (go_at_call 93; refine hc.mono ?_; rintro e w1 ⟨m, hm, rfl, h1, h2, h3⟩; have H1 := Lib.hid h1; have H2 := Lib.hid h2; have H3 := Lib.hid h3; clear h1 h2 h3)
  go_ret
  exact ⟨ret_bool (not_all hm H1.out H2.out), _, H3.out.1⟩

end Go.Proofs.Ytpkadofgmhninaa
