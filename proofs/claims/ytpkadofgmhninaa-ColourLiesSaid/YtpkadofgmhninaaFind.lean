/- IndexFunc, ContainsFunc and every, at the types of the seat: by what the function value answers, element by element. -/
import Derived.Test.YtpkadofgmhninaaBase
namespace Go.Proofs.Ytpkadofgmhninaa
open Go.RowKit

/-- The place of the first of n for which something holds, as Go tells it. -/
def foundAt (n m : Nat) : Int := if m < n then (m : Int) else -1
theorem foundAt_lt {n m : Nat} (h : m < n) : foundAt n m = m := if_pos h
theorem foundAt_ge {n m : Nat} (h : ¬ m < n) : foundAt n m = -1 := if_neg h

set_option maxHeartbeats 400000 in
theorem idxFunc_int (g : FuncId) (lb : Array Value) (eg : ∀ args w, (callFunc g args).run Try.prog w = .ok (.enter g args) w)
    (a : Option Addr) (n c : Nat) (x : Nat → Int) (p : Nat → Bool) (J : Nat → World → Prop) (hn : n ≤ maxLen)
    (hread : ∀ k W, k < n → J k W → ∃ b off, a = some ⟨b, off, none⟩ ∧ W.cell? ⟨b, off + k, none⟩ = some (.int .i64 (x k)))
    (hf : ∀ k W, k < n → J k W → Calls Try.prog g (#[.int .i64 (x k)] ++ lb) W fun e W' => e = .returned (.bool (p k)) ∧ J (k + 1) W')
    (w : World) (h0 : J 0 w) :
    Calls Try.prog 108 #[.slice a n c, .func (.func g) #[] lb] w fun e w' => ∃ m, m ≤ n ∧ e = .returned (.int .i64 (foundAt n m)) ∧ (∀ i, i < m → p i = false) ∧ (m < n → p m = true) ∧ J (if m < n then m + 1 else m) w' := by
  unfold maxLen at hn
  go_enter Try.func108, Try.ntmps108
  go_wp2
  go_loopw [5, 8] (fun _ i wr => ∃ k : Nat, k ≤ n ∧ i = .int .i64 k ∧ (∀ i, i < k → p i = false) ∧ J k wr) (fun _ i _ => n - (intOf i).toNat)
  case atStart => exact ⟨0, Nat.zero_le _, rfl, fun _ h => absurd h (Nat.not_lt_zero _), h0⟩
  case round =>
    obtain ⟨k, hk, rfl, hh, hJ⟩ := hrel
    have Hh := Lib.hid hh
    clear hh
    by_cases hlt : k < n
    · obtain ⟨b, off, rfl, hcell⟩ := hread k wr hlt hJ
      skip
      have hc := hf k wr hlt hJ
      have HJ := Lib.hid hJ
      clear hJ hread hf
      cases hp : p k
      · have Hp := Lib.hid hp
        rw [hp] at hc
        clear hp
        go_wp2_with (refine hc.mono ?_; rintro e w1 ⟨rfl, hJ1⟩; have HJ1 := Lib.hid hJ1; clear hJ1)
        go_roundw
        case rel =>
          refine ⟨k + 1, by omega, by go_num, ?_, HJ1.out⟩
          intro i hi
          by_cases e : i = k
          · subst e; exact Hp.out
          · exact Hh.out i (by omega)
        case measure => simp [intOf]; omega
      · have Hp := Lib.hid hp
        rw [hp] at hc
        clear hp
        go_wp2_with (refine hc.mono ?_; rintro e w1 ⟨rfl, hJ1⟩; have HJ1 := Lib.hid hJ1; clear hJ1)
        go_ret
        exact ⟨k, by omega, ret_int (foundAt_lt hlt).symm, Hh.out, fun _ => Hp.out, by rw [if_pos hlt]; exact HJ1.out⟩
    · have hk' : ¬ k < n := hlt
      have HJ := Lib.hid hJ
      clear hJ hread hf
      go_wp2
      go_ret
      exact ⟨k, by omega, ret_int (foundAt_ge hk').symm, Hh.out, fun h => absurd h hk', by rw [if_neg hk']; exact HJ.out⟩

set_option maxHeartbeats 400000 in
theorem contFunc_int (g : FuncId) (lb : Array Value) (eg : ∀ args w, (callFunc g args).run Try.prog w = .ok (.enter g args) w)
    (a : Option Addr) (n c : Nat) (x : Nat → Int) (p : Nat → Bool) (J : Nat → World → Prop) (hn : n ≤ maxLen)
    (hread : ∀ k W, k < n → J k W → ∃ b off, a = some ⟨b, off, none⟩ ∧ W.cell? ⟨b, off + k, none⟩ = some (.int .i64 (x k)))
    (hf : ∀ k W, k < n → J k W → Calls Try.prog g (#[.int .i64 (x k)] ++ lb) W fun e W' => e = .returned (.bool (p k)) ∧ J (k + 1) W')
    (w : World) (h0 : J 0 w) :
    Calls Try.prog 100 #[.slice a n c, .func (.func g) #[] lb] w fun e w' => ∃ m, m ≤ n ∧ e = .returned (.bool (decide (m < n))) ∧ (∀ i, i < m → p i = false) ∧ (m < n → p m = true) ∧ J (if m < n then m + 1 else m) w' := by
  have hc := idxFunc_int g lb eg a n c x p J hn hread hf w h0
  clear hread hf h0
  go_enter Try.func100, Try.ntmps100
  go_wp2_with (go_at_call 108; refine hc.mono ?_; rintro e w1 ⟨m, hm, rfl, h1, h2, h3⟩; have H1 := Lib.hid h1; have H2 := Lib.hid h2; have H3 := Lib.hid h3; clear h1 h2 h3)
  go_ret
  refine ⟨m, hm, ?_, H1.out, H2.out, H3.out⟩
  by_cases e : m < n
  · rw [foundAt_lt e]; simp [e]
  · rw [foundAt_ge e]; simp [e]

set_option maxHeartbeats 400000 in
theorem idxFunc_ints (g : FuncId) (lb : Array Value) (eg : ∀ args w, (callFunc g args).run Try.prog w = .ok (.enter g args) w)
    (a : Option Addr) (n c : Nat) (x : Nat → Value) (p : Nat → Bool) (J : Nat → World → Prop) (hn : n ≤ maxLen)
    (hread : ∀ k W, k < n → J k W → ∃ b off, a = some ⟨b, off, none⟩ ∧ W.cell? ⟨b, off + k, none⟩ = some (x k))
    (hf : ∀ k W, k < n → J k W → Calls Try.prog g (#[x k] ++ lb) W fun e W' => e = .returned (.bool (p k)) ∧ J (k + 1) W')
    (w : World) (h0 : J 0 w) :
    Calls Try.prog 106 #[.slice a n c, .func (.func g) #[] lb] w fun e w' => ∃ m, m ≤ n ∧ e = .returned (.int .i64 (foundAt n m)) ∧ (∀ i, i < m → p i = false) ∧ (m < n → p m = true) ∧ J (if m < n then m + 1 else m) w' := by
  unfold maxLen at hn
  go_enter Try.func106, Try.ntmps106
  go_wp2
  go_loopw [5, 8] (fun _ i wr => ∃ k : Nat, k ≤ n ∧ i = .int .i64 k ∧ (∀ i, i < k → p i = false) ∧ J k wr) (fun _ i _ => n - (intOf i).toNat)
  case atStart => exact ⟨0, Nat.zero_le _, rfl, fun _ h => absurd h (Nat.not_lt_zero _), h0⟩
  case round =>
    obtain ⟨k, hk, rfl, hh, hJ⟩ := hrel
    have Hh := Lib.hid hh
    clear hh
    by_cases hlt : k < n
    · obtain ⟨b, off, rfl, hcell⟩ := hread k wr hlt hJ
      skip
      have hc := hf k wr hlt hJ
      have HJ := Lib.hid hJ
      clear hJ hread hf
      cases hp : p k
      · have Hp := Lib.hid hp
        rw [hp] at hc
        clear hp
        go_wp2_with (refine hc.mono ?_; rintro e w1 ⟨rfl, hJ1⟩; have HJ1 := Lib.hid hJ1; clear hJ1)
        go_roundw
        case rel =>
          refine ⟨k + 1, by omega, by go_num, ?_, HJ1.out⟩
          intro i hi
          by_cases e : i = k
          · subst e; exact Hp.out
          · exact Hh.out i (by omega)
        case measure => simp [intOf]; omega
      · have Hp := Lib.hid hp
        rw [hp] at hc
        clear hp
        go_wp2_with (refine hc.mono ?_; rintro e w1 ⟨rfl, hJ1⟩; have HJ1 := Lib.hid hJ1; clear hJ1)
        go_ret
        exact ⟨k, by omega, ret_int (foundAt_lt hlt).symm, Hh.out, fun _ => Hp.out, by rw [if_pos hlt]; exact HJ1.out⟩
    · have hk' : ¬ k < n := hlt
      have HJ := Lib.hid hJ
      clear hJ hread hf
      go_wp2
      go_ret
      exact ⟨k, by omega, ret_int (foundAt_ge hk').symm, Hh.out, fun h => absurd h hk', by rw [if_neg hk']; exact HJ.out⟩

set_option maxHeartbeats 400000 in
theorem idxFunc_plan (g : FuncId) (lb : Array Value) (eg : ∀ args w, (callFunc g args).run Try.prog w = .ok (.enter g args) w)
    (a : Option Addr) (n c : Nat) (x : Nat → Value) (p : Nat → Bool) (J : Nat → World → Prop) (hn : n ≤ maxLen)
    (hread : ∀ k W, k < n → J k W → ∃ b off, a = some ⟨b, off, none⟩ ∧ W.cell? ⟨b, off + k, none⟩ = some (x k))
    (hf : ∀ k W, k < n → J k W → Calls Try.prog g (#[x k] ++ lb) W fun e W' => e = .returned (.bool (p k)) ∧ J (k + 1) W')
    (w : World) (h0 : J 0 w) :
    Calls Try.prog 97 #[.slice a n c, .func (.func g) #[] lb] w fun e w' => ∃ m, m ≤ n ∧ e = .returned (.int .i64 (foundAt n m)) ∧ (∀ i, i < m → p i = false) ∧ (m < n → p m = true) ∧ J (if m < n then m + 1 else m) w' := by
  unfold maxLen at hn
  go_enter Try.func97, Try.ntmps97
  go_wp2
  go_loopw [5, 8] (fun _ i wr => ∃ k : Nat, k ≤ n ∧ i = .int .i64 k ∧ (∀ i, i < k → p i = false) ∧ J k wr) (fun _ i _ => n - (intOf i).toNat)
  case atStart => exact ⟨0, Nat.zero_le _, rfl, fun _ h => absurd h (Nat.not_lt_zero _), h0⟩
  case round =>
    obtain ⟨k, hk, rfl, hh, hJ⟩ := hrel
    have Hh := Lib.hid hh
    clear hh
    by_cases hlt : k < n
    · obtain ⟨b, off, rfl, hcell⟩ := hread k wr hlt hJ
      skip
      have hc := hf k wr hlt hJ
      have HJ := Lib.hid hJ
      clear hJ hread hf
      cases hp : p k
      · have Hp := Lib.hid hp
        rw [hp] at hc
        clear hp
        go_wp2_with (refine hc.mono ?_; rintro e w1 ⟨rfl, hJ1⟩; have HJ1 := Lib.hid hJ1; clear hJ1)
        go_roundw
        case rel =>
          refine ⟨k + 1, by omega, by go_num, ?_, HJ1.out⟩
          intro i hi
          by_cases e : i = k
          · subst e; exact Hp.out
          · exact Hh.out i (by omega)
        case measure => simp [intOf]; omega
      · have Hp := Lib.hid hp
        rw [hp] at hc
        clear hp
        go_wp2_with (refine hc.mono ?_; rintro e w1 ⟨rfl, hJ1⟩; have HJ1 := Lib.hid hJ1; clear hJ1)
        go_ret
        exact ⟨k, by omega, ret_int (foundAt_lt hlt).symm, Hh.out, fun _ => Hp.out, by rw [if_pos hlt]; exact HJ1.out⟩
    · have hk' : ¬ k < n := hlt
      have HJ := Lib.hid hJ
      clear hJ hread hf
      go_wp2
      go_ret
      exact ⟨k, by omega, ret_int (foundAt_ge hk').symm, Hh.out, fun h => absurd h hk', by rw [if_neg hk']; exact HJ.out⟩

set_option maxHeartbeats 400000 in
theorem contFunc_plan (g : FuncId) (lb : Array Value) (eg : ∀ args w, (callFunc g args).run Try.prog w = .ok (.enter g args) w)
    (a : Option Addr) (n c : Nat) (x : Nat → Value) (p : Nat → Bool) (J : Nat → World → Prop) (hn : n ≤ maxLen)
    (hread : ∀ k W, k < n → J k W → ∃ b off, a = some ⟨b, off, none⟩ ∧ W.cell? ⟨b, off + k, none⟩ = some (x k))
    (hf : ∀ k W, k < n → J k W → Calls Try.prog g (#[x k] ++ lb) W fun e W' => e = .returned (.bool (p k)) ∧ J (k + 1) W')
    (w : World) (h0 : J 0 w) :
    Calls Try.prog 80 #[.slice a n c, .func (.func g) #[] lb] w fun e w' => ∃ m, m ≤ n ∧ e = .returned (.bool (decide (m < n))) ∧ (∀ i, i < m → p i = false) ∧ (m < n → p m = true) ∧ J (if m < n then m + 1 else m) w' := by
  have hc := idxFunc_plan g lb eg a n c x p J hn hread hf w h0
  clear hread hf h0
  go_enter Try.func80, Try.ntmps80
  go_wp2_with (go_at_call 97; refine hc.mono ?_; rintro e w1 ⟨m, hm, rfl, h1, h2, h3⟩; have H1 := Lib.hid h1; have H2 := Lib.hid h2; have H3 := Lib.hid h3; clear h1 h2 h3)
  go_ret
  refine ⟨m, hm, ?_, H1.out, H2.out, H3.out⟩
  by_cases e : m < n
  · rw [foundAt_lt e]; simp [e]
  · rw [foundAt_ge e]; simp [e]

set_option maxHeartbeats 400000 in
theorem idxFunc_pair (g : FuncId) (lb : Array Value) (eg : ∀ args w, (callFunc g args).run Try.prog w = .ok (.enter g args) w)
    (a : Option Addr) (n c : Nat) (x y : Nat → Int) (p : Nat → Bool) (J : Nat → World → Prop) (hn : n ≤ maxLen)
    (hread : ∀ k W, k < n → J k W → ∃ b off, a = some ⟨b, off, none⟩ ∧ W.cell? ⟨b, off + k * 2, none⟩ = some (.int .i64 (x k)) ∧ W.cell? ⟨b, off + k * 2 + 1, none⟩ = some (.int .i64 (y k)))
    (hf : ∀ k W, k < n → J k W → Calls Try.prog g (#[.agg #[.int .i64 (x k), .int .i64 (y k)]] ++ lb) W fun e W' => e = .returned (.bool (p k)) ∧ J (k + 1) W')
    (w : World) (h0 : J 0 w) :
    Calls Try.prog 98 #[.slice a n c, .func (.func g) #[] lb] w fun e w' => ∃ m, m ≤ n ∧ e = .returned (.int .i64 (foundAt n m)) ∧ (∀ i, i < m → p i = false) ∧ (m < n → p m = true) ∧ J (if m < n then m + 1 else m) w' := by
  unfold maxLen at hn
  go_enter Try.func98, Try.ntmps98
  go_wp2
  go_loopw [5, 8] (fun _ i wr => ∃ k : Nat, k ≤ n ∧ i = .int .i64 k ∧ (∀ i, i < k → p i = false) ∧ J k wr) (fun _ i _ => n - (intOf i).toNat)
  case atStart => exact ⟨0, Nat.zero_le _, rfl, fun _ h => absurd h (Nat.not_lt_zero _), h0⟩
  case round =>
    obtain ⟨k, hk, rfl, hh, hJ⟩ := hrel
    have Hh := Lib.hid hh
    clear hh
    by_cases hlt : k < n
    · obtain ⟨b, off, rfl, hcell⟩ := hread k wr hlt hJ
      obtain ⟨hc0, hc1⟩ := hcell
      have hc := hf k wr hlt hJ
      have HJ := Lib.hid hJ
      clear hJ hread hf
      cases hp : p k
      · have Hp := Lib.hid hp
        rw [hp] at hc
        clear hp
        go_wp2_with (refine hc.mono ?_; rintro e w1 ⟨rfl, hJ1⟩; have HJ1 := Lib.hid hJ1; clear hJ1)
        go_roundw
        case rel =>
          refine ⟨k + 1, by omega, by go_num, ?_, HJ1.out⟩
          intro i hi
          by_cases e : i = k
          · subst e; exact Hp.out
          · exact Hh.out i (by omega)
        case measure => simp [intOf]; omega
      · have Hp := Lib.hid hp
        rw [hp] at hc
        clear hp
        go_wp2_with (refine hc.mono ?_; rintro e w1 ⟨rfl, hJ1⟩; have HJ1 := Lib.hid hJ1; clear hJ1)
        go_ret
        exact ⟨k, by omega, ret_int (foundAt_lt hlt).symm, Hh.out, fun _ => Hp.out, by rw [if_pos hlt]; exact HJ1.out⟩
    · have hk' : ¬ k < n := hlt
      have HJ := Lib.hid hJ
      clear hJ hread hf
      go_wp2
      go_ret
      exact ⟨k, by omega, ret_int (foundAt_ge hk').symm, Hh.out, fun h => absurd h hk', by rw [if_neg hk']; exact HJ.out⟩

set_option maxHeartbeats 400000 in
theorem contFunc_pair (g : FuncId) (lb : Array Value) (eg : ∀ args w, (callFunc g args).run Try.prog w = .ok (.enter g args) w)
    (a : Option Addr) (n c : Nat) (x y : Nat → Int) (p : Nat → Bool) (J : Nat → World → Prop) (hn : n ≤ maxLen)
    (hread : ∀ k W, k < n → J k W → ∃ b off, a = some ⟨b, off, none⟩ ∧ W.cell? ⟨b, off + k * 2, none⟩ = some (.int .i64 (x k)) ∧ W.cell? ⟨b, off + k * 2 + 1, none⟩ = some (.int .i64 (y k)))
    (hf : ∀ k W, k < n → J k W → Calls Try.prog g (#[.agg #[.int .i64 (x k), .int .i64 (y k)]] ++ lb) W fun e W' => e = .returned (.bool (p k)) ∧ J (k + 1) W')
    (w : World) (h0 : J 0 w) :
    Calls Try.prog 85 #[.slice a n c, .func (.func g) #[] lb] w fun e w' => ∃ m, m ≤ n ∧ e = .returned (.bool (decide (m < n))) ∧ (∀ i, i < m → p i = false) ∧ (m < n → p m = true) ∧ J (if m < n then m + 1 else m) w' := by
  have hc := idxFunc_pair g lb eg a n c x y p J hn hread hf w h0
  clear hread hf h0
  go_enter Try.func85, Try.ntmps85
  go_wp2_with (go_at_call 98; refine hc.mono ?_; rintro e w1 ⟨m, hm, rfl, h1, h2, h3⟩; have H1 := Lib.hid h1; have H2 := Lib.hid h2; have H3 := Lib.hid h3; clear h1 h2 h3)
  go_ret
  refine ⟨m, hm, ?_, H1.out, H2.out, H3.out⟩
  by_cases e : m < n
  · rw [foundAt_lt e]; simp [e]
  · rw [foundAt_ge e]; simp [e]

set_option maxHeartbeats 400000 in
theorem idxFunc_paint (g : FuncId) (lb : Array Value) (eg : ∀ args w, (callFunc g args).run Try.prog w = .ok (.enter g args) w)
    (a : Option Addr) (n c : Nat) (x : Nat → Nat → Int) (p : Nat → Bool) (J : Nat → World → Prop) (hn : n ≤ maxLen)
    (hread : ∀ k W, k < n → J k W → ∃ b off, a = some ⟨b, off, none⟩ ∧ W.cell? ⟨b, off + k * 6, none⟩ = some (.int .i64 (x k 0)) ∧ W.cell? ⟨b, off + k * 6 + 1, none⟩ = some (.int .i64 (x k 1)) ∧ W.cell? ⟨b, off + k * 6 + 2, none⟩ = some (.int .i64 (x k 2)) ∧ W.cell? ⟨b, off + k * 6 + 3, none⟩ = some (.int .i64 (x k 3)) ∧ W.cell? ⟨b, off + k * 6 + 4, none⟩ = some (.int .i64 (x k 4)) ∧ W.cell? ⟨b, off + k * 6 + 5, none⟩ = some (.int .i64 (x k 5)))
    (hf : ∀ k W, k < n → J k W → Calls Try.prog g (#[.agg #[.int .i64 (x k 0), .int .i64 (x k 1), .int .i64 (x k 2), .int .i64 (x k 3), .int .i64 (x k 4), .int .i64 (x k 5)]] ++ lb) W fun e W' => e = .returned (.bool (p k)) ∧ J (k + 1) W')
    (w : World) (h0 : J 0 w) :
    Calls Try.prog 105 #[.slice a n c, .func (.func g) #[] lb] w fun e w' => ∃ m, m ≤ n ∧ e = .returned (.int .i64 (foundAt n m)) ∧ (∀ i, i < m → p i = false) ∧ (m < n → p m = true) ∧ J (if m < n then m + 1 else m) w' := by
  unfold maxLen at hn
  go_enter Try.func105, Try.ntmps105
  go_wp2
  go_loopw [5, 8] (fun _ i wr => ∃ k : Nat, k ≤ n ∧ i = .int .i64 k ∧ (∀ i, i < k → p i = false) ∧ J k wr) (fun _ i _ => n - (intOf i).toNat)
  case atStart => exact ⟨0, Nat.zero_le _, rfl, fun _ h => absurd h (Nat.not_lt_zero _), h0⟩
  case round =>
    obtain ⟨k, hk, rfl, hh, hJ⟩ := hrel
    have Hh := Lib.hid hh
    clear hh
    by_cases hlt : k < n
    · obtain ⟨b, off, rfl, hcell⟩ := hread k wr hlt hJ
      obtain ⟨hc0, hc1, hc2, hc3, hc4, hc5⟩ := hcell
      have hc := hf k wr hlt hJ
      have HJ := Lib.hid hJ
      clear hJ hread hf
      cases hp : p k
      · have Hp := Lib.hid hp
        rw [hp] at hc
        clear hp
        go_wp2_with (refine hc.mono ?_; rintro e w1 ⟨rfl, hJ1⟩; have HJ1 := Lib.hid hJ1; clear hJ1)
        go_roundw
        case rel =>
          refine ⟨k + 1, by omega, by go_num, ?_, HJ1.out⟩
          intro i hi
          by_cases e : i = k
          · subst e; exact Hp.out
          · exact Hh.out i (by omega)
        case measure => simp [intOf]; omega
      · have Hp := Lib.hid hp
        rw [hp] at hc
        clear hp
        go_wp2_with (refine hc.mono ?_; rintro e w1 ⟨rfl, hJ1⟩; have HJ1 := Lib.hid hJ1; clear hJ1)
        go_ret
        exact ⟨k, by omega, ret_int (foundAt_lt hlt).symm, Hh.out, fun _ => Hp.out, by rw [if_pos hlt]; exact HJ1.out⟩
    · have hk' : ¬ k < n := hlt
      have HJ := Lib.hid hJ
      clear hJ hread hf
      go_wp2
      go_ret
      exact ⟨k, by omega, ret_int (foundAt_ge hk').symm, Hh.out, fun h => absurd h hk', by rw [if_neg hk']; exact HJ.out⟩

set_option maxHeartbeats 400000 in
theorem contFunc_paint (g : FuncId) (lb : Array Value) (eg : ∀ args w, (callFunc g args).run Try.prog w = .ok (.enter g args) w)
    (a : Option Addr) (n c : Nat) (x : Nat → Nat → Int) (p : Nat → Bool) (J : Nat → World → Prop) (hn : n ≤ maxLen)
    (hread : ∀ k W, k < n → J k W → ∃ b off, a = some ⟨b, off, none⟩ ∧ W.cell? ⟨b, off + k * 6, none⟩ = some (.int .i64 (x k 0)) ∧ W.cell? ⟨b, off + k * 6 + 1, none⟩ = some (.int .i64 (x k 1)) ∧ W.cell? ⟨b, off + k * 6 + 2, none⟩ = some (.int .i64 (x k 2)) ∧ W.cell? ⟨b, off + k * 6 + 3, none⟩ = some (.int .i64 (x k 3)) ∧ W.cell? ⟨b, off + k * 6 + 4, none⟩ = some (.int .i64 (x k 4)) ∧ W.cell? ⟨b, off + k * 6 + 5, none⟩ = some (.int .i64 (x k 5)))
    (hf : ∀ k W, k < n → J k W → Calls Try.prog g (#[.agg #[.int .i64 (x k 0), .int .i64 (x k 1), .int .i64 (x k 2), .int .i64 (x k 3), .int .i64 (x k 4), .int .i64 (x k 5)]] ++ lb) W fun e W' => e = .returned (.bool (p k)) ∧ J (k + 1) W')
    (w : World) (h0 : J 0 w) :
    Calls Try.prog 93 #[.slice a n c, .func (.func g) #[] lb] w fun e w' => ∃ m, m ≤ n ∧ e = .returned (.bool (decide (m < n))) ∧ (∀ i, i < m → p i = false) ∧ (m < n → p m = true) ∧ J (if m < n then m + 1 else m) w' := by
  have hc := idxFunc_paint g lb eg a n c x p J hn hread hf w h0
  clear hread hf h0
  go_enter Try.func93, Try.ntmps93
  go_wp2_with (go_at_call 105; refine hc.mono ?_; rintro e w1 ⟨m, hm, rfl, h1, h2, h3⟩; have H1 := Lib.hid h1; have H2 := Lib.hid h2; have H3 := Lib.hid h3; clear h1 h2 h3)
  go_ret
  refine ⟨m, hm, ?_, H1.out, H2.out, H3.out⟩
  by_cases e : m < n
  · rw [foundAt_lt e]; simp [e]
  · rw [foundAt_ge e]; simp [e]

end Go.Proofs.Ytpkadofgmhninaa
