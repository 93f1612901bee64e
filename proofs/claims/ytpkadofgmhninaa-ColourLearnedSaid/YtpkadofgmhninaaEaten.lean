/- IndexFunc and ContainsFunc at pairs, with a method value; where a round lies; what is eaten. -/
import Derived.Test.YtpkadofgmhninaaSl
namespace Go.Proofs.Ytpkadofgmhninaa
open Go.RowKit

set_option maxHeartbeats 400000 in
theorem idxFunc_pairm (g : FuncId) (f0 : Value) (eg : ∀ args w, (callFunc g args).run Try.prog w = .ok (.enter g args) w)
    (a : Option Addr) (n c : Nat) (x y : Nat → Int) (p : Nat → Bool) (J : Nat → World → Prop) (hn : n ≤ maxLen)
    (hread : ∀ k W, k < n → J k W → ∃ b off, a = some ⟨b, off, none⟩ ∧ W.cell? ⟨b, off + k * 2, none⟩ = some (.int .i64 (x k)) ∧ W.cell? ⟨b, off + k * 2 + 1, none⟩ = some (.int .i64 (y k)))
    (hf : ∀ k W, k < n → J k W → Calls Try.prog g #[f0, .agg #[.int .i64 (x k), .int .i64 (y k)]] W fun e W' => e = .returned (.bool (p k)) ∧ J (k + 1) W')
    (w : World) (h0 : J 0 w) :
    Calls Try.prog 98 #[.slice a n c, .func (.func g) #[f0] #[]] w fun e w' => ∃ m, m ≤ n ∧ e = .returned (.int .i64 (foundAt n m)) ∧ (∀ i, i < m → p i = false) ∧ (m < n → p m = true) ∧ J (if m < n then m + 1 else m) w' := by
  unfold maxLen at hn
  go_enter Try.func98, Try.ntmps98
  go_wp2
  go_loopw [5, 8] (fun _ i wr => ∃ k : Nat, k ≤ n ∧ i = .int .i64 k ∧ (∀ i, i < k → p i = false) ∧ J k wr) (fun _ i _ => n - (intOf i).toNat)
  case atStart => exact ⟨0, Nat.zero_le _, rfl, fun _ h => absurd h (Nat.not_lt_zero _), h0⟩
  case round =>
    obtain ⟨k, hk, rfl, hh, hJ⟩ := hrel
    have Hh := Lib.hid hh
    clear hh
    by_cases hlt : k < n
    · obtain ⟨b, off, rfl, hcell⟩ := hread k wr hlt hJ
      obtain ⟨hc0, hc1⟩ := hcell
      have hc := hf k wr hlt hJ
      have HJ := Lib.hid hJ
      clear hJ hread hf
      cases hp : p k
      · have Hp := Lib.hid hp
        rw [hp] at hc
        clear hp
        go_wp2_with (refine hc.mono ?_; rintro e w1 ⟨rfl, hJ1⟩; have HJ1 := Lib.hid hJ1; clear hJ1)
        go_roundw
        case rel =>
          refine ⟨k + 1, by omega, by go_num, ?_, HJ1.out⟩
          intro i hi
          by_cases e : i = k
          · subst e; exact Hp.out
          · exact Hh.out i (by omega)
        case measure => simp [intOf]; omega
      · have Hp := Lib.hid hp
        rw [hp] at hc
        clear hp
        go_wp2_with (refine hc.mono ?_; rintro e w1 ⟨rfl, hJ1⟩; have HJ1 := Lib.hid hJ1; clear hJ1)
        go_ret
        exact ⟨k, by omega, ret_int (foundAt_lt hlt).symm, Hh.out, fun _ => Hp.out, by rw [if_pos hlt]; exact HJ1.out⟩
    · have hk' : ¬ k < n := hlt
      have HJ := Lib.hid hJ
      clear hJ hread hf
      go_wp2
      go_ret
      exact ⟨k, by omega, ret_int (foundAt_ge hk').symm, Hh.out, fun h => absurd h hk', by rw [if_neg hk']; exact HJ.out⟩

set_option maxHeartbeats 400000 in
theorem contFunc_pairm (g : FuncId) (f0 : Value) (eg : ∀ args w, (callFunc g args).run Try.prog w = .ok (.enter g args) w)
    (a : Option Addr) (n c : Nat) (x y : Nat → Int) (p : Nat → Bool) (J : Nat → World → Prop) (hn : n ≤ maxLen)
    (hread : ∀ k W, k < n → J k W → ∃ b off, a = some ⟨b, off, none⟩ ∧ W.cell? ⟨b, off + k * 2, none⟩ = some (.int .i64 (x k)) ∧ W.cell? ⟨b, off + k * 2 + 1, none⟩ = some (.int .i64 (y k)))
    (hf : ∀ k W, k < n → J k W → Calls Try.prog g #[f0, .agg #[.int .i64 (x k), .int .i64 (y k)]] W fun e W' => e = .returned (.bool (p k)) ∧ J (k + 1) W')
    (w : World) (h0 : J 0 w) :
    Calls Try.prog 85 #[.slice a n c, .func (.func g) #[f0] #[]] w fun e w' => ∃ m, m ≤ n ∧ e = .returned (.bool (decide (m < n))) ∧ (∀ i, i < m → p i = false) ∧ (m < n → p m = true) ∧ J (if m < n then m + 1 else m) w' := by
  have hc := idxFunc_pairm g f0 eg a n c x y p J hn hread hf w h0
  clear hread hf h0
  go_enter Try.func85, Try.ntmps85
  go_wp2_with (go_at_call 98; refine hc.mono ?_; rintro e w1 ⟨m, hm, rfl, h1, h2, h3⟩; have H1 := Lib.hid h1; have H2 := Lib.hid h2; have H3 := Lib.hid h3; clear h1 h2 h3)
  go_ret
  refine ⟨m, hm, ?_, H1.out, H2.out, H3.out⟩
  by_cases e : m < n
  · rw [foundAt_lt e]; simp [e]
  · rw [foundAt_ge e]; simp [e]

set_option maxRecDepth 100000 in
set_option maxHeartbeats 800000 in
theorem heatsOf_any (s : CSet) (v : Value) (w : World) (hv : SetV w v s) (hlen : s.paints.length ≤ 5) :
    Calls Try.prog 56 #[v] w fun e w' => ∃ r, e = .returned r ∧ Spans w' r s.paints.length (fun i => (s.paint i).hl) (fun i => (s.paint i).hh) ∧ Bel w w' := by
  obtain ⟨pv, ev, rfl, hp, he⟩ := hv
  obtain ⟨c0, c1, c2, c3⟩ := C4.new w pv (.int .i64 s.near) (.int .i64 s.give) ev 31
  have b0 := (Bel.refl w).alloc (.cells #[pv, .int .i64 s.near, .int .i64 s.give, ev] 31)
  have k := mapped_paint 83 (enters_of Try.func83 (by kernel_rfl) rfl) pv s.paints Paint.hl Paint.hh _ (hp.bel b0) (by omega) heats1_any
  have B0 := Lib.hid b0
  clear hp he b0
  go_enter Try.func56, Try.ntmps56
  go_wp2_with fail
  refine k.mono ?_
  rintro e w1 ⟨r, rfl, hs, hb⟩
  have HS := Lib.hid hs
  have HB := Lib.hid (B0.out.trans hb)
  clear hs hb c0 c1 c2 c3
  go_wp2
  go_ret
  exact ⟨_, rfl, HS.out, HB.out⟩

set_option maxRecDepth 100000 in
set_option maxHeartbeats 800000 in
theorem stretchesOf_any (s : CSet) (v : Value) (w : World) (hv : SetV w v s) (hlen : s.paints.length ≤ 5) :
    Calls Try.prog 57 #[v] w fun e w' => ∃ r, e = .returned r ∧ Spans w' r s.paints.length (fun i => (s.paint i).sl) (fun i => (s.paint i).sh) ∧ Bel w w' := by
  obtain ⟨pv, ev, rfl, hp, he⟩ := hv
  obtain ⟨c0, c1, c2, c3⟩ := C4.new w pv (.int .i64 s.near) (.int .i64 s.give) ev 31
  have b0 := (Bel.refl w).alloc (.cells #[pv, .int .i64 s.near, .int .i64 s.give, ev] 31)
  have k := mapped_paint 84 (enters_of Try.func84 (by kernel_rfl) rfl) pv s.paints Paint.sl Paint.sh _ (hp.bel b0) (by omega) stretches1_any
  have B0 := Lib.hid b0
  clear hp he b0
  go_enter Try.func57, Try.ntmps57
  go_wp2_with fail
  refine k.mono ?_
  rintro e w1 ⟨r, rfl, hs, hb⟩
  have HS := Lib.hid hs
  have HB := Lib.hid (B0.out.trans hb)
  clear hs hb c0 c1 c2 c3
  go_wp2
  go_ret
  exact ⟨_, rfl, HS.out, HB.out⟩

set_option maxRecDepth 100000 in
set_option maxHeartbeats 800000 in
theorem roundOf1_any (rv : Value) (l : List Nat) (c B : Nat) (w : World) (hl : Cols w rv l) (hb : Boxed w B 3 (.int .i64 (c : Int))) :
    Calls Try.prog 107 #[rv, .pointer (some ⟨B, 0, none⟩)] w fun e w' => e = .returned (.bool (l.contains c)) ∧ w = w' := by
  have k := contains_any rv l c w hl
  have cc := hb.cell
  clear hl hb
  go_enter Try.func107, Try.ntmps107
  go_wp2_with (go_at_call 45; refine k.mono ?_; rintro e w1 ⟨rfl, rfl⟩)
  go_ret
  exact ⟨ret_bool (by simp), rfl⟩

/-- A plan of a set's colours, by value. -/
structure Fd (w : World) (pv ev rv : Value) (s : CSet) (p : Rounds) : Prop where
  paints : Paints w pv s.paints
  pairs : Pairs w ev s.eats
  rounds : Rnds w rv p
theorem Fd.bel {A B : World} (h : Bel A B) {pv ev rv : Value} {s : CSet} {p : Rounds} (hx : Fd A pv ev rv s p) : Fd B pv ev rv s p :=
  ⟨hx.paints.bel h, hx.pairs.bel h, hx.rounds.bel h⟩
def C5 (W : World) (B : Nat) (a b c d e : Value) : Prop :=
  W.cell? ⟨B, 0, none⟩ = some a ∧ W.cell? ⟨B, 1, none⟩ = some b ∧ W.cell? ⟨B, 2, none⟩ = some c ∧ W.cell? ⟨B, 3, none⟩ = some d ∧ W.cell? ⟨B, 4, none⟩ = some e
theorem C5.bel {A B : World} (h : Bel A B) {k : Nat} {a b c d e : Value} (hc : C5 A k a b c d e) : C5 B k a b c d e :=
  ⟨h.cell hc.1, h.cell hc.2.1, h.cell hc.2.2.1, h.cell hc.2.2.2.1, h.cell hc.2.2.2.2⟩
theorem C5.new (w : World) (a b c d e : Value) (t : TypeId) : C5 (w.alloc (.cells #[a, b, c, d, e] t)) w.heap.size a b c d e := by
  have h := World.alloc_heap_new w (.cells #[a, b, c, d, e] t)
  unfold C5 World.cell?
  simp only [h]
  exact ⟨rfl, rfl, rfl, rfl, rfl⟩

/-- Where the first round with a colour lies, as Go tells it. -/
def roundAt (p : Rounds) (c : Nat) : Int := match CSet.roundOf p c with | some i => (i : Int) | none => -1
theorem roundAt_of (p : Rounds) (c m : Nat) (h : m ≤ p.length) (h1 : ∀ i, i < m → (p.getD i []).contains c = false) (h2 : m < p.length → (p.getD m []).contains c = true) : roundAt p c = foundAt p.length m := by
  unfold roundAt CSet.roundOf
  by_cases e : m < p.length
  · have : p.findIdx? (·.contains c) = some m := by
      rw [List.findIdx?_eq_some_iff_getElem]
      refine ⟨e, by have := h2 e; rwa [getD_lt _ _ _ e] at this, fun j hj => ?_⟩
      have := h1 j hj
      rw [getD_lt _ _ _ (by omega)] at this
      rw [this]; simp
    rw [this, foundAt_lt e]
  · have : p.findIdx? (·.contains c) = none := by
      rw [List.findIdx?_eq_none_iff]
      intro r hr
      obtain ⟨i, hi, rfl⟩ := List.getElem_of_mem hr
      have := h1 i (by omega)
      rwa [getD_lt _ _ _ hi] at this
    rw [this, foundAt_ge e]

set_option maxRecDepth 100000 in
set_option maxHeartbeats 800000 in
theorem roundOf_any (nr gv : Int) (pv ev rv : Value) (p : Rounds) (c : Nat) (w : World) (hr : Rnds w rv p) :
    Calls Try.prog 99 #[.agg #[pv, .int .i64 nr, .int .i64 gv, ev, rv], .int .i64 (c : Int)] w fun e w' => e = .returned (.int .i64 (roundAt p c)) ∧ Bel w w' := by
  obtain ⟨a, cp, rfl, h1, h2, -, h3⟩ := hr
  have h4 : ∀ i, ∃ x, i < p.length → ∃ b off, a = some ⟨b, off, none⟩ ∧ w.cell? ⟨b, off + i, none⟩ = some x ∧ Cols w x (p.getD i []) := fun i => by
    by_cases hi : i < p.length
    · obtain ⟨b, off, x, q⟩ := h3 i hi
      exact ⟨x, fun _ => ⟨b, off, q⟩⟩
    · exact ⟨undef, fun h => absurd h hi⟩
  obtain ⟨x, hx⟩ := Classical.axiomOfChoice h4
  have hp := h2
  have c5 := (C5.new w pv (.int .i64 nr) (.int .i64 gv) ev (.slice a p.length cp) 95).bel ((Bel.refl _).alloc (.cells #[.int .i64 (c : Int)] 3))
  have bx := Boxed.new (w.alloc (.cells #[pv, .int .i64 nr, .int .i64 gv, ev, .slice a p.length cp] 95)) 3 (.int .i64 (c : Int))
  rw [World.size_alloc] at bx
  have b0 := ((Bel.refl w).alloc (.cells #[pv, .int .i64 nr, .int .i64 gv, ev, .slice a p.length cp] 95)).alloc (.cells #[.int .i64 (c : Int)] 3)
  have k := idxFunc_ints 107 #[.pointer (some ⟨w.heap.size + 1, 0, none⟩)] (enters_of Try.func107 (by kernel_rfl) rfl) a p.length cp x (fun i => (p.getD i []).contains c)
    (fun _ W => W = (w.alloc (.cells #[pv, .int .i64 nr, .int .i64 gv, ev, .slice a p.length cp] 95)).alloc (.cells #[.int .i64 (c : Int)] 3)) (by omega)
    (fun i W hi hW => by
      obtain ⟨b, off, e, q, _⟩ := hx i hi
      exact ⟨b, off, e, by rw [hW]; exact b0.cell q⟩)
    (fun i W hi hW => by
      obtain ⟨b, off, e, q, hc⟩ := hx i hi
      exact (roundOf1_any (x i) (p.getD i []) c _ W (by rw [hW]; exact hc.bel b0) (by rw [hW]; exact bx)).mono (fun e W' ⟨he, hw⟩ => ⟨he, by rw [← hw]; exact hW⟩))
    _ rfl
  obtain ⟨c0, c1, c2, c3, c4⟩ := c5
  have B0 := Lib.hid b0
  clear h3 h4 hx bx b0
  go_enter Try.func99, Try.ntmps99
  go_wp2_with fail
  refine k.mono ?_
  rintro e w1 ⟨m, hm, rfl, q1, q2, q3⟩
  have Q1 := Lib.hid q1
  have Q2 := Lib.hid q2
  have HB := Lib.hid (show Bel w w1 by rw [q3]; exact B0.out)
  clear q1 q2 q3 c0 c1 c2 c3 c4
  go_wp2
  go_ret
  exact ⟨ret_int (roundAt_of p c m hm Q1.out Q2.out).symm, HB.out⟩

end Go.Proofs.Ytpkadofgmhninaa
