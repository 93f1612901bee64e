/- The heats and the stretches of a set. -/
import Derived.Test.YtpkadofgmhninaaMapped
namespace Go.Proofs.Ytpkadofgmhninaa
open Go.RowKit

/-- A slice of spans. -/
def Spans (w : World) (v : Value) (n : Nat) (lo hi : Nat → Int) : Prop :=
  ∃ (a : Option Addr) (c : Nat), v = .slice a n c ∧ n ≤ c ∧ c ≤ maxLen ∧ (a = none → c = 0) ∧
    ∀ i, i < n → ∃ b off, a = some ⟨b, off, none⟩ ∧ w.cell? ⟨b, off + i * 2, none⟩ = some (.int .i64 (lo i)) ∧ w.cell? ⟨b, off + i * 2 + 1, none⟩ = some (.int .i64 (hi i))
theorem Spans.bel {A B : World} (h : Bel A B) {v : Value} {n : Nat} {lo hi : Nat → Int} (hx : Spans A v n lo hi) : Spans B v n lo hi := by
  obtain ⟨a, c, e, h1, h2, hz, h3⟩ := hx
  refine ⟨a, c, e, h1, h2, hz, fun i hi => ?_⟩
  obtain ⟨b, off, e', k0, k1⟩ := h3 i hi
  exact ⟨b, off, e', h.cell k0, h.cell k1⟩

def spanCells (lo hi : Nat → Int) (n : Nat) : List Value := (List.range n).flatMap fun i => [.int .i64 (lo i), .int .i64 (hi i)]
theorem spanCells_len (lo hi : Nat → Int) (n : Nat) : (spanCells lo hi n).length = n * 2 := by
  unfold spanCells; induction n with
  | zero => rfl
  | succ n ih => rw [List.range_succ, List.flatMap_append, List.length_append, ih]; simp; omega
theorem spanCells_succ (lo hi : Nat → Int) (n : Nat) : spanCells lo hi (n + 1) = spanCells lo hi n ++ [.int .i64 (lo n), .int .i64 (hi n)] := by
  unfold spanCells; rw [List.range_succ, List.flatMap_append]; simp
theorem spanCells_get (lo hi : Nat → Int) (n i : Nat) (h : i < n) : (spanCells lo hi n)[i * 2]? = some (.int .i64 (lo i)) ∧ (spanCells lo hi n)[i * 2 + 1]? = some (.int .i64 (hi i)) := by
  induction n with
  | zero => omega
  | succ n ih =>
    rw [spanCells_succ]
    by_cases e : i = n
    · subst e
      rw [List.getElem?_append_right (by rw [spanCells_len]; omega), List.getElem?_append_right (by rw [spanCells_len]; omega), spanCells_len]
      simp
    · rw [List.getElem?_append_left (by rw [spanCells_len]; omega), List.getElem?_append_left (by rw [spanCells_len]; omega)]
      exact ih (by omega)
theorem own_spans {w : World} {base : Nat} {v : Value} {n : Nat} {lo hi : Nat → Int} (h : w.ownsRow base 54 2 v n (spanCells lo hi n)) : Spans w v n lo hi := by
  obtain ⟨_, ⟨rfl, h0⟩ | ⟨g, cap, cur, rfl, _, hh, h1, h2, h3, h4⟩⟩ := h
  · subst h0
    exact ⟨none, 0, rfl, Nat.le_refl _, Nat.zero_le _, fun _ => rfl, fun _ hi => absurd hi (Nat.not_lt_zero _)⟩
  · refine ⟨_, cap, rfl, h1, h2, nofun, fun i hi' => ⟨g, 0, rfl, ?_⟩⟩
    obtain ⟨q0, q1⟩ := spanCells_get lo hi n i hi'
    rw [← h4] at q0 q1
    rw [List.getElem?_take_of_lt (by omega)] at q0 q1
    simp only [World.cell?, hh]
    constructor
    · simpa using q0
    · simpa using q1

theorem Try.info54 : (Try.prog.info? 54).map (fun i => (i.zero, i.size, i.bytes)) = some (some (.agg #[.int .i64 0, .int .i64 0]), 2, 16) := by kernel_rfl

set_option maxHeartbeats 800000 in
set_option maxRecDepth 100000 in
theorem heats1_any (p : Paint) (w : World) :
    Calls Try.prog 83 #[.agg #[.int .i64 p.hl, .int .i64 p.hh, .int .i64 p.sl, .int .i64 p.sh, .int .i64 p.coats, .int .i64 p.most]] w fun e w' => e = .returned (.agg #[.int .i64 p.hl, .int .i64 p.hh]) ∧ Bel w w' := by
  have hb : ∀ o1 o2, Bel w ((w.alloc o1).alloc o2) := fun _ _ => ((Bel.refl w).alloc _).alloc _
  go_enter Try.func83, Try.ntmps83
  go_wp2
  exact bodyPost_ret (v := .agg #[.int .i64 p.hl, .int .i64 p.hh]) (by simp [results, Try.results83, go_sem]) rfl ⟨rfl, hb _ _⟩

set_option maxHeartbeats 800000 in
set_option maxRecDepth 100000 in
theorem stretches1_any (p : Paint) (w : World) :
    Calls Try.prog 84 #[.agg #[.int .i64 p.hl, .int .i64 p.hh, .int .i64 p.sl, .int .i64 p.sh, .int .i64 p.coats, .int .i64 p.most]] w fun e w' => e = .returned (.agg #[.int .i64 p.sl, .int .i64 p.sh]) ∧ Bel w w' := by
  have hb : ∀ o1 o2, Bel w ((w.alloc o1).alloc o2) := fun _ _ => ((Bel.refl w).alloc _).alloc _
  go_enter Try.func84, Try.ntmps84
  go_wp2
  exact bodyPost_ret (v := .agg #[.int .i64 p.sl, .int .i64 p.sh]) (by simp [results, Try.results84, go_sem]) rfl ⟨rfl, hb _ _⟩

theorem two_new (w : World) (x y : Value) (t : TypeId) : ∀ j u, [x, y][j]? = some u → (w.alloc (.cells #[x, y] t)).cell? ((⟨w.heap.size, 0, none⟩ : Addr).add j) = some u := by
  intro j u h
  obtain ⟨c0, c1⟩ := C2.new w x y t
  rw [addr_add]
  have : j = 0 ∨ j = 1 := by
    rcases j with _ | _ | j
    · exact .inl rfl
    · exact .inr rfl
    · simp at h
  rcases this with rfl | rfl
  · simp at h; rw [← h]; exact c0
  · simp at h; rw [← h]; exact c1

set_option maxHeartbeats 800000 in
set_option maxRecDepth 100000 in
theorem mapped_paint (g : FuncId) (eg : ∀ args w, (callFunc g args).run Try.prog w = .ok (.enter g args) w) (v : Value) (ps : List Paint) (lo hi : Paint → Int) (w : World) (h : Paints w v ps) (hlen : ps.length ≤ 1000000)
    (hf : ∀ (p : Paint) W, Calls Try.prog g #[.agg #[.int .i64 p.hl, .int .i64 p.hh, .int .i64 p.sl, .int .i64 p.sh, .int .i64 p.coats, .int .i64 p.most]] W fun e W' => e = .returned (.agg #[.int .i64 (lo p), .int .i64 (hi p)]) ∧ Bel W W') :
    Calls Try.prog 82 #[v, .func (.func g) #[] #[]] w fun e w' => ∃ r, e = .returned r ∧ Spans w' r ps.length (fun i => lo (ps.getD i ⟨0, 0, 0, 0, 0, 0⟩)) (fun i => hi (ps.getD i ⟨0, 0, 0, 0, 0, 0⟩)) ∧ Bel w w' := by
  obtain ⟨i0, hi0, hz0, hz1, hz2⟩ := info_parts Try.info54
  obtain ⟨a, c, rfl, h1, h2, -, h3⟩ := h
  unfold maxLen at h2
  have HF := Lib.hid hf
  clear hf
  have m1 : i0.bytes * ps.length ≤ 281474976710656 := by rw [hz2]; omega
  have m2 : ps.length ≤ maxLen := by unfold maxLen; omega
  go_enter Try.func82, Try.ntmps82
  go_wp2_with (at_make; refine wpList_make_own _ rfl _ _ 42 rfl w.heap.size 54 i0 (.agg #[.int .i64 0, .int .i64 0]) 2 Try.underlying42 hi0 hz0 hz1 _ _ _ ps.length rfl rfl rfl m1 m2 (Nat.le_refl _) ?_; intro w1 ho1 hg1; have HO1 := Lib.hid ho1; have HB1 := Lib.hid ((Bel.refl w).grown hg1 (fun _ e => by cases e)); clear ho1 hg1)
  go_loopw [5, 13] (fun r i wr => ∃ k : Nat, k ≤ ps.length ∧ i = .int .i64 k ∧ wr.ownsRow w.heap.size 54 2 r k (spanCells (fun i => lo (ps.getD i ⟨0, 0, 0, 0, 0, 0⟩)) (fun i => hi (ps.getD i ⟨0, 0, 0, 0, 0, 0⟩)) k) ∧ Bel w wr) (fun _ i _ => ps.length - (intOf i).toNat)
  case atStart => exact ⟨0, Nat.zero_le _, rfl, HO1.out, HB1.out⟩
  case round =>
    obtain ⟨k, hk, rfl, ho, hb⟩ := hrel
    by_cases hlt : k < ps.length
    · obtain ⟨b, off, rfl, q0, q1, q2, q3, q4, q5⟩ := h3 k hlt
      have d0 := hb.cell q0
      have d1 := hb.cell q1
      have d2 := hb.cell q2
      have d3 := hb.cell q3
      have d4 := hb.cell q4
      have d5 := hb.cell q5
      have hss := spanCells_succ (fun i => lo (ps.getD i ⟨0, 0, 0, 0, 0, 0⟩)) (fun i => hi (ps.getD i ⟨0, 0, 0, 0, 0, 0⟩)) k
      have HS := Lib.hid hss
      have HO := Lib.hid ho
      have HB := Lib.hid hb
      clear h3 q0 q1 q2 q3 q4 q5 ho hb hss
      generalize ps.getD k ⟨0, 0, 0, 0, 0, 0⟩ = p at *
      go_wp2_with fail
      refine (HF.out p _).mono ?_
      rintro e w2 ⟨rfl, hb2⟩
      have HB2 := Lib.hid (((Bel.refl wr).alloc _).trans hb2)
      clear hb2 d0 d1 d2 d3 d4 d5
      have hm1 : k + 1 ≤ maxLen := by unfold maxLen; omega
      have hm2 : (k + 1) * 16 ≤ 140737488355328 := by omega
      have hm3 : w.heap.size ≤ (w2.alloc (.cells #[.int .i64 (lo p), .int .i64 (hi p)] 54)).heap.size := by have := HB.out.size; have := HB2.out.size; simp; omega
      go_wp2_with (at_builtin; refine wpList_append_own _ rfl _ _ 42 rfl w.heap.size 54 i0 (.agg #[.int .i64 0, .int .i64 0]) 2 16 Try.underlying42 hi0 hz0 hz1 hz2 rfl (by decide) _ _ _ rfl ((ownsRow_bel HO.out HB2.out).alloc _) ⟨w2.heap.size, 0, none⟩ 1 1 [.int .i64 (lo p), .int .i64 (hi p)] rfl rfl (two_new _ _ _ _) (by simp [Value.oneCell']) hm1 hm2 hm3 ?_; intro v' w3 hown2 hgrow _; have HO2 := Lib.hid hown2; have HB3 := Lib.hid (((HB.out.trans HB2.out).alloc _).grown hgrow (fun k hk => (HO.out.lt k hk).1)); clear hown2 hgrow)
      go_roundw
      case rel => exact ⟨k + 1, by omega, by go_num, by rw [HS.out]; exact HO2.out, HB3.out⟩
      case measure => simp [intOf]; omega
    · obtain rfl : k = ps.length := by omega
      have HO := Lib.hid ho
      have HB := Lib.hid hb
      clear ho hb h3 hlt
      go_wp2
      go_ret
      exact ⟨_, rfl, own_spans HO.out, HB.out⟩

end Go.Proofs.Ytpkadofgmhninaa
