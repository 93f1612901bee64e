/- The plans of a sign, one after another; the one with the fewest firings; whether there is one. -/
import Derived.Test.YtpkadofgmhninaaTail
namespace Go.Proofs.Ytpkadofgmhninaa
open Go.RowKit
attribute [local go_sem] Oper.semAt_some

structure SignD (n : Nat) (s : CSet) (cs : List Nat) (pv ev cv : Value) (W : World) : Prop where
  size : n ≤ W.heap.size
  paints : Paints W pv s.paints
  pairs : Pairs W ev s.eats
  cols : Cols W cv cs
theorem SignD.bel {n : Nat} {s : CSet} {cs : List Nat} {pv ev cv : Value} {A B : World} (h : SignD n s cs pv ev cv A) (b : Bel A B) : SignD n s cs pv ev cv B :=
  ⟨Nat.le_trans h.size b.size, h.paints.bel b, h.pairs.bel b, h.cols.bel b⟩
theorem SignD.quiet {n m : Nat} {s : CSet} {cs : List Nat} {pv ev cv : Value} {A B : World} (h : SignD n s cs pv ev cv A) (b : Quiet m A B) : SignD n s cs pv ev cv B :=
  ⟨Nat.le_trans h.size b.size, b.paints h.paints, b.pairs h.pairs, h.cols.quiet b⟩
theorem AfterD.signD {n B1 B2 : Nat} {s : CSet} {cs : List Nat} {pv ev cv bv : Value} {hs : List Value} {p : Rounds} {W : World} (h : AfterD n B1 B2 s cs pv ev cv bv hs p W) : SignD n s cs pv ev cv W := ⟨h.size, h.paints, h.pairs, h.cols⟩

theorem planOk_nil (n : Nat) : PlanOk n [] := ⟨nofun, nofun, List.nodup_nil⟩

set_option maxRecDepth 100000 in
set_option maxHeartbeats 2000000 in
theorem right_seq (n : Nat) (s : CSet) (hs : s.Ok) (cs : List Nat) (hcs : Cl s.paints.length cs) (pv ev cv : Value) :
    SeqQ 70 #[.agg #[pv, .int .i64 s.near, .int .i64 s.give, ev, cv]] #[] (EPlan n) (s.plansOf cs) (SignD n s cs pv ev cv) := by
  intro L J Jx W hD hJ hJx hY h0
  have hn5 := hs.n5
  have hcl : cs.length ≤ 5 := Nat.le_trans hcs.len hn5
  have hdl : (dropOut cs ([] : Rounds).flatten).length < 6 := by have := List.length_filter_le (fun x => !([] : Rounds).flatten.contains x) cs; unfold dropOut; omega
  have HD := Lib.hid hD
  obtain ⟨pa, pc, rfl, hp1, hp2, -, -⟩ := hD.paints
  obtain ⟨ea, ec, rfl, he1, he2, -, -⟩ := hD.pairs
  obtain ⟨ca, cc, rfl, hc1, hc2, -, -⟩ := hD.cols
  unfold maxLen at hp2 he2 hc2
  rw [List.length_map] at hc1
  simp only [List.length_map] at HD hY ⊢
  have HSQ := fun B1 B2 => after1_seq n s hs cs hcs (.slice pa s.paints.length pc) (.slice ea s.eats.length ec) (.slice ca cs.length cc) 6 [] (.slice none 0 0) [] B1 B2 (planOk_nil _) hdl
  have HSQ := Lib.hid HSQ
  have HJ := Lib.hid hJ
  have HJx := Lib.hid hJx
  have HY := Lib.hid hY
  have H0 := Lib.hid h0
  have cw := C5.new W (.slice pa s.paints.length pc) (.int .i64 s.near) (.int .i64 s.give) (.slice ea s.eats.length ec) (.slice ca cs.length cc) 106
  have bw := (Bel.refl W).alloc (.cells #[.slice pa s.paints.length pc, .int .i64 s.near, .int .i64 s.give, .slice ea s.eats.length ec, .slice ca cs.length cc] 106)
  have BW := Lib.hid bw
  obtain ⟨c0, c1, c2, c3, c4⟩ := cw
  clear hD hJ hJx hY h0 hs hcs bw hdl
  refine (callsIn_wide (n := 0)).1 (callsIn_of_wp Try.func70 rfl trivial ?_ rfl)
  simp only [Try.ntmps70, List.size_toArray, List.length_cons, List.length_nil, Nat.reduceAdd, Nat.reduceSub, Array.replicate_succ, Array.replicate_zero, List.push_toArray, List.append_toArray, List.nil_append, List.cons_append]
  gi_wp2_with fail
  refine ⟨trivial, rfl, (callsW (after_any _ _ _ _ _ _ _ _ _ _ _ _ _ _ _)).mono ?_⟩
  rintro e w1 ⟨rfl, hw1⟩
  obtain ⟨k1, k2, k3⟩ := after_boxes hw1
  have K1 := Lib.hid k1
  have K2 := Lib.hid k2
  have K3 := Lib.hid (BW.out.trans k3)
  clear hw1 k1 k2 k3 c0 c1 c2 c3 c4
  gi_wp2_with fail
  have hsz := BW.out.size
  have hz1 := K3.out.size
  have key := HSQ.out (W.heap.size + 1) (W.heap.size + 1 + 1) L J Jx w1
    ⟨Nat.le_trans HD.out.size hz1, by have := K1.out; simpa using this, by have := K2.out; simpa using this, HD.out.paints.bel K3.out, HD.out.pairs.bel K3.out, HD.out.cols.bel K3.out, rndsH_nil _ _⟩
    (fun pre A B h q => HJ.out pre A B h (q.mono hz1)) (fun pre A B h q => HJx.out pre A B h (q.mono hz1))
    (fun pre x vs W1 h hd hpre hE => YieldAt.mono (HY.out pre x vs W1 h hd.signD hpre hE) (fun e W' ⟨h1, h2, h3⟩ =>
      ⟨⟨h1.size, hd.sign.keep h2 (by omega), h2.boxed (by omega) hd.box, h1.paints, h1.pairs, h1.cols, rndsH_nil _ _⟩, h2.mono hz1, h3⟩))
    (HJ.out _ _ _ H0.out (K3.out.quiet _))
  have KEY := Lib.hid key
  clear key
  refine ⟨trivial, rfl, (callsW KEY.out).mono ?_⟩
  rintro e w2 ⟨⟨v, rfl⟩, hd, hor⟩
  have H1 := Lib.hid hd.signD
  have H2 := Lib.hid hor
  clear hd hor
  gi_wp2_with fail
  go_end0
  exact ⟨⟨_, rfl⟩, H1.out, H2.out⟩

theorem plansOf_ok {s : CSet} {cs : List Nat} (hcs : Cl s.paints.length cs) {q : Rounds} (h : q ∈ s.plansOf cs) : PlanOk s.paints.length q := by
  obtain ⟨h1, h2, h3, _⟩ := CSet.plansFrom_sound s hcs.2 6 [] q (CSet.part_nil cs) h
  exact ⟨h1.some_, fun r hr => ⟨fun c hc => hcs.1 c ((h1.sub r hr).subset hc), hcs.2.sublist (h1.sub r hr)⟩, h1.once⟩

set_option maxRecDepth 100000 in
set_option maxHeartbeats 4000000 in
theorem can_any (s : CSet) (hs : s.Ok) (cs : List Nat) (hcs : Cl s.paints.length cs) (pv ev cv : Value) (w : World) (hD : SignD 0 s cs pv ev cv w) :
    Calls Try.prog 42 #[.agg #[pv, .int .i64 s.near, .int .i64 s.give, ev, cv]] w fun e w' => e = .returned (.bool (s.can cs)) ∧ Bel w w' := by
  have HD := Lib.hid hD
  have HSEQ := Lib.hid (right_seq 0 s hs cs hcs pv ev cv)
  obtain ⟨pa, pc, rfl, hp1, hp2, -, -⟩ := hD.paints
  obtain ⟨ea, ec, rfl, he1, he2, -, -⟩ := hD.pairs
  obtain ⟨ca, cc, rfl, hc1, hc2, -, -⟩ := hD.cols
  simp only [List.length_map] at HD HSEQ hc1 ⊢
  obtain ⟨c0, c1, c2, c3, c4⟩ := (C5.new w (.slice pa s.paints.length pc) (.int .i64 s.near) (.int .i64 s.give) (.slice ea s.eats.length ec) (.slice ca cs.length cc) 106).bel ((Bel.refl _).alloc (.cells #[.bool false] 4))
  have x2 := Boxed.new (w.alloc (.cells #[.slice pa s.paints.length pc, .int .i64 s.near, .int .i64 s.give, .slice ea s.eats.length ec, .slice ca cs.length cc] 106)) 4 (.bool false)
  rw [World.size_alloc] at x2
  have b0 := ((Bel.refl w).alloc (.cells #[.slice pa s.paints.length pc, .int .i64 s.near, .int .i64 s.give, .slice ea s.eats.length ec, .slice ca cs.length cc] 106)).alloc (.cells #[.bool false] 4)
  have z0 : ((w.alloc (.cells #[.slice pa s.paints.length pc, .int .i64 s.near, .int .i64 s.give, .slice ea s.eats.length ec, .slice ca cs.length cc] 106)).alloc (.cells #[.bool false] 4)).heap.size = w.heap.size + 2 := by simp
  have X2 := Lib.hid x2
  have B0 := Lib.hid b0
  have Z0 := Lib.hid z0
  clear hD hs hcs x2 b0 z0
  refine (callsIn_wide (n := 0)).1 (callsIn_of_wp_marks Try.func42 rfl trivial ?_ rfl)
  simp only [Try.ntmps42, List.size_toArray, List.length_cons, List.length_nil, Nat.reduceAdd, Nat.reduceSub, Array.replicate_succ, Array.replicate_zero, List.push_toArray, List.append_toArray, List.nil_append, List.cons_append]
  gi_wp2_with fail
  generalize (w.alloc (.cells #[.slice pa s.paints.length pc, .int .i64 s.near, .int .i64 s.give, .slice ea s.eats.length ec, .slice ca cs.length cc] 106)).alloc (.cells #[.bool false] 4) = W0 at *
  clear c0 c1 c2 c3 c4
  refine rf_outer (gf := 70) (fs := #[.agg #[.slice pa s.paints.length pc, .int .i64 s.near, .int .i64 s.give, .slice ea s.eats.length ec, .slice ca cs.length cc]]) (lb := #[]) rfl (enters_of Try.func70 (by kernel_rfl) rfl) HSEQ.out (HD.out.bel B0.out) (fun A B h q => h.quiet q) (fun W vs x h => by obtain ⟨_, _, rfl, _⟩ := h; rfl)
    (fun pre W => pre = [] ∧ Bel w W ∧ Boxed W (w.heap.size + 1) 4 (.bool false))
    (fun c pre W => c = .ret ∧ pre ≠ [] ∧ Bel w W ∧ Boxed W (w.heap.size + 1) 4 (.bool true))
    (fun pre A B h q => ⟨h.1, q.below h.2.1 (by have := Z0.out; omega), q.boxed h.2.2⟩)
    (fun c pre A B h q => ⟨h.1, h.2.1, q.below h.2.2.1 (by have := Z0.out; omega), q.boxed h.2.2.2⟩)
    ⟨rfl, B0.out, X2.out⟩ ?round ?done ?stop
  case stop =>
    rintro d c pre W hd hpre ⟨rfl, hne, hbw, h4⟩ hcw hK
    have hfin := Lib.hid (show s.can cs = true by
      obtain ⟨t, ht⟩ := hpre
      unfold CSet.can
      rw [← ht]
      cases pre with
      | nil => exact absurd rfl hne
      | cons x pre => rfl)
    clear hne hpre hcw
    gi_wp2_with fail
    have hq : Quiet W0.heap.size W (W.putObj d (.deferred none)) := Quiet.putObj _ hK rfl hd
    have c4 := (hq.boxed h4).cell
    refine ⟨by simp, .inl ⟨_, _, rfl, run_takeDeferred hK, ?_⟩⟩
    exact ⟨.bool true, by simp [results, Try.results42, go_sem, c4], by rw [hfin.out], hq.below hbw (by have := Z0.out; omega)⟩
  case done =>
    rintro d W hd ⟨hnil, hbw, h4⟩ hcw hK
    have hfin := Lib.hid (show s.can cs = false by unfold CSet.can; rw [hnil]; rfl)
    have c4 := h4.cell
    have f4 := h4.frozen
    have H4 := Lib.hid h4
    have HBW := Lib.hid hbw
    clear hnil h4 hbw hcw
    gi_wp2_with fail
    have hV4 := H4.out.set (.bool false)
    have hbt := But.set (w.heap.size + 1) 0 W (.bool false)
    have hKV : (W.setCell ⟨w.heap.size + 1, 0, none⟩ (.bool false)).heap[d]? = some (.deferred (some [])) := (hbt.block d (Array.getElem?_eq_some_iff.1 hK).1 (by have := Z0.out; omega)).trans hK
    have hbw2 := hbt.bel HBW.out (by omega)
    generalize W.setCell ⟨w.heap.size + 1, 0, none⟩ (.bool false) = V at *
    have hq : Quiet W0.heap.size V (V.putObj d (.deferred none)) := Quiet.putObj _ hKV rfl hd
    have c5 := (hq.boxed hV4).cell
    refine ⟨by simp, .inl ⟨_, _, rfl, run_takeDeferred hKV, ?_⟩⟩
    exact ⟨.bool false, by simp [results, Try.results42, go_sem, c5], by rw [hfin.out], hq.below hbw2 (by have := Z0.out; omega)⟩
  case round =>
    rintro l pre x vs W hl ⟨hnil, hbw, h4⟩ hcw hpre ⟨xv, xhs, rfl, hE⟩
    gi_wp2_with fail
    refine ⟨Bel.refl W, fun W2 q _ _ => ?_⟩
    have hbw2 := q.below hbw (by have := Z0.out; omega)
    have h42 := q.boxed h4
    have HSD := Lib.hid (hcw.quiet q)
    have HW2 := Lib.hid hbw2
    have H42 := Lib.hid h42
    have k4 := h42.cell
    have f4 := h42.frozen
    clear hnil hbw h4 hcw q hbw2 h42 hE hpre
    gi_wp2_with fail
    have hbt := But.set (w.heap.size + 1) 0 W2 (.bool true)
    have hbw3 := hbt.bel HW2.out (by omega)
    exact ⟨HD.out.bel hbw3, hbt.keep (by have := Z0.out; omega), rfl, by simp, hbw3, H42.out.set _⟩

end Go.Proofs.Ytpkadofgmhninaa
