/- The plans of a sign, one after another; the one with the fewest firings; whether there is one. The plan with the fewest firings. -/
import Derived.Test.YtpkadofgmhninaaTail
namespace Go.Proofs.Ytpkadofgmhninaa
open Go.RowKit
attribute [local go_sem] Oper.semAt_some

structure SignD (n : Nat) (s : CSet) (cs : List Nat) (pv ev cv : Value) (W : World) : Prop where
  size : n ≤ W.heap.size
  paints : Paints W pv s.paints
  pairs : Pairs W ev s.eats
  cols : Cols W cv cs
theorem SignD.bel {n : Nat} {s : CSet} {cs : List Nat} {pv ev cv : Value} {A B : World} (h : SignD n s cs pv ev cv A) (b : Bel A B) : SignD n s cs pv ev cv B :=
  ⟨Nat.le_trans h.size b.size, h.paints.bel b, h.pairs.bel b, h.cols.bel b⟩
theorem SignD.quiet {n m : Nat} {s : CSet} {cs : List Nat} {pv ev cv : Value} {A B : World} (h : SignD n s cs pv ev cv A) (b : Quiet m A B) : SignD n s cs pv ev cv B :=
  ⟨Nat.le_trans h.size b.size, b.paints h.paints, b.pairs h.pairs, h.cols.quiet b⟩
theorem AfterD.signD {n B1 B2 : Nat} {s : CSet} {cs : List Nat} {pv ev cv bv : Value} {hs : List Value} {p : Rounds} {W : World} (h : AfterD n B1 B2 s cs pv ev cv bv hs p W) : SignD n s cs pv ev cv W := ⟨h.size, h.paints, h.pairs, h.cols⟩

theorem planOk_nil (n : Nat) : PlanOk n [] := ⟨nofun, nofun, List.nodup_nil⟩

set_option maxRecDepth 100000 in
set_option maxHeartbeats 2000000 in
theorem right_seq (n : Nat) (s : CSet) (hs : s.Ok) (cs : List Nat) (hcs : Cl s.paints.length cs) (pv ev cv : Value) :
    SeqQ 70 #[.agg #[pv, .int .i64 s.near, .int .i64 s.give, ev, cv]] #[] (EPlan n) (s.plansOf cs) (SignD n s cs pv ev cv) := by
  intro L J Jx W hD hJ hJx hY h0
  have hn5 := hs.n5
  have hcl : cs.length ≤ 5 := Nat.le_trans hcs.len hn5
  have hdl : (dropOut cs ([] : Rounds).flatten).length < 6 := by have := List.length_filter_le (fun x => !([] : Rounds).flatten.contains x) cs; unfold dropOut; omega
  have HD := Lib.hid hD
  obtain ⟨pa, pc, rfl, hp1, hp2, -, -⟩ := hD.paints
  obtain ⟨ea, ec, rfl, he1, he2, -, -⟩ := hD.pairs
  obtain ⟨ca, cc, rfl, hc1, hc2, -, -⟩ := hD.cols
  unfold maxLen at hp2 he2 hc2
  rw [List.length_map] at hc1
  simp only [List.length_map] at HD hY ⊢
  have HSQ := fun B1 B2 => after1_seq n s hs cs hcs (.slice pa s.paints.length pc) (.slice ea s.eats.length ec) (.slice ca cs.length cc) 6 [] (.slice none 0 0) [] B1 B2 (planOk_nil _) hdl
  have HSQ := Lib.hid HSQ
  have HJ := Lib.hid hJ
  have HJx := Lib.hid hJx
  have HY := Lib.hid hY
  have H0 := Lib.hid h0
  have cw := C5.new W (.slice pa s.paints.length pc) (.int .i64 s.near) (.int .i64 s.give) (.slice ea s.eats.length ec) (.slice ca cs.length cc) 106
  have bw := (Bel.refl W).alloc (.cells #[.slice pa s.paints.length pc, .int .i64 s.near, .int .i64 s.give, .slice ea s.eats.length ec, .slice ca cs.length cc] 106)
  have BW := Lib.hid bw
  obtain ⟨c0, c1, c2, c3, c4⟩ := cw
  clear hD hJ hJx hY h0 hs hcs bw hdl
  refine (callsIn_wide (n := 0)).1 (callsIn_of_wp Try.func70 rfl trivial ?_ rfl)
  simp only [Try.ntmps70, List.size_toArray, List.length_cons, List.length_nil, Nat.reduceAdd, Nat.reduceSub, Array.replicate_succ, Array.replicate_zero, List.push_toArray, List.append_toArray, List.nil_append, List.cons_append]
  gi_wp2_with fail
  refine ⟨trivial, rfl, (callsW (after_any _ _ _ _ _ _ _ _ _ _ _ _ _ _ _)).mono ?_⟩
  rintro e w1 ⟨rfl, hw1⟩
  obtain ⟨k1, k2, k3⟩ := after_boxes hw1
  have K1 := Lib.hid k1
  have K2 := Lib.hid k2
  have K3 := Lib.hid (BW.out.trans k3)
  clear hw1 k1 k2 k3 c0 c1 c2 c3 c4
  gi_wp2_with fail
  have hsz := BW.out.size
  have hz1 := K3.out.size
  have key := HSQ.out (W.heap.size + 1) (W.heap.size + 1 + 1) L J Jx w1
    ⟨Nat.le_trans HD.out.size hz1, by have := K1.out; simpa using this, by have := K2.out; simpa using this, HD.out.paints.bel K3.out, HD.out.pairs.bel K3.out, HD.out.cols.bel K3.out, rndsH_nil _ _⟩
    (fun pre A B h q => HJ.out pre A B h (q.mono hz1)) (fun pre A B h q => HJx.out pre A B h (q.mono hz1))
    (fun pre x vs W1 h hd hpre hE => YieldAt.mono (HY.out pre x vs W1 h hd.signD hpre hE) (fun e W' ⟨h1, h2, h3⟩ =>
      ⟨⟨h1.size, hd.sign.keep h2 (by omega), h2.boxed (by omega) hd.box, h1.paints, h1.pairs, h1.cols, rndsH_nil _ _⟩, h2.mono hz1, h3⟩))
    (HJ.out _ _ _ H0.out (K3.out.quiet _))
  have KEY := Lib.hid key
  clear key
  refine ⟨trivial, rfl, (callsW KEY.out).mono ?_⟩
  rintro e w2 ⟨⟨v, rfl⟩, hd, hor⟩
  have H1 := Lib.hid hd.signD
  have H2 := Lib.hid hor
  clear hd hor
  gi_wp2_with fail
  go_end0
  exact ⟨⟨_, rfl⟩, H1.out, H2.out⟩

theorem plansOf_ok {s : CSet} {cs : List Nat} (hcs : Cl s.paints.length cs) {q : Rounds} (h : q ∈ s.plansOf cs) : PlanOk s.paints.length q := by
  obtain ⟨h1, h2, h3, _⟩ := CSet.plansFrom_sound s hcs.2 6 [] q (CSet.part_nil cs) h
  exact ⟨h1.some_, fun r hr => ⟨fun c hc => hcs.1 c ((h1.sub r hr).subset hc), hcs.2.sublist (h1.sub r hr)⟩, h1.once⟩

set_option maxRecDepth 100000 in
set_option maxHeartbeats 4000000 in
theorem can_any (s : CSet) (hs : s.Ok) (cs : List Nat) (hcs : Cl s.paints.length cs) (pv ev cv : Value) (w : World) (hD : SignD 0 s cs pv ev cv w) :
    Calls Try.prog 42 #[.agg #[pv, .int .i64 s.near, .int .i64 s.give, ev, cv]] w fun e w' => e = .returned (.bool (s.can cs)) ∧ Bel w w' := by
  have HD := Lib.hid hD
  have HSEQ := Lib.hid (right_seq 0 s hs cs hcs pv ev cv)
  obtain ⟨pa, pc, rfl, hp1, hp2, -, -⟩ := hD.paints
  obtain ⟨ea, ec, rfl, he1, he2, -, -⟩ := hD.pairs
  obtain ⟨ca, cc, rfl, hc1, hc2, -, -⟩ := hD.cols
  simp only [List.length_map] at HD HSEQ hc1 ⊢
  obtain ⟨c0, c1, c2, c3, c4⟩ := (C5.new w (.slice pa s.paints.length pc) (.int .i64 s.near) (.int .i64 s.give) (.slice ea s.eats.length ec) (.slice ca cs.length cc) 106).bel ((Bel.refl _).alloc (.cells #[.bool false] 4))
  have x2 := Boxed.new (w.alloc (.cells #[.slice pa s.paints.length pc, .int .i64 s.near, .int .i64 s.give, .slice ea s.eats.length ec, .slice ca cs.length cc] 106)) 4 (.bool false)
  rw [World.size_alloc] at x2
  have b0 := ((Bel.refl w).alloc (.cells #[.slice pa s.paints.length pc, .int .i64 s.near, .int .i64 s.give, .slice ea s.eats.length ec, .slice ca cs.length cc] 106)).alloc (.cells #[.bool false] 4)
  have z0 : ((w.alloc (.cells #[.slice pa s.paints.length pc, .int .i64 s.near, .int .i64 s.give, .slice ea s.eats.length ec, .slice ca cs.length cc] 106)).alloc (.cells #[.bool false] 4)).heap.size = w.heap.size + 2 := by simp
  have X2 := Lib.hid x2
  have B0 := Lib.hid b0
  have Z0 := Lib.hid z0
  clear hD hs hcs x2 b0 z0
  refine (callsIn_wide (n := 0)).1 (callsIn_of_wp_marks Try.func42 rfl trivial ?_ rfl)
  simp only [Try.ntmps42, List.size_toArray, List.length_cons, List.length_nil, Nat.reduceAdd, Nat.reduceSub, Array.replicate_succ, Array.replicate_zero, List.push_toArray, List.append_toArray, List.nil_append, List.cons_append]
  gi_wp2_with fail
  generalize (w.alloc (.cells #[.slice pa s.paints.length pc, .int .i64 s.near, .int .i64 s.give, .slice ea s.eats.length ec, .slice ca cs.length cc] 106)).alloc (.cells #[.bool false] 4) = W0 at *
  clear c0 c1 c2 c3 c4
  refine rf_outer (gf := 70) (fs := #[.agg #[.slice pa s.paints.length pc, .int .i64 s.near, .int .i64 s.give, .slice ea s.eats.length ec, .slice ca cs.length cc]]) (lb := #[]) rfl (enters_of Try.func70 (by kernel_rfl) rfl) HSEQ.out (HD.out.bel B0.out) (fun A B h q => h.quiet q) (fun W vs x h => by obtain ⟨_, _, rfl, _⟩ := h; rfl)
    (fun pre W => pre = [] ∧ Bel w W ∧ Boxed W (w.heap.size + 1) 4 (.bool false))
    (fun c pre W => c = .ret ∧ pre ≠ [] ∧ Bel w W ∧ Boxed W (w.heap.size + 1) 4 (.bool true))
    (fun pre A B h q => ⟨h.1, q.below h.2.1 (by have := Z0.out; omega), q.boxed h.2.2⟩)
    (fun c pre A B h q => ⟨h.1, h.2.1, q.below h.2.2.1 (by have := Z0.out; omega), q.boxed h.2.2.2⟩)
    ⟨rfl, B0.out, X2.out⟩ ?round ?done ?stop
  case stop =>
    rintro d c pre W hd hpre ⟨rfl, hne, hbw, h4⟩ hcw hK
    have hfin := Lib.hid (show s.can cs = true by
      obtain ⟨t, ht⟩ := hpre
      unfold CSet.can
      rw [← ht]
      cases pre with
      | nil => exact absurd rfl hne
      | cons x pre => rfl)
    clear hne hpre hcw
    gi_wp2_with fail
    have hq : Quiet W0.heap.size W (W.putObj d (.deferred none)) := Quiet.putObj _ hK rfl hd
    have c4 := (hq.boxed h4).cell
    refine ⟨by simp, .inl ⟨_, _, rfl, run_takeDeferred hK, ?_⟩⟩
    exact ⟨.bool true, by simp [results, Try.results42, go_sem, c4], by rw [hfin.out], hq.below hbw (by have := Z0.out; omega)⟩
  case done =>
    rintro d W hd ⟨hnil, hbw, h4⟩ hcw hK
    have hfin := Lib.hid (show s.can cs = false by unfold CSet.can; rw [hnil]; rfl)
    have c4 := h4.cell
    have f4 := h4.frozen
    have H4 := Lib.hid h4
    have HBW := Lib.hid hbw
    clear hnil h4 hbw hcw
    gi_wp2_with fail
    have hV4 := H4.out.set (.bool false)
    have hbt := But.set (w.heap.size + 1) 0 W (.bool false)
    have hKV : (W.setCell ⟨w.heap.size + 1, 0, none⟩ (.bool false)).heap[d]? = some (.deferred (some [])) := (hbt.block d (Array.getElem?_eq_some_iff.1 hK).1 (by have := Z0.out; omega)).trans hK
    have hbw2 := hbt.bel HBW.out (by omega)
    generalize W.setCell ⟨w.heap.size + 1, 0, none⟩ (.bool false) = V at *
    have hq : Quiet W0.heap.size V (V.putObj d (.deferred none)) := Quiet.putObj _ hKV rfl hd
    have c5 := (hq.boxed hV4).cell
    refine ⟨by simp, .inl ⟨_, _, rfl, run_takeDeferred hKV, ?_⟩⟩
    exact ⟨.bool false, by simp [results, Try.results42, go_sem, c5], by rw [hfin.out], hq.below hbw2 (by have := Z0.out; omega)⟩
  case round =>
    rintro l pre x vs W hl ⟨hnil, hbw, h4⟩ hcw hpre ⟨xv, xhs, rfl, hE⟩
    gi_wp2_with fail
    refine ⟨Bel.refl W, fun W2 q _ _ => ?_⟩
    have hbw2 := q.below hbw (by have := Z0.out; omega)
    have h42 := q.boxed h4
    have HSD := Lib.hid (hcw.quiet q)
    have HW2 := Lib.hid hbw2
    have H42 := Lib.hid h42
    have k4 := h42.cell
    have f4 := h42.frozen
    clear hnil hbw h4 hcw q hbw2 h42 hE hpre
    gi_wp2_with fail
    have hbt := But.set (w.heap.size + 1) 0 W2 (.bool true)
    have hbw3 := hbt.bel HW2.out (by omega)
    exact ⟨HD.out.bel hbw3, hbt.keep (by have := Z0.out; omega), rfl, by simp, hbw3, H42.out.set _⟩

end Go.Proofs.Ytpkadofgmhninaa
namespace Go.Proofs.Ytpkadofgmhninaa
open Go.RowKit
attribute [local go_sem] Oper.semAt_some

/-- What has been found so far. -/
def Best (n : Nat) (s : CSet) (o : Option Rounds) (vb vo vl : Value) (W : World) : Prop :=
  match o with
  | none => vb = .slice none 0 0 ∧ vo = .bool false ∧ vl = .int .i64 0
  | some q => (∃ hs, RndsH n hs W vb q) ∧ vo = .bool true ∧ vl = .int .i64 (s.fire q).2
theorem Best.quiet {n m : Nat} {s : CSet} {o : Option Rounds} {vb vo vl : Value} {A B : World} (h : Best n s o vb vo vl A) (q : Quiet m A B) : Best n s o vb vo vl B := by
  cases o with
  | none => exact h
  | some r => obtain ⟨⟨hs, h1⟩, h2⟩ := h; exact ⟨⟨hs, h1.quiet q⟩, h2⟩
theorem Best.keep {n : Nat} {s : CSet} {o : Option Rounds} {vb vo vl : Value} {A B : World} (h : Best n s o vb vo vl A) (q : KeepFrom n A B) : Best n s o vb vo vl B := by
  cases o with
  | none => exact h
  | some r => obtain ⟨⟨hs, h1⟩, h2⟩ := h; exact ⟨⟨hs, h1.keep q⟩, h2⟩
theorem Best.slice {n : Nat} {s : CSet} {o : Option Rounds} {vb vo vl : Value} {A : World} (h : Best n s o vb vo vl A) : ∃ a k c, vb = .slice a k c := by
  cases o with
  | none => exact ⟨_, _, _, h.1⟩
  | some r => obtain ⟨⟨hs, h1⟩, -⟩ := h; obtain ⟨a, c, e, _⟩ := h1.vals; exact ⟨_, _, _, e⟩

theorem Best.mono {n m : Nat} {s : CSet} {o : Option Rounds} {vb vo vl : Value} {A : World} (h : Best n s o vb vo vl A) (hm : m ≤ n) : Best m s o vb vo vl A := by
  cases o with
  | none => exact h
  | some r => obtain ⟨⟨hs, h1⟩, h2⟩ := h; exact ⟨⟨hs, h1.vals, h1.len, fun e => (h1.from_ e).mono hm, fun i hi => ⟨(h1.each i hi).1.mono hm, (h1.each i hi).2⟩⟩, h2⟩

theorem store3 {w W : World} {n B1 B2 B3 B0 : Nat} {t1 t2 t3 : TypeId} {vb vo vl xb xo xl a b c d e : Value} (h1 : Boxed W B1 t1 vb) (h2 : Boxed W B2 t2 vo) (h3 : Boxed W B3 t3 vl) (h0 : C5 W B0 a b c d e)
    (n12 : B1 ≠ B2) (n13 : B1 ≠ B3) (n23 : B2 ≠ B3) (m1 : B0 ≠ B1) (m2 : B0 ≠ B2) (m3 : B0 ≠ B3) (hb : Bel w W) (g1 : w.heap.size ≤ B1) (g2 : w.heap.size ≤ B2) (g3 : w.heap.size ≤ B3) (l1 : B1 < n) (l2 : B2 < n) (l3 : B3 < n) {V : World}
    (hV : ((W.setCell ⟨B1, 0, none⟩ xb).setCell ⟨B3, 0, none⟩ xl).setCell ⟨B2, 0, none⟩ xo = V) :
    Boxed V B1 t1 xb ∧ Boxed V B2 t2 xo ∧ Boxed V B3 t3 xl ∧ C5 V B0 a b c d e ∧ Bel w V ∧ KeepFrom n W V := by
  subst hV
  have e1 := But.set B1 0 W xb
  have e2 := But.set B3 0 (W.setCell ⟨B1, 0, none⟩ xb) xl
  have e3 := But.set B2 0 ((W.setCell ⟨B1, 0, none⟩ xb).setCell ⟨B3, 0, none⟩ xl) xo
  have c5 : ∀ {m : Nat} {A B : World}, But m A B → B0 ≠ m → C5 A B0 a b c d e → C5 B B0 a b c d e := fun q hm h =>
    ⟨q.cell hm h.1, q.cell hm h.2.1, q.cell hm h.2.2.1, q.cell hm h.2.2.2.1, q.cell hm h.2.2.2.2⟩
  exact ⟨e3.boxed n12 (e2.boxed n13 (h1.set _)), ((e2.boxed n23 (e1.boxed n12.symm h2)).set _), e3.boxed n23.symm ((e1.boxed n13.symm h3).set _), c5 e3 m2 (c5 e2 m3 (c5 e1 m1 h0)), e3.bel (e2.bel (e1.bel hb g1) g3) g2, ((e1.keep l1).trans (e2.keep l3)).trans (e3.keep l2)⟩

set_option maxRecDepth 100000 in
set_option maxHeartbeats 8000000 in
theorem splan_any (s : CSet) (hs : s.Ok) (cs : List Nat) (hcs : Cl s.paints.length cs) (pv ev cv : Value) (w : World) (hD : SignD 0 s cs pv ev cv w) :
    Calls Try.prog 41 #[.agg #[pv, .int .i64 s.near, .int .i64 s.give, ev, cv]] w fun e w' => ∃ vb vo vl, e = .returned (.tuple #[vb, vo]) ∧ Best w.heap.size s (s.planOf cs) vb vo vl w' ∧ Bel w w' := by
  have HD := Lib.hid hD
  have HSEQ0 := fun n => right_seq n s hs cs hcs pv ev cv
  have HSEQ := Lib.hid HSEQ0
  have HS := Lib.hid hs
  have HOK := Lib.hid (fun q (h : q ∈ s.plansOf cs) => plansOf_ok hcs h)
  have hn5 := hs.n5
  clear HSEQ0
  obtain ⟨pa, pc, rfl, hp1, hp2, -, -⟩ := hD.paints
  obtain ⟨ea, ec, rfl, he1, he2, -, -⟩ := hD.pairs
  obtain ⟨ca, cc, rfl, hc1, hc2, -, -⟩ := hD.cols
  simp only [List.length_map] at HD HSEQ hc1 ⊢
  obtain ⟨W0, hW0⟩ : ∃ W0, (((w.alloc (.cells #[.slice pa s.paints.length pc, .int .i64 s.near, .int .i64 s.give, .slice ea s.eats.length ec, .slice ca cs.length cc] 106)).alloc (.cells #[.slice none 0 0] 35)).alloc (.cells #[.bool false] 4)).alloc (.cells #[.int .i64 0] 3) = W0 := ⟨_, rfl⟩
  have hfacts : C5 W0 w.heap.size (.slice pa s.paints.length pc) (.int .i64 s.near) (.int .i64 s.give) (.slice ea s.eats.length ec) (.slice ca cs.length cc) ∧ Boxed W0 (w.heap.size + 1) 35 (.slice none 0 0) ∧ Boxed W0 (w.heap.size + 1 + 1) 4 (.bool false) ∧ Boxed W0 (w.heap.size + 1 + 1 + 1) 3 (.int .i64 0) ∧ Bel w W0 ∧ W0.heap.size = w.heap.size + 4 := by
    subst hW0
    have e1 := C5.new w (.slice pa s.paints.length pc) (.int .i64 s.near) (.int .i64 s.give) (.slice ea s.eats.length ec) (.slice ca cs.length cc) 106
    have e2 := Boxed.new (w.alloc (.cells #[.slice pa s.paints.length pc, .int .i64 s.near, .int .i64 s.give, .slice ea s.eats.length ec, .slice ca cs.length cc] 106)) 35 (.slice none 0 0)
    have e3 := Boxed.new ((w.alloc (.cells #[.slice pa s.paints.length pc, .int .i64 s.near, .int .i64 s.give, .slice ea s.eats.length ec, .slice ca cs.length cc] 106)).alloc (.cells #[.slice none 0 0] 35)) 4 (.bool false)
    have e4 := Boxed.new (((w.alloc (.cells #[.slice pa s.paints.length pc, .int .i64 s.near, .int .i64 s.give, .slice ea s.eats.length ec, .slice ca cs.length cc] 106)).alloc (.cells #[.slice none 0 0] 35)).alloc (.cells #[.bool false] 4)) 3 (.int .i64 0)
    rw [World.size_alloc] at e2
    rw [World.size_alloc, World.size_alloc] at e3
    rw [World.size_alloc, World.size_alloc, World.size_alloc] at e4
    exact ⟨((e1.bel ((Bel.refl _).alloc _)).bel ((Bel.refl _).alloc _)).bel ((Bel.refl _).alloc _), (e2.alloc _).alloc _, e3.alloc _, e4, ((((Bel.refl w).alloc _).alloc _).alloc _).alloc _, by simp⟩
  obtain ⟨f0, f1, f2, f3, b0, z0⟩ := hfacts
  obtain ⟨c0, c1, c2, c3, c4⟩ := f0
  rw [← hW0] at c0 c1 c2 c3 c4
  have F1 := Lib.hid f1
  have F0 := Lib.hid (show C5 W0 w.heap.size (.slice pa s.paints.length pc) (.int .i64 s.near) (.int .i64 s.give) (.slice ea s.eats.length ec) (.slice ca cs.length cc) from by rw [← hW0]; exact ⟨c0, c1, c2, c3, c4⟩)
  have F2 := Lib.hid f2
  have F3 := Lib.hid f3
  have B0 := Lib.hid b0
  have Z0 := Lib.hid z0
  have HW0 := Lib.hid hW0
  clear hD hs hcs f1 f2 f3 b0 z0 hW0
  refine (callsIn_wide (n := 0)).1 (callsIn_of_wp_marks Try.func41 rfl trivial ?_ rfl)
  simp only [Try.ntmps41, List.size_toArray, List.length_cons, List.length_nil, Nat.reduceAdd, Nat.reduceSub, Array.replicate_succ, Array.replicate_zero, List.push_toArray, List.append_toArray, List.nil_append, List.cons_append]
  gi_wp2_with fail
  rw [HW0.out]
  clear c0 c1 c2 c3 c4 HW0
  have HSEQ := Lib.hid (HSEQ.out W0.heap.size)
  have hz := Z0.out
  refine rf_outer (gf := 70) (fs := #[.agg #[.slice pa s.paints.length pc, .int .i64 s.near, .int .i64 s.give, .slice ea s.eats.length ec, .slice ca cs.length cc]]) (lb := #[]) rfl (enters_of Try.func70 (by kernel_rfl) rfl) HSEQ.out ⟨Nat.le_refl _, HD.out.paints.bel B0.out, HD.out.pairs.bel B0.out, HD.out.cols.bel B0.out⟩ (fun A B h q => h.quiet q) (fun W vs x h => by obtain ⟨_, _, rfl, _⟩ := h; rfl)
    (fun pre W => ∃ vb vo vl, Boxed W (w.heap.size + 1) 35 vb ∧ Boxed W (w.heap.size + 1 + 1) 4 vo ∧ Boxed W (w.heap.size + 1 + 1 + 1) 3 vl ∧ C5 W w.heap.size (.slice pa s.paints.length pc) (.int .i64 s.near) (.int .i64 s.give) (.slice ea s.eats.length ec) (.slice ca cs.length cc) ∧ Best W0.heap.size s (pre.foldl s.better none) vb vo vl W ∧ Bel w W)
    (fun _ _ _ => False)
    (fun pre A B h q => by
      obtain ⟨vb, vo, vl, h1, h2, h3, h4, h5, h6⟩ := h
      exact ⟨vb, vo, vl, q.boxed h1, q.boxed h2, q.boxed h3, q.c5 h4, h5.quiet q, q.below h6 (by omega)⟩)
    (fun c pre A B h q => h)
    ⟨_, _, _, F1.out, F2.out, F3.out, F0.out, ⟨rfl, rfl, rfl⟩, B0.out⟩ ?round ?done ?stop
  case stop =>
    rintro d c pre W hd hpre h
    exact h.elim
  case done =>
    rintro d W hd ⟨vb, vo, vl, h1, h2, h3, h4, h5, h6⟩ hcw hK
    have x1 := h1.cell
    have x2 := h2.cell
    have y1 := h1.frozen
    have y2 := h2.frozen
    have H1 := Lib.hid h1
    have H2 := Lib.hid h2
    have H5 := Lib.hid h5
    have H6 := Lib.hid h6
    have HK := Lib.hid hK
    have hsl := h5.slice
    clear h1 h2 h3 h4 h5 h6 hcw hK
    obtain ⟨ba, bk, bc, rfl⟩ := hsl
    have hvo : ∃ b, vo = .bool b := by
      have h := H5.out
      unfold Best at h
      split at h
      · exact ⟨_, h.2.1⟩
      · exact ⟨_, h.2.1⟩
    obtain ⟨bo, rfl⟩ := hvo
    gi_wp2_with fail
    have e1 := But.set (w.heap.size + 1) 0 W (.slice ba bk bc)
    have e2 := But.set (w.heap.size + 1 + 1) 0 (W.setCell ⟨w.heap.size + 1, 0, none⟩ (.slice ba bk bc)) (.bool bo)
    have r1 := e2.boxed (by omega) (H1.out.set (.slice ba bk bc))
    have r2 := (e1.boxed (by omega) H2.out).set (.bool bo)
    have r6 := e2.bel (e1.bel H6.out (by omega)) (by omega)
    have hlt := (Array.getElem?_eq_some_iff.1 HK.out).1
    have rK := (e2.block d (Nat.lt_of_lt_of_le hlt e1.size) (by omega)).trans ((e1.block d hlt (by omega)).trans HK.out)
    have r5 := H5.out.keep ((e1.keep (n := W0.heap.size) (by omega)).trans (e2.keep (by omega)))
    have R1 := Lib.hid r1
    have R2 := Lib.hid r2
    have R5 := Lib.hid r5
    have R6 := Lib.hid r6
    have RK := Lib.hid rK
    clear e1 e2 r1 r2 r5 r6 rK
    gi_region_with (fail)
    all_goals
      gi_wp2_with fail
      have dr : Bel ((W.setCell ⟨w.heap.size + 1, 0, none⟩ (.slice ba bk bc)).setCell ⟨w.heap.size + 1 + 1, 0, none⟩ (.bool bo)) (((W.setCell ⟨w.heap.size + 1, 0, none⟩ (.slice ba bk bc)).setCell ⟨w.heap.size + 1 + 1, 0, none⟩ (.bool bo)).drew) := (Bel.refl _).drew
      have k1 := dr.boxed R1.out
      have k2 := dr.boxed R2.out
      have k5 := R5.out.quiet (dr.quiet 0)
      have k6 := R6.out.trans dr
      have kK := (dr.block d (Array.getElem?_eq_some_iff.1 RK.out).1).trans RK.out
      generalize ((W.setCell ⟨w.heap.size + 1, 0, none⟩ (.slice ba bk bc)).setCell ⟨w.heap.size + 1 + 1, 0, none⟩ (.bool bo)).drew = U at *
      have hq : Quiet W0.heap.size U (U.putObj d (.deferred none)) := Quiet.putObj _ kK rfl hd
      have q1 := (hq.boxed k1).cell
      have q2 := (hq.boxed k2).cell
      refine ⟨by simp, .inl ⟨_, _, rfl, run_takeDeferred kK, ?_⟩⟩
      exact ⟨.tuple #[.slice ba bk bc, .bool bo], by simp [results, Try.results41, go_sem, q1, q2], _, _, _, rfl, (k5.quiet hq).mono (by omega), hq.below k6 (by omega)⟩
  case round =>
    rintro l pre x vs W hl ⟨vb, vo, vl, h1, h2, h3, h4, h5, h6⟩ hcw hpre ⟨xv, xhs, rfl, hE⟩
    gi_wp2_with fail
    refine ⟨Bel.refl W, fun W2 q _ hloop => ?_⟩
    have hxm : x ∈ s.plansOf cs := hpre.subset (by simp)
    have hxv := hE.vals
    have HSD := Lib.hid (hcw.quiet q)
    have H1 := Lib.hid (q.boxed h1)
    have H2 := Lib.hid (q.boxed h2)
    have H3 := Lib.hid (q.boxed h3)
    have H4 := Lib.hid (q.c5 h4)
    have H5 := Lib.hid (h5.quiet q)
    have H6 := Lib.hid (q.below h6 (by omega))
    have HE := Lib.hid (hE.quiet q)
    have hok := HOK.out x hxm
    have hfb := fire_bound s HS.out x (fun r hr => (hok.asc r hr).1)
    have hlen := Nat.le_trans hok.len hn5
    have hfi := fun W3 (h : Bel W2 W3) => firings_any s HS.out (.slice pa s.paints.length pc) (.slice ea s.eats.length ec) xv x W3 ⟨HSD.out.paints.bel h, HSD.out.pairs.bel h, (HE.out.bel h).rnds⟩ hok
    have HFI := Lib.hid hfi
    obtain ⟨xa, xc, rfl, -, -, -, -⟩ := hxv
    have hst : (pre ++ [x]).foldl s.better none = s.better (pre.foldl s.better none) x := by rw [List.foldl_append]; rfl
    have HST := Lib.hid hst
    generalize hF : (s.fire x).2 = F at *
    have HF := Lib.hid hF
    obtain ⟨d0, d1, d2, d3, d4⟩ := H4.out
    clear h1 h2 h3 h4 h5 h6 hE q hcw hpre hxm hok hfi hst hF hloop
    gi_wp2_with fail
    refine ⟨trivial, rfl, (CallsIn.inRound l (callsW (HFI.out W2 (Bel.refl _)))).mono ?_⟩
    rintro e w3 ⟨ea', eb', rfl, -, -, -, hb3⟩
    have K1 := Lib.hid (hb3.boxed H1.out)
    have K2 := Lib.hid (hb3.boxed H2.out)
    have K3 := Lib.hid (hb3.boxed H3.out)
    have K4 := Lib.hid (H4.out.bel hb3)
    have K5 := Lib.hid (H5.out.quiet (hb3.quiet 0))
    have K6 := Lib.hid (H6.out.trans hb3)
    have KE := Lib.hid (HE.out.bel hb3)
    have KB := Lib.hid hb3
    have z1 := K1.out.cell
    have z2 := K2.out.cell
    have z3 := K3.out.cell
    have y1 := K1.out.frozen
    have y2 := K2.out.frozen
    have y3 := K3.out.frozen
    have hB := K5.out
    clear hb3 d0 d1 d2 d3 d4 H1 H2 H3 H4 H5 H6 HE HFI
    generalize hfo : pre.foldl s.better none = o at *
    clear hfo
    cases o with
    | none =>
      obtain ⟨rfl, rfl, rfl⟩ := hB
      gi_wp2_with fail
      obtain ⟨V, hV⟩ : ∃ V, ((w3.setCell ⟨w.heap.size + 1, 0, none⟩ (.slice xa xhs.length xc)).setCell ⟨w.heap.size + 1 + 1 + 1, 0, none⟩ (.int .i64 F)).setCell ⟨w.heap.size + 1 + 1, 0, none⟩ (.bool true) = V := ⟨_, rfl⟩
      rw [hV]
      obtain ⟨g1, g2, g3, g4, g5, g6⟩ := store3 (n := W0.heap.size) K1.out K2.out K3.out K4.out (by omega) (by omega) (by omega) (by omega) (by omega) (by omega) K6.out (by omega) (by omega) (by omega) (by omega) (by omega) (by omega) hV
      refine ⟨⟨by have := g6.1; have := KB.out.size; have := HSD.out.size; omega, HD.out.paints.bel g5, HD.out.pairs.bel g5, HD.out.cols.bel g5⟩, (KB.out.keep _).trans g6, _, _, _, g1, g2, g3, g4, ?_, g5⟩
      rw [HST.out]
      exact ⟨⟨_, KE.out.keep g6⟩, rfl, by rw [HF.out]⟩
    | some q =>
      obtain ⟨_, rfl, rfl⟩ := hB
      by_cases hlt : F < (s.fire q).2
      · gi_wp2_with fail
        obtain ⟨V, hV⟩ : ∃ V, ((w3.setCell ⟨w.heap.size + 1, 0, none⟩ (.slice xa xhs.length xc)).setCell ⟨w.heap.size + 1 + 1 + 1, 0, none⟩ (.int .i64 F)).setCell ⟨w.heap.size + 1 + 1, 0, none⟩ (.bool true) = V := ⟨_, rfl⟩
        rw [hV]
        obtain ⟨g1, g2, g3, g4, g5, g6⟩ := store3 (n := W0.heap.size) K1.out K2.out K3.out K4.out (by omega) (by omega) (by omega) (by omega) (by omega) (by omega) K6.out (by omega) (by omega) (by omega) (by omega) (by omega) (by omega) hV
        refine ⟨⟨by have := g6.1; have := KB.out.size; have := HSD.out.size; omega, HD.out.paints.bel g5, HD.out.pairs.bel g5, HD.out.cols.bel g5⟩, (KB.out.keep _).trans g6, _, _, _, g1, g2, g3, g4, ?_, g5⟩
        rw [HST.out, show s.better (some q) x = some x by simp [CSet.better, HF.out, hlt]]
        exact ⟨⟨_, KE.out.keep g6⟩, rfl, by rw [HF.out]⟩
      · gi_wp2_with fail
        refine ⟨⟨by have := KB.out.size; have := HSD.out.size; omega, HD.out.paints.bel K6.out, HD.out.pairs.bel K6.out, HD.out.cols.bel K6.out⟩, KB.out.keep _, _, _, _, K1.out, K2.out, K3.out, K4.out, ?_, K6.out⟩
        rw [HST.out, show s.better (some q) x = some q from by show (if (s.fire x).2 < (s.fire q).2 then some x else some q) = some q; rw [HF.out, if_neg (by omega)]]
        exact K5.out

end Go.Proofs.Ytpkadofgmhninaa
