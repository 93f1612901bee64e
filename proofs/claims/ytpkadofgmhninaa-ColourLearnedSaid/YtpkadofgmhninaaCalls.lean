/- Is, Heats, Firings: where all is valid. -/
import Derived.Test.YtpkadofgmhninaaTCan
namespace Go.Proofs.Ytpkadofgmhninaa
open Go.RowKit
attribute [local go_sem] Oper.semAt_some
attribute [local irreducible] CSet.gat CSet.settle CSet.settled CSet.hold CSet.gapsOf CSet.truly CSet.surely CSet.fire

theorem plns_one {w : World} {rv : Value} {p : Rounds} (h : Rnds w rv p) (t : TypeId) : Plns (w.alloc (.cells #[rv] t)) (.slice (some ⟨w.heap.size, 0, none⟩) 1 1) [p] := by
  refine ⟨_, 1, fun _ => rv, rfl, Nat.le_refl _, by unfold maxLen; omega, nofun, fun i hi => ?_⟩
  have : i = 0 := by simp at hi; omega
  subst this
  refine ⟨w.heap.size, 0, rfl, ?_, h.bel ((Bel.refl _).alloc _)⟩
  have h1 := World.alloc_heap_new w (.cells #[rv] t)
  simp only [World.cell?, h1]; rfl

set_option maxRecDepth 100000 in
set_option maxHeartbeats 8000000 in
theorem is_any (s : CSet) (hs : s.Ok) (v rv : Value) (p : Rounds) (w : World) (hv : SetV w v s) (hr : Rnds w rv p) (hp : PlanOk s.paints.length p) (hpa : ∀ r, r ∈ p → Asc s.paints.length r) :
    Calls Try.prog 10 #[v, rv] w fun e w' => e = .returned (.tuple #[.bool (s.surely p), .bool (s.truly [p]), .int .i64 0]) ∧ Bel w w' := by
  have k1 := fun W (hW : Bel w W) B (hB : W.heap.size = B) => checkPlans_yes s hs v (.slice (some ⟨B, 0, none⟩) 1 1) [p] (W.alloc (.cells #[rv] 35)) ((hv.bel hW).bel ((Bel.refl _).alloc _)) (by rw [← hB]; exact plns_one (hr.bel hW) 35) (fun q hq => by simp at hq; subst hq; exact ⟨hp, hpa⟩)
  obtain ⟨pv, ev, rfl, h1, h2⟩ := hv
  have k2 := fun W (hW : Bel w W) => truths_any s hs pv ev (.slice (some ⟨W.heap.size, 0, none⟩) 1 1) [p] (W.alloc (.cells #[rv] 35)) ((h1.bel hW).bel ((Bel.refl _).alloc _)) ((h2.bel hW).bel ((Bel.refl _).alloc _)) (plns_one (hr.bel hW) 35) (fun q hq => by simp at hq; subst hq; exact hp)
  have k3 := fun W (hW : Bel w W) => surely_any s hs pv ev rv p W ⟨h1.bel hW, h2.bel hW, hr.bel hW⟩ hp
  have c4 := C4.new w pv (.int .i64 s.near) (.int .i64 s.give) ev 31
  have K1 := Lib.hid k1
  have K2 := Lib.hid k2
  have K3 := Lib.hid k3
  have C := Lib.hid c4
  obtain ⟨pa, pc, rfl, -, -, -, -⟩ := h1
  obtain ⟨ea, ec, rfl, -, -, -, -⟩ := h2
  obtain ⟨ra, rc, rfl, -, -, -, -⟩ := hr
  obtain ⟨c0, c1, c2, c3⟩ := c4
  clear hs k1 k2 k3 hp hpa
  go_enter Try.func10, Try.ntmps10
  go_wp2_with fail
  refine (K1.out _ ((Bel.refl w).alloc _) _ (World.size_alloc _ _)).mono ?_
  rintro e w1 ⟨rfl, hb⟩
  have HC := Lib.hid ((C.out.bel ((Bel.refl _).alloc _)).bel hb)
  have HB := Lib.hid ((((Bel.refl w).alloc _).alloc _).trans hb)
  clear c0 c1 c2 c3 hb
  obtain ⟨c0, c1, c2, c3⟩ := HC.out
  go_wp2_with fail
  refine (K2.out w1 HB.out).mono ?_
  rintro e w2 ⟨hg, sg, rfl, -, -, -, hb⟩
  have HB2 := Lib.hid ((HB.out.alloc _).trans hb)
  have HC2 := Lib.hid ((HC.out.bel ((Bel.refl _).alloc _)).bel hb)
  clear hb c0 c1 c2 c3
  obtain ⟨c0, c1, c2, c3⟩ := HC2.out
  go_wp2_with fail
  refine (K3.out w2 HB2.out).mono ?_
  rintro e w3 ⟨rfl, hb⟩
  have HB3 := Lib.hid (HB2.out.trans hb)
  clear hb c0 c1 c2 c3
  go_wp2_with fail
  go_ret3
  exact ⟨rfl, HB3.out⟩

set_option maxRecDepth 100000 in
set_option maxHeartbeats 8000000 in
theorem firingsC_any (s : CSet) (hs : s.Ok) (v rv : Value) (p : Rounds) (w : World) (hv : SetV w v s) (hr : Rnds w rv p) (hp : PlanOk s.paints.length p) (hpa : ∀ r, r ∈ p → Asc s.paints.length r) :
    Calls Try.prog 14 #[v, rv] w fun e w' => ∃ ea eb, e = .returned (.tuple #[.slice (some ⟨ea, 0, none⟩) s.paints.length eb, .int .i64 (s.fire p).2, .int .i64 0]) ∧ s.paints.length ≤ eb ∧ eb ≤ maxLen ∧ (∀ c, c < s.paints.length → w'.cell? ⟨ea, c, none⟩ = some (.int .i64 ((s.fire p).1 c))) ∧ Bel w w' := by
  have k1 := fun W (hW : Bel w W) B (hB : W.heap.size = B) => checkPlans_yes s hs v (.slice (some ⟨B, 0, none⟩) 1 1) [p] (W.alloc (.cells #[rv] 35)) ((hv.bel hW).bel ((Bel.refl _).alloc _)) (by rw [← hB]; exact plns_one (hr.bel hW) 35) (fun q hq => by simp at hq; subst hq; exact ⟨hp, hpa⟩)
  obtain ⟨pv, ev, rfl, h1, h2⟩ := hv
  have k3 := fun W (hW : Bel w W) => firings_any s hs pv ev rv p W ⟨h1.bel hW, h2.bel hW, hr.bel hW⟩ hp
  have c4 := C4.new w pv (.int .i64 s.near) (.int .i64 s.give) ev 31
  have K1 := Lib.hid k1
  have K3 := Lib.hid k3
  have C := Lib.hid c4
  obtain ⟨pa, pc, rfl, -, -, -, -⟩ := h1
  obtain ⟨ea, ec, rfl, -, -, -, -⟩ := h2
  obtain ⟨ra, rc, rfl, -, -, -, -⟩ := hr
  obtain ⟨c0, c1, c2, c3⟩ := c4
  clear hs k1 k3 hp hpa
  go_enter Try.func14, Try.ntmps14
  go_wp2_with fail
  refine (K1.out _ ((Bel.refl w).alloc _) _ (World.size_alloc _ _)).mono ?_
  rintro e w1 ⟨rfl, hb⟩
  have HC := Lib.hid ((C.out.bel ((Bel.refl _).alloc _)).bel hb)
  have HB := Lib.hid ((((Bel.refl w).alloc _).alloc _).trans hb)
  clear c0 c1 c2 c3 hb
  obtain ⟨c0, c1, c2, c3⟩ := HC.out
  go_wp2_with fail
  refine (K3.out w1 HB.out).mono ?_
  rintro e w2 ⟨xa, xb, rfl, x1, x2, x3, hb⟩
  have HB3 := Lib.hid (HB.out.trans hb)
  have X1 := Lib.hid x1
  have X2 := Lib.hid x2
  have X3 := Lib.hid x3
  clear hb c0 c1 c2 c3 x1 x2 x3
  generalize hF : (s.fire p).2 = F at *
  have HF := Lib.hid hF
  clear hF
  go_wp2_with fail
  go_ret3
  exact ⟨_, _, by rw [HF.out]; rfl, X1.out, X2.out, X3.out, HB3.out⟩

def HeatsR (s : CSet) (p : Rounds) (w : World) (e : Ending) (w' : World) : Prop :=
  ∃ r er, e = .returned (.tuple #[r, .int .i64 er]) ∧ (if s.surely p then er = 0 ∧ Spans w' r p.length (s.lowAt p) (s.highAt p) else er = 9 ∧ r = .slice none 0 0) ∧ Bel w w'

set_option maxRecDepth 100000 in
set_option maxHeartbeats 8000000 in
theorem heatsC_any (s : CSet) (hs : s.Ok) (v rv : Value) (p : Rounds) (w : World) (hv : SetV w v s) (hr : Rnds w rv p) (hp : PlanOk s.paints.length p) (hpa : ∀ r, r ∈ p → Asc s.paints.length r) :
    Calls Try.prog 13 #[v, rv] w (HeatsR s p w) := by
  have k1 := fun W (hW : Bel w W) B (hB : W.heap.size = B) => checkPlans_yes s hs v (.slice (some ⟨B, 0, none⟩) 1 1) [p] (W.alloc (.cells #[rv] 35)) ((hv.bel hW).bel ((Bel.refl _).alloc _)) (by rw [← hB]; exact plns_one (hr.bel hW) 35) (fun q hq => by simp at hq; subst hq; exact ⟨hp, hpa⟩)
  obtain ⟨pv, ev, rfl, h1, h2⟩ := hv
  have k2 := fun W (hW : Bel w W) => surely_any s hs pv ev rv p W ⟨h1.bel hW, h2.bel hW, hr.bel hW⟩ hp
  have k3 := fun W (hW : Bel w W) => heats_any s hs pv ev rv p W ⟨h1.bel hW, h2.bel hW, hr.bel hW⟩ hp
  have c4 := C4.new w pv (.int .i64 s.near) (.int .i64 s.give) ev 31
  have K1 := Lib.hid k1
  have K2 := Lib.hid k2
  have K3 := Lib.hid k3
  have C := Lib.hid c4
  obtain ⟨pa, pc, rfl, -, -, -, -⟩ := h1
  obtain ⟨ea, ec, rfl, -, -, -, -⟩ := h2
  obtain ⟨ra, rc, rfl, -, -, -, -⟩ := hr
  obtain ⟨c0, c1, c2, c3⟩ := c4
  clear hs k1 k2 k3 hp hpa
  go_enter Try.func13, Try.ntmps13
  go_wp2_with fail
  refine (K1.out _ ((Bel.refl w).alloc _) _ (World.size_alloc _ _)).mono ?_
  rintro e w1 ⟨rfl, hb⟩
  have HC := Lib.hid ((C.out.bel ((Bel.refl _).alloc _)).bel hb)
  have HB := Lib.hid ((((Bel.refl w).alloc _).alloc _).trans hb)
  clear c0 c1 c2 c3 hb
  obtain ⟨c0, c1, c2, c3⟩ := HC.out
  have HF5 := Lib.hid (C5.new w1 (.slice pa s.paints.length pc) (.int .i64 s.near) (.int .i64 s.give) (.slice ea s.eats.length ec) (.slice ra p.length rc) 95)
  obtain ⟨d0, d1, d2, d3, d4⟩ := HF5.out
  go_wp2_with fail
  refine (K2.out _ (HB.out.alloc _)).mono ?_
  rintro e w2 ⟨rfl, hb⟩
  have HB2 := Lib.hid ((HB.out.alloc _).trans hb)
  have HF6 := Lib.hid (HF5.out.bel hb)
  clear hb c0 c1 c2 c3 d0 d1 d2 d3 d4
  cases hsu : s.surely p with
  | false =>
    have HSU := Lib.hid hsu
    clear hsu
    go_wp2_with fail
    go_ret2
    exact ⟨_, _, rfl, by rw [HSU.out]; exact ⟨rfl, rfl⟩, HB2.out⟩
  | true =>
    have HSU := Lib.hid hsu
    clear hsu
    obtain ⟨d0, d1, d2, d3, d4⟩ := HF6.out
    go_wp2_with fail
    refine (K3.out w2 HB2.out).mono ?_
    rintro e w3 ⟨r, rfl, hsp, hb⟩
    have HB3 := Lib.hid (HB2.out.trans hb)
    have HSP := Lib.hid hsp
    clear hb hsp d0 d1 d2 d3 d4
    go_wp2_with fail
    go_ret2
    exact ⟨_, _, rfl, by rw [HSU.out]; exact ⟨rfl, HSP.out⟩, HB3.out⟩

end Go.Proofs.Ytpkadofgmhninaa
