/- Plan, Bar: where all is valid. -/
import Derived.Test.YtpkadofgmhninaaFewest
namespace Go.Proofs.Ytpkadofgmhninaa
open Go.RowKit
attribute [local go_sem] Oper.semAt_some

def PlanV (n : Nat) (o : Option Rounds) (v : Value) (er : Int) (W : World) : Prop :=
  match o with
  | none => v = .slice none 0 0 ∧ er = 7
  | some q => (∃ hs, RndsH n hs W v q) ∧ er = 0
theorem PlanV.bel {n : Nat} {o : Option Rounds} {v : Value} {er : Int} {A B : World} (h : PlanV n o v er A) (b : Bel A B) : PlanV n o v er B := by
  cases o with
  | none => exact h
  | some q => obtain ⟨⟨hs, h1⟩, h2⟩ := h; exact ⟨⟨hs, h1.bel b⟩, h2⟩

set_option maxRecDepth 100000 in
set_option maxHeartbeats 4000000 in
theorem plan_any (s : CSet) (hs : s.Ok) (v lv : Value) (l : List Nat) (w : World) (hv : SetV w v s) (hl : Cols w lv l) (ha : Asc s.paints.length l) :
    Calls Try.prog 19 #[v, lv] w fun e w' => ∃ r er, e = .returned (.tuple #[r, .int .i64 er]) ∧ PlanV w.heap.size (s.planOf l) r er w' ∧ Bel w w' := by
  have k1 := fun W (hW : Bel w W) => checkColours_yes s hs v lv l W (hv.bel hW) (hl.bel hW) ha
  obtain ⟨pv, ev, rfl, h1, h2⟩ := hv
  have k2 := fun W (hW : Bel w W) => splan_any s hs l ha.cl pv ev lv W ⟨Nat.zero_le _, h1.bel hW, h2.bel hW, hl.bel hW⟩
  have c4 := C4.new w pv (.int .i64 s.near) (.int .i64 s.give) ev 31
  have K1 := Lib.hid k1
  have K2 := Lib.hid k2
  have C := Lib.hid c4
  obtain ⟨pa, pc, rfl, -, -, -, -⟩ := h1
  obtain ⟨ea, ec, rfl, -, -, -, -⟩ := h2
  obtain ⟨la, lc, rfl, -, -, -, -⟩ := hl
  obtain ⟨c0, c1, c2, c3⟩ := c4
  simp only [List.length_map] at K1 K2 ⊢
  clear ha hs k1 k2
  go_enter Try.func19, Try.ntmps19
  go_wp2_with fail
  refine (K1.out _ ((Bel.refl w).alloc _)).mono ?_
  rintro e w1 ⟨rfl, hb⟩
  have HC := Lib.hid (C.out.bel hb)
  have HB := Lib.hid (((Bel.refl w).alloc _).trans hb)
  clear c0 c1 c2 c3 hb
  obtain ⟨c0, c1, c2, c3⟩ := HC.out
  go_wp2_with fail
  refine (K2.out _ HB.out).mono ?_
  rintro e w2 ⟨vb, vo, vl, rfl, hbest, hb⟩
  have HB2 := Lib.hid (HB.out.trans hb)
  have HBEST := Lib.hid (hbest.mono (m := w.heap.size) HB.out.size)
  have hsl := hbest.slice
  clear hb c0 c1 c2 c3 hbest
  obtain ⟨ba, bk, bc, rfl⟩ := hsl
  have hB := HBEST.out
  clear HBEST
  cases hP : s.planOf l with
  | none =>
    rw [hP] at hB
    obtain ⟨h1, rfl, -⟩ := hB
    have H1 := Lib.hid h1
    have HP := Lib.hid hP
    clear h1 hP
    go_wp2_with fail
    go_ret2
    exact ⟨_, _, rfl, by rw [HP.out]; exact ⟨rfl, rfl⟩, HB2.out⟩
  | some q =>
    rw [hP] at hB
    obtain ⟨h1, rfl, -⟩ := hB
    have H1 := Lib.hid h1
    have HP := Lib.hid hP
    clear h1 hP
    go_wp2_with fail
    go_ret2
    exact ⟨_, _, rfl, by rw [HP.out]; exact ⟨H1.out, rfl⟩, HB2.out⟩

set_option maxRecDepth 100000 in
set_option maxHeartbeats 4000000 in
theorem bar1_any (s : CSet) (hs : s.Ok) (pv ev lv : Value) (l : List Nat) (B : Nat) (w : World) (hc : C4 w B pv (.int .i64 s.near) (.int .i64 s.give) ev) (h1 : Paints w pv s.paints) (h2 : Pairs w ev s.eats) (hl : Cols w lv l) (ha : Cl s.paints.length l) :
    Calls Try.prog 44 #[lv, .pointer (some ⟨B, 0, none⟩)] w fun e w' => e = .returned (.bool (!s.can l)) ∧ Bel w w' := by
  have k2 := fun W (hW : Bel w W) => can_any s hs l ha pv ev lv W ⟨Nat.zero_le _, h1.bel hW, h2.bel hW, hl.bel hW⟩
  have K2 := Lib.hid k2
  obtain ⟨pa, pc, rfl, -, -, -, -⟩ := h1
  obtain ⟨ea, ec, rfl, -, -, -, -⟩ := h2
  obtain ⟨la, lc, rfl, -, -, -, -⟩ := hl
  obtain ⟨c0, c1, c2, c3⟩ := hc
  simp only [List.length_map] at K2 ⊢
  clear ha hs k2
  generalize s.can l = b at *
  go_enter Try.func44, Try.ntmps44
  go_wp2_with fail
  refine (K2.out _ (Bel.refl w)).mono ?_
  rintro e w1 ⟨rfl, hb⟩
  have HB := Lib.hid hb
  clear hb
  go_wp2_with fail
  go_ret
  exact ⟨rfl, HB.out⟩

def BarV (n : Nat) (s : CSet) (l : List Nat) (v : Value) (er : Int) (W : World) : Prop :=
  if s.can l then v = .slice none 0 0 ∧ er = 6 else FewV n (CSet.fewest (fun l => !s.can l) l) v W ∧ er = 0

set_option maxRecDepth 100000 in
set_option maxHeartbeats 4000000 in
theorem bar_any (s : CSet) (hs : s.Ok) (v lv : Value) (l : List Nat) (w : World) (hv : SetV w v s) (hl : Cols w lv l) (ha : Asc s.paints.length l) :
    Calls Try.prog 22 #[v, lv] w fun e w' => ∃ r er, e = .returned (.tuple #[r, .int .i64 er]) ∧ BarV w.heap.size s l r er w' ∧ Bel w w' := by
  have k1 := fun W (hW : Bel w W) => checkColours_yes s hs v lv l W (hv.bel hW) (hl.bel hW) ha
  obtain ⟨pv, ev, rfl, h1, h2⟩ := hv
  have k2 := fun W (hW : Bel w W) => can_any s hs l ha.cl pv ev lv W ⟨Nat.zero_le _, h1.bel hW, h2.bel hW, hl.bel hW⟩
  have hlen := Nat.le_trans ha.len hs.n5
  have k3 := fun W0 (hW0 : Bel w W0) B (hB : C4 W0 B pv (.int .i64 s.near) (.int .i64 s.give) ev) => fewest_any 44 #[] #[.pointer (some ⟨B, 0, none⟩)] (enters_of Try.func44 (by kernel_rfl) rfl) lv l (fun l => !s.can l) W0 (hl.bel hW0) hlen
    (fun W v x hb hx hne hsub => bar1_any s hs pv ev v x B W (hB.bel hb) (h1.bel (hW0.trans hb)) (h2.bel (hW0.trans hb)) hx ⟨fun c hc => ha.1 c (hsub.subset hc), ha.cl.2.sublist hsub⟩)
  have c4 := C4.new w pv (.int .i64 s.near) (.int .i64 s.give) ev 31
  have K1 := Lib.hid k1
  have K2 := Lib.hid k2
  have K3 := Lib.hid k3
  have C := Lib.hid c4
  obtain ⟨pa, pc, rfl, -, -, -, -⟩ := h1
  obtain ⟨ea, ec, rfl, -, -, -, -⟩ := h2
  obtain ⟨la, lc, rfl, -, -, -, -⟩ := hl
  obtain ⟨c0, c1, c2, c3⟩ := c4
  simp only [List.length_map] at K1 K2 K3 ⊢
  clear ha hs k1 k2 k3
  go_enter Try.func22, Try.ntmps22
  go_wp2_with fail
  refine (K1.out _ ((Bel.refl w).alloc _)).mono ?_
  rintro e w1 ⟨rfl, hb⟩
  have HC := Lib.hid (C.out.bel hb)
  have HB := Lib.hid (((Bel.refl w).alloc _).trans hb)
  clear c0 c1 c2 c3 hb
  obtain ⟨c0, c1, c2, c3⟩ := HC.out
  go_wp2_with fail
  refine (K2.out _ HB.out).mono ?_
  rintro e w2 ⟨rfl, hb⟩
  have HB2 := Lib.hid (HB.out.trans hb)
  have HC2 := Lib.hid (HC.out.bel hb)
  clear hb c0 c1 c2 c3
  cases hcan : s.can l with
  | true =>
    have HCAN := Lib.hid hcan
    clear hcan
    go_wp2_with fail
    go_ret2
    exact ⟨_, _, rfl, by unfold BarV; rw [HCAN.out]; exact ⟨rfl, rfl⟩, HB2.out⟩
  | false =>
    have HCAN := Lib.hid hcan
    clear hcan
    go_wp2_with fail
    refine (K3.out w2 HB2.out _ HC2.out).mono ?_
    rintro e w3 ⟨r, rfl, hf, hb⟩
    have HB3 := Lib.hid (HB2.out.trans hb)
    have HF := Lib.hid (hf.mono (m := w.heap.size) HB2.out.size)
    clear hb hf
    go_wp2_with fail
    go_ret2
    exact ⟨_, _, rfl, by unfold BarV; rw [HCAN.out]; exact ⟨HF.out, rfl⟩, HB3.out⟩

end Go.Proofs.Ytpkadofgmhninaa
