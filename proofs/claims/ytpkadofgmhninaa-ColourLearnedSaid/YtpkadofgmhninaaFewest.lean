/- The shortest part of a list for which a condition holds. Plan, Bar: where all is valid. -/
import Derived.Test.YtpkadofgmhninaaRight
namespace Go.Proofs.Ytpkadofgmhninaa
open Go.RowKit
attribute [local go_sem] Oper.semAt_some

def FewV (n : Nat) (o : Option (List Nat)) (v : Value) (W : World) : Prop :=
  match o with
  | none => v = .slice none 0 0
  | some x => Cols W v x ∧ FromB n v
theorem FewV.quiet {n m : Nat} {o : Option (List Nat)} {v : Value} {A B : World} (h : FewV n o v A) (q : Quiet m A B) : FewV n o v B := by
  cases o with
  | none => exact h
  | some x => exact ⟨h.1.quiet q, h.2⟩
theorem FewV.keep {n : Nat} {o : Option (List Nat)} {v : Value} {A B : World} (h : FewV n o v A) (q : KeepFrom n A B) : FewV n o v B := by
  cases o with
  | none => exact h
  | some x => exact ⟨h.2.keepCols h.1 q, h.2⟩
theorem FewV.mono {n m : Nat} {o : Option (List Nat)} {v : Value} {A : World} (h : FewV n o v A) (hm : m ≤ n) : FewV m o v A := by
  cases o with
  | none => exact h
  | some x => exact ⟨h.1, h.2.mono hm⟩

set_option maxRecDepth 100000 in
set_option maxHeartbeats 8000000 in
theorem fewest_any (hf : Nat) (hfs hlb : Array Value) (eg : ∀ args w, (callFunc hf args).run Try.prog w = .ok (.enter hf args) w) (lv : Value) (l : List Nat) (h : List Nat → Bool) (w : World) (hl : Cols w lv l) (hlen : l.length ≤ 5)
    (hh : ∀ W v x, Bel w W → Cols W v x → x ≠ [] → x.Sublist l → Calls Try.prog hf (hfs.push v ++ hlb) W fun e W' => e = .returned (.bool (h x)) ∧ Bel W W') :
    Calls Try.prog 43 #[lv, .func (.func hf) hfs hlb] w fun e w' => ∃ r, e = .returned r ∧ FewV w.heap.size (CSet.fewest h l) r w' ∧ Bel w w' := by
  have HL := Lib.hid hl
  have HH := Lib.hid hh
  obtain ⟨la, lc, rfl, hl1, hl2, -, -⟩ := hl
  simp only [List.length_map] at HL hl1 ⊢
  obtain ⟨W0, hW0⟩ : ∃ W0, (w.alloc (.cells #[.func (.func hf) hfs hlb] 109)).alloc (.cells #[.slice none 0 0] 32) = W0 := ⟨_, rfl⟩
  obtain ⟨f2, f1, b0, z0⟩ := two_boxes hW0
  have F1 := Lib.hid f1
  have F2 := Lib.hid f2
  have B0 := Lib.hid b0
  have Z0 := Lib.hid z0
  have HW0 := Lib.hid hW0
  clear hh f1 f2 b0 z0 hW0
  refine (callsIn_wide (n := 0)).1 (callsIn_of_wp_marks Try.func43 rfl trivial ?_ rfl)
  simp only [Try.ntmps43, List.size_toArray, List.length_cons, List.length_nil, Nat.reduceAdd, Nat.reduceSub, Array.replicate_succ, Array.replicate_zero, List.push_toArray, List.append_toArray, List.nil_append, List.cons_append]
  gi_wp2_with fail
  rw [HW0.out]
  clear HW0
  refine ⟨trivial, rfl, (callsW (parts_any _ _ _ _ _ _ _)).mono ?_⟩
  rintro e w4 ⟨rfl, hw4⟩
  obtain ⟨hbl4, hbb4, hw24, hz4⟩ := two_boxes hw4
  have HBW := Lib.hid (B0.out.trans hw24)
  have HD4 : Hid (PartD W0.heap.size (W0.heap.size + 1) W0.heap.size (.slice la l.length lc) (.slice none 0 0) l [] w4) := Lib.hid ⟨by have := hw24.size; omega, hbl4, hbb4, HL.out.bel HBW.out, cols_nil _⟩
  have G1 := Lib.hid (hw24.boxed F1.out)
  have G2 := Lib.hid (hw24.boxed F2.out)
  clear hw4 hbl4 hbb4 hw24 hz4
  gi_wp2_with fail
  have hz := Z0.out
  have hbs := HBW.out.size
  have hs4 := HD4.out.size
  refine rf_outer (gf := 91) (fs := #[]) (lb := #[.pointer (some ⟨W0.heap.size + 1, 0, none⟩), .pointer (some ⟨W0.heap.size, 0, none⟩)]) rfl (enters_of Try.func91 (by kernel_rfl) rfl)
    (parts1_seq W0.heap.size l.length l [] _ _ _ _ rfl (by simp; omega)) HD4.out (fun A B h q => h.quiet q) (fun W vs x h => by obtain ⟨_, rfl, _⟩ := h; rfl)
    (fun pre W => ∃ vb, Boxed W (w.heap.size + 1) 32 vb ∧ Boxed W w.heap.size 109 (.func (.func hf) hfs hlb) ∧ FewV W0.heap.size (pre.foldl (CSet.few h) none) vb W ∧ Bel w W)
    (fun _ _ _ => False)
    (fun pre A B h q => by
      obtain ⟨vb, h1, h2, h3, h4⟩ := h
      exact ⟨vb, q.boxed h1, q.boxed h2, h3.quiet q, q.below h4 (by omega)⟩)
    (fun c pre A B h q => h)
    ⟨_, G2.out, G1.out, rfl, HBW.out⟩ ?round ?done ?stop
  case stop =>
    rintro d c pre W hd hpre h
    exact h.elim
  case done =>
    rintro d W hd ⟨vb, h1, h2, h3, h4⟩ hcw hK
    have x1 := h1.cell
    have H1 := Lib.hid h1
    have H3 := Lib.hid h3
    have H4 := Lib.hid h4
    clear h1 h2 h3 h4 hcw
    clear hz
    gi_wp2_with fail
    have hz := Z0.out
    have hq : Quiet W0.heap.size W (W.putObj d (.deferred none)) := Quiet.putObj _ hK rfl (by omega)
    refine ⟨by simp, .inl ⟨_, _, rfl, run_takeDeferred hK, ?_⟩⟩
    exact ⟨vb, by simp [results, Try.results43, go_sem], _, rfl, (H3.out.quiet hq).mono (by omega), hq.below H4.out (by omega)⟩
  case round =>
    rintro lp pre x vs W hlp ⟨vb, h1, h2, h3, h4⟩ hcw hpre ⟨xv, rfl, hxc, hxf⟩
    clear hz
    gi_wp2_with fail
    refine ⟨Bel.refl W, fun W2 q _ hloop => ?_⟩
    have hxm : x ∈ CSet.parts [] l := hpre.subset (by simp)
    obtain ⟨t, et, hne, hsub⟩ := parts_mem _ _ _ hxm
    rw [List.nil_append] at et
    subst et
    have HP := Lib.hid (hcw.quiet q)
    have H1 := Lib.hid (q.boxed h1)
    have H2 := Lib.hid (q.boxed h2)
    have H3 := Lib.hid (h3.quiet q)
    have H4 := Lib.hid (q.below h4 (by omega))
    have HX := Lib.hid (hxc.quiet q)
    have HXF := Lib.hid hxf
    have hcall := HH.out W2 xv x H4.out HX.out hne hsub
    have HC := Lib.hid hcall
    have hst : (pre ++ [x]).foldl (CSet.few h) none = CSet.few h (pre.foldl (CSet.few h) none) x := by rw [List.foldl_append]; rfl
    have HST := Lib.hid hst
    obtain ⟨xb, xo, xk, xc, rfl, hxb⟩ := hxf
    have hxl := HX.out.drop
    subst hxl
    have k1 := H1.out.cell
    have y1 := H1.out.frozen
    have k2 := H2.out.cell
    have hF := H3.out
    clear h1 h2 h3 h4 hxc q hcw hpre hxm hcall hst hloop hne hsub
    generalize hhx : h x = hx at *
    have HHX := Lib.hid hhx
    clear hhx
    generalize pre.foldl (CSet.few h) none = o at *
    cases o with
    | none =>
      have hF : vb = .slice none 0 0 := hF
      subst hF
      have hn := Lib.run_eql_slice_nil (P := Try.prog) W2 32 3 none 0 0 0 0 Try.underlying32
      gi_wp2_with fail
      refine ⟨trivial, rfl, (CallsIn.inRound lp (callsW HC.out)).mono ?_⟩
      rintro e w3 ⟨rfl, hb3⟩
      have K1 := Lib.hid (hb3.boxed H1.out)
      have K2 := Lib.hid (hb3.boxed H2.out)
      have K3 := Lib.hid (H3.out.quiet (hb3.quiet 0))
      have K4 := Lib.hid (H4.out.trans hb3)
      have KX := Lib.hid (HX.out.bel hb3)
      have KB := Lib.hid hb3
      have KP := Lib.hid (HP.out.bel hb3)
      have k1 := K1.out.cell
      have y1 := K1.out.frozen
      clear hb3 HC
      cases hx
      · gi_wp2_with fail
        refine ⟨KP.out, KB.out.keep _, _, K1.out, K2.out, ?_, K4.out⟩
        rw [HST.out, show CSet.few h none x = none from by show (if h x then some x else none) = none; rw [HHX.out]; rfl]
        exact K3.out
      · gi_wp2_with fail
        have e1 := But.set (w.heap.size + 1) 0 w3 (.slice (some ⟨xb, xo, none⟩) x.length xc)
        have e2 := e1.bel K4.out (by omega)
        have hz := Z0.out
        have e3 := e1.keep (n := W0.heap.size) (by omega)
        refine ⟨⟨by have := KP.out.size; have := e3.1; omega, e3.boxed (by omega) KP.out.boxl, e3.boxed (by omega) KP.out.boxb, HL.out.bel e2, cols_nil _⟩, (KB.out.keep _).trans (e3.mono (by omega)), _, K1.out.set _, e1.boxed (by omega) K2.out, ?_, e2⟩
        rw [HST.out, show CSet.few h none x = some x from by show (if h x then some x else none) = some x; rw [HHX.out]; rfl]
        exact ⟨HXF.out.keepCols KX.out e3, HXF.out⟩
    | some b =>
      obtain ⟨hbc, bb, bo, bk, bcc, rfl, hbf⟩ := hF
      have hbl := hbc.drop
      subst hbl
      have hn := Lib.run_eql_slice_nil (P := Try.prog) W2 32 3 (some ⟨bb, bo, none⟩) b.length bcc 0 0 Try.underlying32
      clear hbc hbf
      by_cases hlt : x.length < b.length
      · gi_wp2_with fail
        refine ⟨trivial, rfl, (CallsIn.inRound lp (callsW HC.out)).mono ?_⟩
        rintro e w3 ⟨rfl, hb3⟩
        have K1 := Lib.hid (hb3.boxed H1.out)
        have K2 := Lib.hid (hb3.boxed H2.out)
        have K3 := Lib.hid (H3.out.quiet (hb3.quiet 0))
        have K4 := Lib.hid (H4.out.trans hb3)
        have KX := Lib.hid (HX.out.bel hb3)
        have KB := Lib.hid hb3
        have KP := Lib.hid (HP.out.bel hb3)
        have k1 := K1.out.cell
        have y1 := K1.out.frozen
        clear hb3 HC
        cases hx
        · gi_wp2_with fail
          refine ⟨KP.out, KB.out.keep _, _, K1.out, K2.out, ?_, K4.out⟩
          rw [HST.out, show CSet.few h (some b) x = (some b) from by show (if x.length < b.length then (if h x then some x else some b) else some b) = some b; rw [HHX.out]; split <;> rfl]
          exact K3.out
        · gi_wp2_with fail
          have e1 := But.set (w.heap.size + 1) 0 w3 (.slice (some ⟨xb, xo, none⟩) x.length xc)
          have e2 := e1.bel K4.out (by omega)
          have hz := Z0.out
          have e3 := e1.keep (n := W0.heap.size) (by omega)
          refine ⟨⟨by have := KP.out.size; have := e3.1; omega, e3.boxed (by omega) KP.out.boxl, e3.boxed (by omega) KP.out.boxb, HL.out.bel e2, cols_nil _⟩, (KB.out.keep _).trans (e3.mono (by omega)), _, K1.out.set _, e1.boxed (by omega) K2.out, ?_, e2⟩
          rw [HST.out, show CSet.few h (some b) x = some x from by show (if x.length < b.length then (if h x then some x else some b) else some b) = some x; rw [HHX.out, if_pos (by omega)]; rfl]
          exact ⟨HXF.out.keepCols KX.out e3, HXF.out⟩
      · gi_wp2_with fail
        refine ⟨(fun _ h => by cases h), ?_⟩
        gi_wp2_with fail
        refine ⟨HP.out, KeepFrom.refl _ _, _, H1.out, H2.out, ?_, H4.out⟩
        rw [HST.out, show CSet.few h (some b) x = some b from by show (if x.length < b.length then (if h x then some x else some b) else some b) = some b; rw [if_neg (by omega)]]
        exact H3.out

end Go.Proofs.Ytpkadofgmhninaa
namespace Go.Proofs.Ytpkadofgmhninaa
open Go.RowKit
attribute [local go_sem] Oper.semAt_some

def PlanV (n : Nat) (o : Option Rounds) (v : Value) (er : Int) (W : World) : Prop :=
  match o with
  | none => v = .slice none 0 0 ∧ er = 7
  | some q => (∃ hs, RndsH n hs W v q) ∧ er = 0
theorem PlanV.bel {n : Nat} {o : Option Rounds} {v : Value} {er : Int} {A B : World} (h : PlanV n o v er A) (b : Bel A B) : PlanV n o v er B := by
  cases o with
  | none => exact h
  | some q => obtain ⟨⟨hs, h1⟩, h2⟩ := h; exact ⟨⟨hs, h1.bel b⟩, h2⟩

set_option maxRecDepth 100000 in
set_option maxHeartbeats 4000000 in
theorem plan_any (s : CSet) (hs : s.Ok) (v lv : Value) (l : List Nat) (w : World) (hv : SetV w v s) (hl : Cols w lv l) (ha : Asc s.paints.length l) :
    Calls Try.prog 19 #[v, lv] w fun e w' => ∃ r er, e = .returned (.tuple #[r, .int .i64 er]) ∧ PlanV w.heap.size (s.planOf l) r er w' ∧ Bel w w' := by
  have k1 := fun W (hW : Bel w W) => checkColours_yes s hs v lv l W (hv.bel hW) (hl.bel hW) ha
  obtain ⟨pv, ev, rfl, h1, h2⟩ := hv
  have k2 := fun W (hW : Bel w W) => splan_any s hs l ha.cl pv ev lv W ⟨Nat.zero_le _, h1.bel hW, h2.bel hW, hl.bel hW⟩
  have c4 := C4.new w pv (.int .i64 s.near) (.int .i64 s.give) ev 31
  have K1 := Lib.hid k1
  have K2 := Lib.hid k2
  have C := Lib.hid c4
  obtain ⟨pa, pc, rfl, -, -, -, -⟩ := h1
  obtain ⟨ea, ec, rfl, -, -, -, -⟩ := h2
  obtain ⟨la, lc, rfl, -, -, -, -⟩ := hl
  obtain ⟨c0, c1, c2, c3⟩ := c4
  simp only [List.length_map] at K1 K2 ⊢
  clear ha hs k1 k2
  go_enter Try.func19, Try.ntmps19
  go_wp2_with fail
  refine (K1.out _ ((Bel.refl w).alloc _)).mono ?_
  rintro e w1 ⟨rfl, hb⟩
  have HC := Lib.hid (C.out.bel hb)
  have HB := Lib.hid (((Bel.refl w).alloc _).trans hb)
  clear c0 c1 c2 c3 hb
  obtain ⟨c0, c1, c2, c3⟩ := HC.out
  go_wp2_with fail
  refine (K2.out _ HB.out).mono ?_
  rintro e w2 ⟨vb, vo, vl, rfl, hbest, hb⟩
  have HB2 := Lib.hid (HB.out.trans hb)
  have HBEST := Lib.hid (hbest.mono (m := w.heap.size) HB.out.size)
  have hsl := hbest.slice
  clear hb c0 c1 c2 c3 hbest
  obtain ⟨ba, bk, bc, rfl⟩ := hsl
  have hB := HBEST.out
  clear HBEST
  cases hP : s.planOf l with
  | none =>
    rw [hP] at hB
    obtain ⟨h1, rfl, -⟩ := hB
    have H1 := Lib.hid h1
    have HP := Lib.hid hP
    clear h1 hP
    go_wp2_with fail
    go_ret2
    exact ⟨_, _, rfl, by rw [HP.out]; exact ⟨rfl, rfl⟩, HB2.out⟩
  | some q =>
    rw [hP] at hB
    obtain ⟨h1, rfl, -⟩ := hB
    have H1 := Lib.hid h1
    have HP := Lib.hid hP
    clear h1 hP
    go_wp2_with fail
    go_ret2
    exact ⟨_, _, rfl, by rw [HP.out]; exact ⟨H1.out, rfl⟩, HB2.out⟩

set_option maxRecDepth 100000 in
set_option maxHeartbeats 4000000 in
theorem bar1_any (s : CSet) (hs : s.Ok) (pv ev lv : Value) (l : List Nat) (B : Nat) (w : World) (hc : C4 w B pv (.int .i64 s.near) (.int .i64 s.give) ev) (h1 : Paints w pv s.paints) (h2 : Pairs w ev s.eats) (hl : Cols w lv l) (ha : Cl s.paints.length l) :
    Calls Try.prog 44 #[lv, .pointer (some ⟨B, 0, none⟩)] w fun e w' => e = .returned (.bool (!s.can l)) ∧ Bel w w' := by
  have k2 := fun W (hW : Bel w W) => can_any s hs l ha pv ev lv W ⟨Nat.zero_le _, h1.bel hW, h2.bel hW, hl.bel hW⟩
  have K2 := Lib.hid k2
  obtain ⟨pa, pc, rfl, -, -, -, -⟩ := h1
  obtain ⟨ea, ec, rfl, -, -, -, -⟩ := h2
  obtain ⟨la, lc, rfl, -, -, -, -⟩ := hl
  obtain ⟨c0, c1, c2, c3⟩ := hc
  simp only [List.length_map] at K2 ⊢
  clear ha hs k2
  generalize s.can l = b at *
  go_enter Try.func44, Try.ntmps44
  go_wp2_with fail
  refine (K2.out _ (Bel.refl w)).mono ?_
  rintro e w1 ⟨rfl, hb⟩
  have HB := Lib.hid hb
  clear hb
  go_wp2_with fail
  go_ret
  exact ⟨rfl, HB.out⟩

def BarV (n : Nat) (s : CSet) (l : List Nat) (v : Value) (er : Int) (W : World) : Prop :=
  if s.can l then v = .slice none 0 0 ∧ er = 6 else FewV n (CSet.fewest (fun l => !s.can l) l) v W ∧ er = 0

set_option maxRecDepth 100000 in
set_option maxHeartbeats 4000000 in
theorem bar_any (s : CSet) (hs : s.Ok) (v lv : Value) (l : List Nat) (w : World) (hv : SetV w v s) (hl : Cols w lv l) (ha : Asc s.paints.length l) :
    Calls Try.prog 22 #[v, lv] w fun e w' => ∃ r er, e = .returned (.tuple #[r, .int .i64 er]) ∧ BarV w.heap.size s l r er w' ∧ Bel w w' := by
  have k1 := fun W (hW : Bel w W) => checkColours_yes s hs v lv l W (hv.bel hW) (hl.bel hW) ha
  obtain ⟨pv, ev, rfl, h1, h2⟩ := hv
  have k2 := fun W (hW : Bel w W) => can_any s hs l ha.cl pv ev lv W ⟨Nat.zero_le _, h1.bel hW, h2.bel hW, hl.bel hW⟩
  have hlen := Nat.le_trans ha.len hs.n5
  have k3 := fun W0 (hW0 : Bel w W0) B (hB : C4 W0 B pv (.int .i64 s.near) (.int .i64 s.give) ev) => fewest_any 44 #[] #[.pointer (some ⟨B, 0, none⟩)] (enters_of Try.func44 (by kernel_rfl) rfl) lv l (fun l => !s.can l) W0 (hl.bel hW0) hlen
    (fun W v x hb hx hne hsub => bar1_any s hs pv ev v x B W (hB.bel hb) (h1.bel (hW0.trans hb)) (h2.bel (hW0.trans hb)) hx ⟨fun c hc => ha.1 c (hsub.subset hc), ha.cl.2.sublist hsub⟩)
  have c4 := C4.new w pv (.int .i64 s.near) (.int .i64 s.give) ev 31
  have K1 := Lib.hid k1
  have K2 := Lib.hid k2
  have K3 := Lib.hid k3
  have C := Lib.hid c4
  obtain ⟨pa, pc, rfl, -, -, -, -⟩ := h1
  obtain ⟨ea, ec, rfl, -, -, -, -⟩ := h2
  obtain ⟨la, lc, rfl, -, -, -, -⟩ := hl
  obtain ⟨c0, c1, c2, c3⟩ := c4
  simp only [List.length_map] at K1 K2 K3 ⊢
  clear ha hs k1 k2 k3
  go_enter Try.func22, Try.ntmps22
  go_wp2_with fail
  refine (K1.out _ ((Bel.refl w).alloc _)).mono ?_
  rintro e w1 ⟨rfl, hb⟩
  have HC := Lib.hid (C.out.bel hb)
  have HB := Lib.hid (((Bel.refl w).alloc _).trans hb)
  clear c0 c1 c2 c3 hb
  obtain ⟨c0, c1, c2, c3⟩ := HC.out
  go_wp2_with fail
  refine (K2.out _ HB.out).mono ?_
  rintro e w2 ⟨rfl, hb⟩
  have HB2 := Lib.hid (HB.out.trans hb)
  have HC2 := Lib.hid (HC.out.bel hb)
  clear hb c0 c1 c2 c3
  cases hcan : s.can l with
  | true =>
    have HCAN := Lib.hid hcan
    clear hcan
    go_wp2_with fail
    go_ret2
    exact ⟨_, _, rfl, by unfold BarV; rw [HCAN.out]; exact ⟨rfl, rfl⟩, HB2.out⟩
  | false =>
    have HCAN := Lib.hid hcan
    clear hcan
    go_wp2_with fail
    refine (K3.out w2 HB2.out _ HC2.out).mono ?_
    rintro e w3 ⟨r, rfl, hf, hb⟩
    have HB3 := Lib.hid (HB2.out.trans hb)
    have HF := Lib.hid (hf.mono (m := w.heap.size) HB2.out.size)
    clear hb hf
    go_wp2_with fail
    go_ret2
    exact ⟨_, _, rfl, by unfold BarV; rw [HCAN.out]; exact ⟨HF.out, rfl⟩, HB3.out⟩

end Go.Proofs.Ytpkadofgmhninaa
