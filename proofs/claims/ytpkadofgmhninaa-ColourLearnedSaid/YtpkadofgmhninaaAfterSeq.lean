/- The plans of some colours are yielded one after another. -/
import Derived.Test.YtpkadofgmhninaaWithout
namespace Go.Proofs.Ytpkadofgmhninaa
open Go.RowKit
attribute [local go_sem] Oper.semAt_some

theorem KeepFrom.quiet {n m : Nat} {A B C : World} (h : KeepFrom n A B) (q : Quiet m B C) (hm : A.heap.size ≤ m) : KeepFrom n A C :=
  ⟨Nat.le_trans h.1 q.size, fun k hk hl => by
    have h1 := h.2 k hk hl
    have h2 : ∃ o, A.heap[k]? = some o := ⟨_, Array.getElem?_eq_getElem hl⟩
    obtain ⟨o, ho⟩ := h2
    rw [ho] at h1 ⊢
    exact q.same k o h1 (.inl (by omega))⟩

set_option maxRecDepth 100000 in
set_option maxHeartbeats 8000000 in
theorem after1_seq (n : Nat) (s : CSet) (hs : s.Ok) (cs : List Nat) (hcs : Cl s.paints.length cs) (pv ev cv : Value) (f : Nat) : ∀ (p : Rounds) (bv : Value) (hv : List Value) (B1 B2 : Nat), PlanOk s.paints.length p → (dropOut cs p.flatten).length < f →
    SeqQ 102 #[] #[.pointer (some ⟨B1, 0, none⟩), .pointer (some ⟨B2, 0, none⟩)] (EPlan n) (s.plansFrom cs f p) (AfterD n B1 B2 s cs pv ev cv bv hv p) := by
  induction f with
  | zero => intro p bv hv B1 B2 _ h; omega
  | succ f ih =>
  intro p bv hv B1 B2 hp hlen L J Jx W hD hJ hJx hY h0
  have hn5 := hs.n5
  have HD := Lib.hid hD
  have HJ := Lib.hid hJ
  have HJx := Lib.hid hJx
  have HY := Lib.hid hY
  have H0 := Lib.hid h0
  have IH := Lib.hid ih
  have HP := Lib.hid hp
  have HS := Lib.hid hs
  have HCS := Lib.hid hcs
  clear hD hJ hJx hY h0 ih hp hs hcs
  have hpl : p.length ≤ 5 := Nat.le_trans HP.out.len hn5
  have hfl : p.flatten.length ≤ 5 := Nat.le_trans HP.out.flat hn5
  have hcl : cs.length ≤ 5 := Nat.le_trans HCS.out.len hn5
  have hdl : (dropOut cs p.flatten).length ≤ 5 := Nat.le_trans (List.length_filter_le _ _) hcl
  refine (callsIn_wide (n := 0)).1 (callsIn_of_wp_marks Try.func102 rfl trivial ?_ rfl)
  simp only [Try.ntmps102, List.size_toArray, List.length_cons, List.length_nil, Nat.reduceAdd, Nat.reduceSub, Array.replicate_succ, Array.replicate_zero, List.push_toArray, List.append_toArray, List.nil_append, List.cons_append]
  have hw0 := (Bel.refl W).alloc (.cells #[.func (.yield L) #[] #[]] 115)
  have hbx0 := Boxed.new W 115 (.func (.yield L) #[] #[])
  obtain ⟨pa, pc, rfl, hp1, hp2, -, -⟩ := HD.out.paints
  obtain ⟨ea, ec, rfl, he1, he2, -, -⟩ := HD.out.pairs
  obtain ⟨ca, cc, rfl, hc1, hc2, -, -⟩ := HD.out.cols
  obtain ⟨ba, bc, rfl, hb1, hb2, -, -⟩ := HD.out.begun.rnds
  unfold maxLen at hp2 he2 hc2 hb2
  rw [List.length_map] at hc1
  simp only [List.length_map] at HD HY IH ⊢
  have HD0 := Lib.hid (HD.out.bel hw0)
  have HB0 := Lib.hid hbx0
  have HJ0 := Lib.hid (HJ.out _ _ _ H0.out (hw0.quiet _))
  obtain ⟨c0, c1, c2, c3, c4⟩ := HD0.out.sign
  have hbb := HD0.out.box.cell
  have hks := fun W' (hW : Bel (W.alloc (.cells #[.func (.yield L) #[] #[]] 115)) W') => surely_any s HS.out _ _ _ p W' (HD0.out.fd.bel hW) HP.out
  have KS := Lib.hid hks
  have hz0 : (W.alloc (.cells #[.func (.yield L) #[] #[]] 115)).heap.size = W.heap.size + 1 := World.size_alloc _ _
  have HZ := Lib.hid hz0
  have HBW := Lib.hid hw0
  clear hw0 hbx0 hks hz0
  gi_wp2_with fail
  generalize W.alloc (.cells #[.func (.yield L) #[] #[]] 115) = W0 at *
  have hz0 := HZ.out
  refine ⟨trivial, rfl, (callsW (KS.out W0 (Bel.refl _))).mono ?_⟩
  rintro e w1 ⟨rfl, hb1⟩
  have HW1 := Lib.hid hb1
  have HJ1 := Lib.hid (HJ.out _ _ _ HJ0.out (hb1.quiet _))
  have HD1 := Lib.hid (HD0.out.bel hb1)
  have HB1 := Lib.hid (hb1.boxed HB0.out)
  have hs1 := hb1.size
  have HPL : Hid (s.plansFrom cs (f + 1) p = if s.surely p then (if dropOut cs p.flatten = [] then [p] else (CSet.parts [] (dropOut cs p.flatten)).flatMap fun r => s.plansFrom cs f (p ++ [r])) else []) := Lib.hid rfl
  clear hb1 c0 c1 c2 c3 c4 hbb
  generalize hsp : s.surely p = sp at *
  have HSP := Lib.hid hsp
  clear hsp
  cases sp
  · gi_wp2_with fail
    refine leaves_marks W.heap.size [] _ ⟨List.nodup_nil, nofun⟩ (fun W6 q => leaves_out (results_none rfl _ _ _) ?_)
    refine ⟨⟨_, rfl⟩, HD1.out.quiet q, .inl ?_⟩
    rw [HPL.out]
    exact HJ.out _ _ _ HJ1.out q
  gi_wp2_with fail
  refine region_grow (fun i v W => match i with
    | 0 => v = .pointer (some ⟨B1, 4, none⟩)
    | 1 => v = .slice ca cs.length cc
    | 2 => v = .slice ba (List.length p) bc
    | 3 => Cols W v p.flatten
    | 4 => Cols W v (dropOut cs p.flatten) ∧ (dropOut cs p.flatten ≠ [] → FromB w1.heap.size v)
    | 5 => Cols W v (dropOut cs p.flatten) ∧ (dropOut cs p.flatten ≠ [] → FromB w1.heap.size v)
    | _ => True) (by kernel_rfl) (by kernel_rfl) (by kernel_rfl) ?_ ?_ ?_
  · intro i v W W' h hb
    split at h <;> first | exact h | exact h.bel hb | exact fun e => (h e).bel hb | exact ⟨h.1.bel hb, h.2⟩
  · refine ⟨?_, ?_, ?_, ?_, ?_, ?_, trivial⟩
    · refine growOp_k ?_; intro vs W hW hd K HK
      clear hd
      simp only [putAll, Act.put, List.setIfInBounds_toArray, List.set_cons_succ, List.set_cons_zero, Nat.reduceAdd, Nat.zero_add]
      gi_wp2_with fail
      refine HK.out _ _ ?_ ?_ ?_
      · simp only [putAll, Act.put, List.setIfInBounds_toArray, List.set_cons_succ, List.set_cons_zero, Nat.reduceAdd, Nat.zero_add] <;> kernel_rfl
      · rfl
      · exact Bel.refl _
    · refine growOp_k ?_; intro vs W hW hd K HK
      have h0 : (vs 0) = .pointer (some ⟨B1, 4, none⟩) := hd 0 (by decide)
      clear hd
      simp only [putAll, Act.put, List.setIfInBounds_toArray, List.set_cons_succ, List.set_cons_zero, Nat.reduceAdd, Nat.zero_add, h0]
      obtain ⟨c0, c1, c2, c3, c4⟩ := (HD1.out.bel hW).sign
      gi_wp2_with fail
      refine HK.out _ _ ?_ ?_ ?_
      · simp only [putAll, Act.put, List.setIfInBounds_toArray, List.set_cons_succ, List.set_cons_zero, Nat.reduceAdd, Nat.zero_add, h0] <;> kernel_rfl
      · rfl
      · exact Bel.refl _
    · refine growOp_k ?_; intro vs W hW hd K HK
      clear hd
      simp only [putAll, Act.put, List.setIfInBounds_toArray, List.set_cons_succ, List.set_cons_zero, Nat.reduceAdd, Nat.zero_add]
      have hbb := (HD1.out.bel hW).box.cell
      gi_wp2_with fail
      refine HK.out _ _ ?_ ?_ ?_
      · simp only [putAll, Act.put, List.setIfInBounds_toArray, List.set_cons_succ, List.set_cons_zero, Nat.reduceAdd, Nat.zero_add] <;> kernel_rfl
      · rfl
      · exact Bel.refl _
    · refine growOp_k ?_; intro vs W hW hd K HK
      have h2 : (vs 2) = .slice ba (List.length p) bc := hd 2 (by decide)
      clear hd
      simp only [putAll, Act.put, List.setIfInBounds_toArray, List.set_cons_succ, List.set_cons_zero, Nat.reduceAdd, Nat.zero_add, h2]
      gi_wp2_with fail
      refine ⟨trivial, rfl, (callsW (flat_any _ p W (HD1.out.bel hW).begun.rnds (by omega))).mono ?_⟩
      rintro e w2 ⟨r, rfl, hr, hb⟩
      gi_wp2_with fail
      refine HK.out _ _ ?_ ?_ ?_
      · simp only [putAll, Act.put, List.setIfInBounds_toArray, List.set_cons_succ, List.set_cons_zero, Nat.reduceAdd, Nat.zero_add, h2] <;> kernel_rfl
      · exact hr
      · exact hb
    · refine growOp_k ?_; intro vs W hW hd K HK
      have h1 : (vs 1) = .slice ca cs.length cc := hd 1 (by decide)
      have h3 : Cols W (vs 3) p.flatten := hd 3 (by decide)
      clear hd
      simp only [putAll, Act.put, List.setIfInBounds_toArray, List.set_cons_succ, List.set_cons_zero, Nat.reduceAdd, Nat.zero_add, h1]
      gi_wp2_with fail
      refine ⟨trivial, rfl, (callsW (without_any _ _ cs p.flatten W (HD1.out.bel hW).cols h3 (by omega))).mono ?_⟩
      rintro e w2 ⟨r, rfl, hr, hf, hb⟩
      gi_wp2_with fail
      refine HK.out _ _ ?_ ?_ ?_
      · simp only [putAll, Act.put, List.setIfInBounds_toArray, List.set_cons_succ, List.set_cons_zero, Nat.reduceAdd, Nat.zero_add, h1] <;> kernel_rfl
      · exact ⟨hr, fun e => (hf e).mono hW.size⟩
      · exact hb
    · refine growOp_k ?_; intro vs W hW hd K HK
      have h4 : Cols W (vs 4) (dropOut cs p.flatten) ∧ (dropOut cs p.flatten ≠ [] → FromB w1.heap.size (vs 4)) := hd 4 (by decide)
      clear hd
      simp only [putAll, Act.put, List.setIfInBounds_toArray, List.set_cons_succ, List.set_cons_zero, Nat.reduceAdd, Nat.zero_add]
      gi_wp2_with fail
      refine HK.out _ _ ?_ ?_ ?_
      · simp only [putAll, Act.put, List.setIfInBounds_toArray, List.set_cons_succ, List.set_cons_zero, Nat.reduceAdd, Nat.zero_add] <;> kernel_rfl
      · exact h4
      · exact Bel.refl _
  · intro vs W2 hW2 hall
    have h5 : Cols W2 (vs 5) (dropOut cs p.flatten) ∧ (dropOut cs p.flatten ≠ [] → FromB w1.heap.size (vs 5)) := hall 5 (by decide)
    clear hall
    obtain ⟨h5, h5f⟩ := h5
    have HC2 := Lib.hid h5
    obtain ⟨ra, rc, e5, hr1, hr2, -, -⟩ := h5
    unfold maxLen at hr2
    rw [List.length_map] at hr1 e5
    rw [e5] at HC2 h5f
    simp only [putAll, Act.put, List.setIfInBounds_toArray, List.set_cons_succ, List.set_cons_zero, Nat.reduceAdd, Nat.zero_add, e5]
    have HD2 := Lib.hid (HD1.out.bel hW2)
    have HB2 := Lib.hid (hW2.boxed HB1.out)
    have HJ2 := Lib.hid (HJ.out _ _ _ HJ1.out (hW2.quiet _))
    have hs2 := hW2.size
    have HPLN : Hid (∀ r, r ∈ CSet.parts [] (dropOut cs p.flatten) → PlanOk s.paints.length (p ++ [r]) ∧ (dropOut cs (p ++ [r]).flatten).length < f) := Lib.hid (fun r hr => ⟨HP.out.more HCS.out hr, by
      obtain ⟨t, et, h1, h2⟩ := parts_mem _ _ _ hr
      rw [List.nil_append] at et
      subst et
      have := dropOut_less h1 h2
      rw [List.flatten_append, List.flatten_singleton]
      omega⟩)
    clear e5 hW2
    generalize dropOut cs p.flatten = rest at *
    have hbx2 := HB2.out.cell
    have hbb2 := HD2.out.box.cell
    by_cases hre : rest = []
    · subst hre
      have HPL2 := Lib.hid (show s.plansFrom cs (f + 1) p = [p] from HPL.out)
      have hpre : ([] : List Rounds) ++ [p] <+: s.plansFrom cs (f + 1) p := by rw [HPL2.out]; exact List.prefix_refl _
      obtain ⟨fn, tmps, assign, body, hyr, hR⟩ := HY.out [] p #[.slice ba (List.length p) bc] W2 HJ2.out HD2.out hpre ⟨_, _, rfl, HD2.out.begun⟩
      have HPRE := Lib.hid hpre
      clear hpre
      simp only [List.length_nil]
      gi_wp2_with fail
      refine ⟨rfl, hR.mono ?_⟩
      rintro e W3 ⟨hd3, hk3, (⟨rfl, hJ3⟩ | ⟨rfl, hJ3⟩)⟩
      · have HD3 := Lib.hid hd3
        have HJ3 := Lib.hid hJ3
        clear hR hyr hbx2 hbb2 hd3 hk3 hJ3
        gi_wp2_with fail
        refine leaves_marks W.heap.size [] _ ⟨List.nodup_nil, nofun⟩ (fun W6 q => leaves_out (results_none rfl _ _ _) ?_)
        refine ⟨⟨_, rfl⟩, HD3.out.quiet q, .inl ?_⟩
        rw [HPL2.out]
        exact HJ.out _ _ _ HJ3.out q
      · have HD3 := Lib.hid hd3
        have HJ3 := Lib.hid hJ3
        clear hR hyr hbx2 hbb2 hd3 hk3 hJ3
        gi_wp2_with fail
        refine leaves_marks W.heap.size [] _ ⟨List.nodup_nil, nofun⟩ (fun W6 q => leaves_out (results_none rfl _ _ _) ?_)
        exact ⟨⟨_, rfl⟩, HD3.out.quiet q, .inr ⟨_, HPRE.out, HJx.out _ _ _ HJ3.out q⟩⟩
    · have HPL2 := Lib.hid (show s.plansFrom cs (f + 1) p = (CSet.parts [] rest).flatMap fun r => s.plansFrom cs f (p ++ [r]) from by rw [HPL.out, if_neg hre]; rfl)
      have hfr := h5f hre
      have hne : ((rest.length : Int) == 0) = false := by
        rw [beq_eq_false_iff_ne]; have : rest.length ≠ 0 := fun h => hre (List.length_eq_zero_iff.1 h)
        omega
      gi_wp2_with fail
      refine ⟨trivial, rfl, (callsW (parts_any _ _ _ _ _ _ _)).mono ?_⟩
      rintro e w4 ⟨rfl, hw4⟩
      obtain ⟨hbl4, hbb4, hw24, hz4⟩ := two_boxes hw4
      have HD4 : Hid (PartD W2.heap.size (W2.heap.size + 1) W2.heap.size (.slice ra rest.length rc) (.slice none 0 0) rest [] w4) := Lib.hid ⟨by omega, hbl4, hbb4, HC2.out.bel hw24, cols_nil _⟩
      have hi0 : J (([] : List (List Nat)).flatMap (fun r => s.plansFrom cs f (p ++ [r]))) w4 ∧ AfterD n B1 B2 s cs (.slice pa s.paints.length pc) (.slice ea s.eats.length ec) (.slice ca cs.length cc) (.slice ba (List.length p) bc) hv p w4 ∧ Boxed w4 W.heap.size 115 (.func (.yield L) #[] #[]) :=
        ⟨HJ.out _ _ _ HJ2.out (hw24.quiet _), HD2.out.bel hw24, hw24.boxed HB2.out⟩
      have HI0 := Lib.hid hi0
      have HFR := Lib.hid hfr
      have HPS : Hid (SeqQ 91 #[] #[.pointer (some ⟨W2.heap.size + 1, 0, none⟩), .pointer (some ⟨W2.heap.size, 0, none⟩)] (EPart W2.heap.size) (CSet.parts [] rest) (PartD W2.heap.size (W2.heap.size + 1) W2.heap.size (.slice ra rest.length rc) (.slice none 0 0) rest [])) := Lib.hid (parts1_seq W2.heap.size rest.length rest [] _ _ _ _ rfl (by simp; omega))
      clear hbl4 hbb4 hw24 hw4 hbx2 hbb2 hi0 h5f hfr hne
      gi_wp2_with fail
      refine rf_outer (gf := 91) (fs := #[]) (lb := #[.pointer (some ⟨W2.heap.size + 1, 0, none⟩), .pointer (some ⟨W2.heap.size, 0, none⟩)]) rfl (enters_of Try.func91 (by kernel_rfl) rfl)
        HPS.out HD4.out (fun A B h q => h.quiet q) (fun W vs x h => by obtain ⟨_, rfl, _⟩ := h; rfl)
        (fun pre w' => J (pre.flatMap (fun r => s.plansFrom cs f (p ++ [r]))) w' ∧ AfterD n B1 B2 s cs (.slice pa s.paints.length pc) (.slice ea s.eats.length ec) (.slice ca cs.length cc) (.slice ba (List.length p) bc) hv p w' ∧ Boxed w' W.heap.size 115 (.func (.yield L) #[] #[]))
        (fun c _ w' => c = .ret ∧ (∃ q, q <+: s.plansFrom cs (f + 1) p ∧ Jx q w') ∧ AfterD n B1 B2 s cs (.slice pa s.paints.length pc) (.slice ea s.eats.length ec) (.slice ca cs.length cc) (.slice ba (List.length p) bc) hv p w')
        (fun pre A B h q => ⟨HJ.out _ _ _ h.1 (q.mono (by omega)), h.2.1.quiet q, q.boxed h.2.2⟩)
        (fun c pre A B h q => ⟨h.1, ⟨h.2.1.choose, h.2.1.choose_spec.1, HJx.out _ _ _ h.2.1.choose_spec.2 (q.mono (by omega))⟩, h.2.2.quiet q⟩)
        HI0.out ?round ?done ?stop
      case stop =>
        rintro d c pre W5 hd5 _ ⟨rfl, ⟨pre', hp1, hp2⟩, hpd⟩ _ hK
        have HM5 : Hid (Marks W.heap.size [d] W5) := Lib.hid ⟨by simp, fun e he => by
          simp at he; subst he; exact ⟨by omega, hK⟩⟩
        have HP1 := Lib.hid hp1
        have HP2 := Lib.hid hp2
        have HPD := Lib.hid hpd
        clear hp1 hp2 hpd hK
        gi_wp2_with fail
        refine leaves_marks W.heap.size [d] _ HM5.out (fun W6 q => leaves_out (results_none rfl _ _ _) ?_)
        exact ⟨⟨_, rfl⟩, HPD.out.quiet q, .inr ⟨pre', HP1.out, HJx.out _ _ _ HP2.out q⟩⟩
      case done =>
        rintro d W5 hd5 ⟨hj5, hpd, hbx5⟩ _ hK
        have HM5 : Hid (Marks W.heap.size [d] W5) := Lib.hid ⟨by simp, fun e he => by
          simp at he; subst he; exact ⟨by omega, hK⟩⟩
        have HPD := Lib.hid hpd
        have HJ5 := Lib.hid hj5
        clear hj5 hpd hbx5 hK
        gi_wp2_with fail
        refine leaves_marks W.heap.size [d] _ HM5.out (fun W6 q => leaves_out (results_none rfl _ _ _) ?_)
        refine ⟨⟨_, rfl⟩, HPD.out.quiet q, .inl ?_⟩
        rw [HPL2.out]
        exact HJ.out _ _ _ HJ5.out q
      case round =>
        rintro l5 pre r vs5 W5 hl5 ⟨hj5, hd5, hb5⟩ hpd5 hpre ⟨rv, rfl, hrc5, hrf5⟩
        gi_wp2_with fail
        refine ⟨Bel.refl _, fun W6 q _ hloop => ?_⟩
        obtain ⟨lr, hlr⟩ := hloop
        have HLR := Lib.hid hlr
        have HJ6 := Lib.hid (HJ.out _ _ _ hj5 (q.mono (by omega)))
        have HD6 := Lib.hid (hd5.quiet q)
        have HB6 := Lib.hid (q.boxed hb5)
        have HPD6 := Lib.hid (hpd5.quiet q)
        have HRC6 := Lib.hid (hrc5.quiet q)
        have HRF := Lib.hid hrf5
        have hsz6 : w4.heap.size ≤ W6.heap.size := by have := hl5; have := (Array.getElem?_eq_some_iff.1 hlr).1; omega
        have HRM := Lib.hid (show r ∈ CSet.parts [] rest from hpre.subset (by simp))
        have HPRE5 := Lib.hid hpre
        obtain ⟨rb, roff, rk, rcc, rfl, hrb⟩ := hrf5
        clear hlr hj5 hd5 hb5 hpd5 hrc5 q hpre
        gi_wp2_with fail
        refine region_grow (fun i v W => match i with
          | 0 => v = .agg #[.slice pa s.paints.length pc, .int .i64 s.near, .int .i64 s.give, .slice ea s.eats.length ec, .slice ca cs.length cc]
          | 1 => v = .slice ba (List.length p) bc
          | 2 => v = .slice (some ⟨rb, roff, none⟩) rk rcc
          | 3 => Vals W v [.slice (some ⟨rb, roff, none⟩) rk rcc]
          | 4 => Rows2 W v [hv, [.slice (some ⟨rb, roff, none⟩) rk rcc]]
          | 5 => RndsH n (hv ++ [.slice (some ⟨rb, roff, none⟩) rk rcc]) W v (p ++ [r]) ∧ FromB W6.heap.size v
          | 6 => ∃ C1 C2 qv, v = .func (.func 102) #[] #[.pointer (some ⟨C1, 0, none⟩), .pointer (some ⟨C2, 0, none⟩)] ∧ W6.heap.size ≤ C1 ∧ W6.heap.size ≤ C2 ∧ FromB W6.heap.size qv ∧ AfterD n C1 C2 s cs (.slice pa s.paints.length pc) (.slice ea s.eats.length ec) (.slice ca cs.length cc) qv (hv ++ [.slice (some ⟨rb, roff, none⟩) rk rcc]) (p ++ [r]) W
          | _ => True) (by kernel_rfl) (by kernel_rfl) (by kernel_rfl) ?_ ?_ ?_
        · intro i v W W' h hb
          split at h <;> first | exact h | exact h.bel hb | exact fun e => (h e).bel hb | exact ⟨h.1.bel hb, h.2⟩ | (obtain ⟨C1, C2, qv, h1, h2, h3, h4, h5⟩ := h; exact ⟨C1, C2, qv, h1, h2, h3, h4, h5.bel hb⟩)
        · refine ⟨?_, ?_, ?_, ?_, ?_, ?_, ?_, trivial⟩
          · refine growOp_k ?_; intro vs W hW hd K HK
            clear hd
            simp only [putAll, Act.put, List.setIfInBounds_toArray, List.set_cons_succ, List.set_cons_zero, Nat.reduceAdd, Nat.zero_add]
            obtain ⟨c0, c1, c2, c3, c4⟩ := (HD6.out.bel hW).sign
            gi_wp2_with fail
            refine HK.out _ _ ?_ ?_ ?_
            · simp only [putAll, Act.put, List.setIfInBounds_toArray, List.set_cons_succ, List.set_cons_zero, Nat.reduceAdd, Nat.zero_add] <;> kernel_rfl
            · rfl
            · exact Bel.refl _
          · refine growOp_k ?_; intro vs W hW hd K HK
            clear hd
            simp only [putAll, Act.put, List.setIfInBounds_toArray, List.set_cons_succ, List.set_cons_zero, Nat.reduceAdd, Nat.zero_add]
            have hbb := (HD6.out.bel hW).box.cell
            gi_wp2_with fail
            refine HK.out _ _ ?_ ?_ ?_
            · simp only [putAll, Act.put, List.setIfInBounds_toArray, List.set_cons_succ, List.set_cons_zero, Nat.reduceAdd, Nat.zero_add] <;> kernel_rfl
            · rfl
            · exact Bel.refl _
          · refine growOp_k ?_; intro vs W hW hd K HK
            clear hd
            simp only [putAll, Act.put, List.setIfInBounds_toArray, List.set_cons_succ, List.set_cons_zero, Nat.reduceAdd, Nat.zero_add]
            gi_wp2_with fail
            refine HK.out _ _ ?_ ?_ ?_
            · simp only [putAll, Act.put, List.setIfInBounds_toArray, List.set_cons_succ, List.set_cons_zero, Nat.reduceAdd, Nat.zero_add] <;> kernel_rfl
            · rfl
            · exact Bel.refl _
          · refine growOp_k ?_; intro vs W hW hd K HK
            have h2 : (vs 2) = .slice (some ⟨rb, roff, none⟩) rk rcc := hd 2 (by decide)
            clear hd
            simp only [putAll, Act.put, List.setIfInBounds_toArray, List.set_cons_succ, List.set_cons_zero, Nat.reduceAdd, Nat.zero_add, h2]
            gi_wp2_with fail
            refine HK.out _ _ ?_ ?_ ?_
            · simp only [putAll, Act.put, List.setIfInBounds_toArray, List.set_cons_succ, List.set_cons_zero, Nat.reduceAdd, Nat.zero_add, h2] <;> kernel_rfl
            · exact vals_one _ _ _
            · exact (Bel.refl _).alloc _
          · refine growOp_k ?_; intro vs W hW hd K HK
            have h1 : (vs 1) = .slice ba (List.length p) bc := hd 1 (by decide)
            have h3 : Vals W (vs 3) [.slice (some ⟨rb, roff, none⟩) rk rcc] := hd 3 (by decide)
            clear hd
            have H3 := Lib.hid h3
            obtain ⟨a3, c3, e3, -, -, -, -⟩ := h3
            simp only [putAll, Act.put, List.setIfInBounds_toArray, List.set_cons_succ, List.set_cons_zero, Nat.reduceAdd, Nat.zero_add, h1, e3]
            gi_wp2_with fail
            refine HK.out _ _ ?_ ?_ ?_
            · simp only [putAll, Act.put, List.setIfInBounds_toArray, List.set_cons_succ, List.set_cons_zero, Nat.reduceAdd, Nat.zero_add, h1, e3] <;> kernel_rfl
            · exact rows2_two _ _ _ _ _ _ (HD6.out.bel hW).begun.vals (by have h := H3.out; rw [e3] at h; exact h)
            · exact (Bel.refl _).alloc _
          · refine growOp_k ?_; intro vs W hW hd K HK
            have h4 : Rows2 W (vs 4) [hv, [.slice (some ⟨rb, roff, none⟩) rk rcc]] := hd 4 (by decide)
            clear hd
            have H4 := Lib.hid h4
            obtain ⟨_, ⟨a4, c4, e4, -, -, -, -⟩, -, -⟩ := h4
            rw [e4] at H4
            simp only [putAll, Act.put, List.setIfInBounds_toArray, List.set_cons_succ, List.set_cons_zero, Nat.reduceAdd, Nat.zero_add, e4]
            gi_wp2_with fail
            refine ⟨trivial, rfl, (CallsIn.inRound l5 (callsW (concat_plan n W _ _ p r hv H4.out (HD6.out.bel hW).begun.len (HD6.out.bel hW).begun.each (HRC6.out.bel hW) (HRF.out.mono (by have := HD2.out.size; omega)) (by have := HD6.out.size; have := hW.size; omega) (by omega)))).mono ?_⟩
            rintro e w2 ⟨r', rfl, hr, hf, hb⟩
            gi_wp2_with fail
            refine HK.out _ _ ?_ ?_ ?_
            · simp only [putAll, Act.put, List.setIfInBounds_toArray, List.set_cons_succ, List.set_cons_zero, Nat.reduceAdd, Nat.zero_add, e4] <;> kernel_rfl
            · exact ⟨hr, hf.mono hW.size⟩
            · exact hb
          · refine growOp_k ?_; intro vs W hW hd K HK
            have h0 : (vs 0) = .agg #[.slice pa s.paints.length pc, .int .i64 s.near, .int .i64 s.give, .slice ea s.eats.length ec, .slice ca cs.length cc] := hd 0 (by decide)
            have h5 : RndsH n (hv ++ [.slice (some ⟨rb, roff, none⟩) rk rcc]) W (vs 5) (p ++ [r]) ∧ FromB W6.heap.size (vs 5) := hd 5 (by decide)
            clear hd
            obtain ⟨h5, h5f⟩ := h5
            have H5 := Lib.hid h5
            have H5F := Lib.hid h5f
            obtain ⟨qb, qo, qk, qc, e5, hq5⟩ := h5f
            rw [e5] at H5 H5F
            simp only [putAll, Act.put, List.setIfInBounds_toArray, List.set_cons_succ, List.set_cons_zero, Nat.reduceAdd, Nat.zero_add, h0, e5]
            gi_wp2_with fail
            refine ⟨trivial, rfl, (CallsIn.inRound l5 (callsW (after_any _ _ _ _ _ _ _ _ _ _ _ _ _ _ _))).mono ?_⟩
            rintro e w2 ⟨rfl, hw2⟩
            obtain ⟨k1, k2, k3⟩ := after_boxes hw2
            have hDn := HD6.out.bel (hW.trans k3)
            gi_wp2_with fail
            refine HK.out _ _ ?_ ?_ ?_
            · simp only [putAll, Act.put, List.setIfInBounds_toArray, List.set_cons_succ, List.set_cons_zero, Nat.reduceAdd, Nat.zero_add, h0, e5] <;> kernel_rfl
            · exact ⟨_, _, _, rfl, hW.size, by have := hW.size; omega, H5F.out, by have := hDn.size; omega, k1, k2, hDn.paints, hDn.pairs, hDn.cols, H5.out.bel k3⟩
            · exact k3
        · intro vs W8 hW8 hall
          have h6 : ∃ C1 C2 qv, (vs 6) = .func (.func 102) #[] #[.pointer (some ⟨C1, 0, none⟩), .pointer (some ⟨C2, 0, none⟩)] ∧ W6.heap.size ≤ C1 ∧ W6.heap.size ≤ C2 ∧ FromB W6.heap.size qv ∧ AfterD n C1 C2 s cs (.slice pa s.paints.length pc) (.slice ea s.eats.length ec) (.slice ca cs.length cc) qv (hv ++ [.slice (some ⟨rb, roff, none⟩) rk rcc]) (p ++ [r]) W8 := hall 6 (by decide)
          obtain ⟨C1, C2, qv, e6, hC1, hC2, hqv, hN8⟩ := h6
          clear hall
          simp only [putAll, Act.put, List.setIfInBounds_toArray, List.set_cons_succ, List.set_cons_zero, Nat.reduceAdd, Nat.zero_add, e6]
          have HN8 := Lib.hid hN8
          have HLR8 := Lib.hid ((hW8.block l5 (Array.getElem?_eq_some_iff.1 HLR.out).1).trans HLR.out)
          have hs8 := hW8.size
          have hpok := HPLN.out r HRM.out
          have HIS := Lib.hid (IH.out (p ++ [r]) qv (hv ++ [.slice (some ⟨rb, roff, none⟩) rk rcc]) C1 C2 hpok.1 hpok.2)
          have HPX := Lib.hid (fun (q : List Rounds) (hq : q <+: s.plansFrom cs f (p ++ [r])) => show pre.flatMap (fun r => s.plansFrom cs f (p ++ [r])) ++ q <+: s.plansFrom cs (f + 1) p from by rw [HPL2.out]; exact flatMap_two (g := (fun r => s.plansFrom cs f (p ++ [r]))) HPRE5.out hq)
          have hi8 : J (pre.flatMap (fun r => s.plansFrom cs f (p ++ [r])) ++ []) W8 ∧ AfterD n B1 B2 s cs (.slice pa s.paints.length pc) (.slice ea s.eats.length ec) (.slice ca cs.length cc) (.slice ba (List.length p) bc) hv p W8 ∧ Boxed W8 W.heap.size 115 (.func (.yield L) #[] #[]) ∧ PartD W2.heap.size (W2.heap.size + 1) W2.heap.size (.slice ra rest.length rc) (.slice none 0 0) rest [] W8 ∧ KeepFrom w4.heap.size W6 W8 :=
            ⟨by rw [List.append_nil]; exact HJ.out _ _ _ HJ6.out (hW8.quiet _), HD6.out.bel hW8, hW8.boxed HB6.out, HPD6.out.bel hW8, hW8.keep _⟩
          have HI8 := Lib.hid hi8
          have HQV := Lib.hid hqv
          have hlt4 : W.heap.size + 1 ≤ w1.heap.size := by omega
          clear hN8 hW8 hpok hi8 hqv e6
          gi_wp2_with fail
          refine rf_inner (l₀ := l5) (r₀ := lr) HLR8.out (gf := 102) (fs := #[]) (lb := #[.pointer (some ⟨C1, 0, none⟩), .pointer (some ⟨C2, 0, none⟩)]) rfl (enters_of Try.func102 (by kernel_rfl) rfl)
            HIS.out HN8.out (fun A B h q => h.quiet q) (fun W vs x h => by obtain ⟨_, _, rfl, _⟩ := h; rfl)
            (fun pre2 w' => J (pre.flatMap (fun r => s.plansFrom cs f (p ++ [r])) ++ pre2) w' ∧ AfterD n B1 B2 s cs (.slice pa s.paints.length pc) (.slice ea s.eats.length ec) (.slice ca cs.length cc) (.slice ba (List.length p) bc) hv p w' ∧ Boxed w' W.heap.size 115 (.func (.yield L) #[] #[]) ∧ PartD W2.heap.size (W2.heap.size + 1) W2.heap.size (.slice ra rest.length rc) (.slice none 0 0) rest [] w' ∧ KeepFrom w4.heap.size W6 w')
            (fun c _ w' => c = .ret ∧ (∃ q, q <+: s.plansFrom cs (f + 1) p ∧ Jx q w') ∧ AfterD n B1 B2 s cs (.slice pa s.paints.length pc) (.slice ea s.eats.length ec) (.slice ca cs.length cc) (.slice ba (List.length p) bc) hv p w' ∧ PartD W2.heap.size (W2.heap.size + 1) W2.heap.size (.slice ra rest.length rc) (.slice none 0 0) rest [] w' ∧ KeepFrom w4.heap.size W6 w')
            (fun pre2 A B h q => ⟨HJ.out _ _ _ h.1 (q.mono (by omega)), h.2.1.quiet q, q.boxed h.2.2.1, h.2.2.2.1.quiet q, h.2.2.2.2.quiet q hs8⟩)
            (fun c pre2 A B h q => ⟨h.1, ⟨h.2.1.choose, h.2.1.choose_spec.1, HJx.out _ _ _ h.2.1.choose_spec.2 (q.mono (by omega))⟩, h.2.2.1.quiet q, h.2.2.2.1.quiet q, h.2.2.2.2.quiet q hs8⟩)
            HI8.out ?round2 ?done2 ?stop2
          case stop2 =>
            rintro c pre2 W9 _ ⟨rfl, ⟨q, hq1, hq2⟩, ho, hpt, hk⟩ _
            have H1 := Lib.hid hq1
            have H2 := Lib.hid hq2
            have H3 := Lib.hid ho
            have H4 := Lib.hid hpt
            have H5 := Lib.hid hk
            clear hq1 hq2 ho hpt hk
            gi_wp2_with fail
            exact ⟨H4.out, H5.out, rfl, ⟨q, H1.out, H2.out⟩, H3.out⟩
          case done2 =>
            rintro W9 ⟨hj, ho, hb, hpt, hk⟩ _
            have H1 := Lib.hid hj
            have H2 := Lib.hid hb
            have H3 := Lib.hid ho
            have H4 := Lib.hid hpt
            have H5 := Lib.hid hk
            clear hj hb ho hpt hk
            gi_wp2_with fail
            refine ⟨H4.out, H5.out, ?_, H3.out, H2.out⟩
            rw [List.flatMap_append, List.flatMap_singleton]
            exact H1.out
          case round2 =>
            rintro l9 pre2 y vs9 W9 hl9 ⟨hj9, ho9, hb9, hpt9, hk9⟩ hn9 hpre9 ⟨yv, yhs, rfl, hyr9⟩
            gi_wp2_with fail
            refine ⟨Bel.refl _, fun W10 q _ _ => ?_⟩
            have HJ10 := Lib.hid (HJ.out _ _ _ hj9 (q.mono (by omega)))
            have HO10 := Lib.hid (ho9.quiet q)
            have HB10 := Lib.hid (q.boxed hb9)
            have HPT10 := Lib.hid (hpt9.quiet q)
            have HK10 := Lib.hid (hk9.quiet q hs8)
            have HN10 := Lib.hid (hn9.quiet q)
            have HY10 := Lib.hid (hyr9.quiet q)
            have hpy : (pre.flatMap (fun r => s.plansFrom cs f (p ++ [r])) ++ pre2) ++ [y] <+: s.plansFrom cs (f + 1) p := by rw [List.append_assoc]; exact HPX.out _ hpre9
            have HPY := Lib.hid hpy
            obtain ⟨fn', tmps', assign', body', hyr', hR'⟩ := HY.out (pre.flatMap (fun r => s.plansFrom cs f (p ++ [r])) ++ pre2) y #[yv] W10 HJ10.out HO10.out hpy ⟨_, _, rfl, HY10.out⟩
            have hbx10 := HB10.out.cell
            clear hj9 ho9 hb9 hpt9 hk9 hn9 hyr9 q hpy hpre9
            gi_wp2_with fail
            refine ⟨rfl, (show RoundIn (Fence.wide.inRound l9) _ Try.prog L fn' tmps' assign' body' W10 _ from hR').mono ?_⟩
            rintro e W11 ⟨ho11, hk11, hor⟩
            have HO11 := Lib.hid ho11
            have HK11 := Lib.hid hk11
            have HN11 : Hid (AfterD n C1 C2 s cs (.slice pa s.paints.length pc) (.slice ea s.eats.length ec) (.slice ca cs.length cc) qv (hv ++ [.slice (some ⟨rb, roff, none⟩) rk rcc]) (p ++ [r]) W11) := Lib.hid (HN10.out.next ho11 hk11 (by omega) (by omega) (HQV.out.mono (by omega)) (HRF.out.mono (by omega)) (HRF.out.mono (by have := HD2.out.size; omega)))
            have HPT11 : Hid (PartD W2.heap.size (W2.heap.size + 1) W2.heap.size (.slice ra rest.length rc) (.slice none 0 0) rest [] W11) := Lib.hid ⟨by have := HPT10.out.size; have := hk11.1; omega, hk11.boxed (by omega) HPT10.out.boxl, hk11.boxed (by omega) HPT10.out.boxb, (HFR.out.mono (by omega)).keepCols HPT10.out.list hk11, cols_nil _⟩
            have HK12 : Hid (KeepFrom w4.heap.size W6 W11) := Lib.hid (HK10.out.trans (hk11.mono (by omega)))
            have HB11 := Lib.hid (hk11.boxed (Nat.le_refl _) HB10.out)
            clear ho11 hk11
            rcases hor with ⟨rfl, hJ11⟩ | ⟨rfl, hJ11⟩
            · have HJ11 := Lib.hid hJ11
              clear hR' hyr' hbx10 hJ11
              gi_wp2_with fail
              refine ⟨HN11.out, HK11.out.mono (by omega), ?_, HO11.out, HB11.out, HPT11.out, HK12.out⟩
              rw [← List.append_assoc]
              exact HJ11.out
            · have HJ11 := Lib.hid hJ11
              clear hR' hyr' hbx10 hJ11
              gi_wp2_with fail
              exact ⟨HN11.out, HK11.out.mono (by omega), rfl, ⟨_, HPY.out, HJ11.out⟩, HO11.out, HPT11.out, HK12.out⟩

end Go.Proofs.Ytpkadofgmhninaa
