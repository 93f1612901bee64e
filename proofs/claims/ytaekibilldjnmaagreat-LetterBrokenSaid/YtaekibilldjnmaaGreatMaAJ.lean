/- 'lines'. Lines; what is lent to a sum; the gaps of 'between'. 'between'. -/
import Derived.Test.YtaekibilldjnmaaGreatMaAI
set_option linter.unusedVariables false
set_option linter.unusedSimpArgs false
set_option linter.unusedSectionVars false
namespace Go.Proofs.YtaekibilldjnmaaGreat
open Go.Proofs

def Cs.leastR (c : Cs) (rs : List Row) (n : Int) (b : List Int) : Int := minL (c.restN rs b n b.length) b.length
def Cs.mostR (c : Cs) (rs : List Row) (n : Int) (b : List Int) : Int := maxL (c.restN rs b n b.length) b.length
def Cs.lineStep (c : Cs) (rs : List Row) (n : Int) (st : Option (List Int × Int)) (b : List Int) : Option (List Int × Int) :=
  if c.leastR rs n b ≥ 0 then (match st with | none => some (b, c.mostR rs n b) | some (best, rest) => if c.mostR rs n b < rest then some (b, c.mostR rs n b) else some (best, rest)) else st
def stopAt (st : Option (List Int × Int)) (b : List Int) : Bool := match st with | some (best, _) => decide ((b.length : Int) > (best.length : Int)) | none => false
def Cs.linesF (c : Cs) (rs : List Row) (n : Int) : List (List Int) → Option (List Int × Int) → Option (List Int × Int)
  | [], st => st
  | b :: l, st => if stopAt st b = true then st else Cs.linesF c rs n l (c.lineStep rs n st b)
def linesV (st : Option (List Int × Int)) : AV := .tup [stRow st, vint (stLeast st), .bool st.isSome]

set_option maxHeartbeats 8000000 in
theorem lines_any (H : Hp) (c : Cs) (hc : c.Fair) (nl clip : Bool) (rs : List Row) (n : Int) (h1 : 1 ≤ rs.length) (h5 : rs.length ≤ 5) (hrs : ∀ r ∈ rs, c.Word r.2.2) (hn : 1 ≤ n ∧ n ≤ 400) :
    CallV Tryz.prog 53 [.agg c.box, vrows nl clip rs, vint n] H (fun r H' => r = linesV (c.linesF rs n (breaksF rs.length) none) ∧ H' = H) := by
  generalize hfin : c.linesF rs n (breaksF rs.length) none = fin
  have hgood : ∀ b ∈ breaksF rs.length, Breaks rs.length b := fun b hb => breaks_ok h1 h5 hb
  refine CallV.body Tryz.func53 rfl Tryz.ntmps53 (by rfl) ?_
  refine WpV.seq (WpV.region ?_)
  refine WpOps.take 3 (by simp only [go_sem, reduceCtorEq, Nat.reduceAdd, Nat.reduceMul, Nat.reduceSub, Nat.reduceLT, Nat.reduceLeDiff, Nat.reduceEqDiff, Nat.reduceBEq, Nat.reducePow]; rfl) ?_
  refine WpOps.step (by rfl) (by rfl) (OpW.alloc rfl (Tryz.ze29) (fun i6 f6 => ?_))
  refine WpOps.step (by rfl) (by rfl) (OpW.alloc rfl (Tryz.ze3) (fun i7 f7 => ?_))
  refine WpOps.step (by rfl) (by rfl) (OpW.alloc rfl (Tryz.ze4) (fun i8 f8 => ?_))
  obtain ⟨n76, f7'⟩ := fresh_ne f7
  obtain ⟨n87, f8'⟩ := fresh_ne f8
  obtain ⟨n86, f8''⟩ := fresh_ne f8'
  refine WpOps.nil ⟨Marks.nil _, ?_⟩
  simp only [Vthen, VinBlock, if_true, if_false, Nat.reduceEqDiff, reduceCtorEq]
  rw [show ((H.set i6 (some (.cells 29 0 [.sl true true 0 []]))).set i7 (some (.cells 3 0 [.int .i64 0]))).set i8 (some (.cells 4 0 [.bool false])) = stObs H i6 i8 i7 none from rfl]
  refine WpV.seq ?_
  refine WpV.seq (WpV.region ?_)
  refine WpOps.take 2 (by simp only [go_sem, reduceCtorEq, Nat.reduceAdd, Nat.reduceMul, Nat.reduceSub, Nat.reduceLT, Nat.reduceLeDiff, Nat.reduceEqDiff, Nat.reduceBEq, Nat.reducePow]; rfl) ?_
  refine WpOps.step (by rfl) (by rfl) (OpW.callY rfl (by rfl) (by rfl) (by rfl) (enters_of Tryz.func77 (by kernel_rfl) rfl) ((breaks_any (stObs H i6 i8 i7 none) rs.length).mono ?_))
  rintro _ _ ⟨rfl, hH⟩
  replace hH := hH.symm
  subst hH
  refine WpOps.nil ⟨Marks.nil _, ?_⟩
  simp only [Vthen, VinBlock, if_true, if_false, Nat.reduceEqDiff, reduceCtorEq]
  refine WpV.block (WpV.rangeS (items := itemsB (breaksF rs.length)) rfl (enters_of Tryz.func98 (by kernel_rfl) rfl) (Marks.nil _) (by rfl) (breaks_seq rs.length h5) ?_)
  intro idm idl hne hm0 hl0
  have hM0 : MarksOn [idm] (stObs H i6 i8 i7 none) ((stObs H i6 i8 i7 none).set idm (some .mark)) := ⟨_, rfl, hm0, rfl⟩
  refine ⟨fun l H' => ∃ todo st, l = itemsB todo ∧ MarksOn [idm] (stObs H i6 i8 i7 st) H' ∧ c.linesF rs n todo st = fin ∧ ∀ b ∈ todo, Breaks rs.length b,
    fun cc H' => cc = .exit 0 ∧ MarksOn [idm] (stObs H i6 i8 i7 fin) H', ⟨_, none, rfl, hM0, hfin, hgood⟩, ?_, ?_, ?_⟩
  · rintro L x rest Bx Hx hx hLx ⟨todo, st, e1, hM1, e2, e3⟩
    cases todo with
    | nil => simp at e1
    | cons b todo =>
      simp only [itemsB, List.map_cons, List.cons.injEq] at e1
      obtain ⟨rfl, rfl⟩ := e1
      have hbk := e3 b (by simp)
      obtain ⟨o6, o7, o8⟩ := stObs_get (H := H) (i6 := i6) (i7 := i8) (i8 := i7) n86.symm n76.symm n87 st
      have m6 := (hM1.get o6).1
      have m7 := (hM1.get o7).1
      have m8 := (hM1.get o8).1
      have x6 := set_none_get (hLx.get m6)
      have x7 := set_none_get (hLx.get m7)
      have x8 := set_none_get (hLx.get m8)
      refine ⟨rfl, ?_⟩
      show WpV Tryz.prog (some idl) _ _ _ ((15, rowB b) :: _) [] Hx
      refine WpV.regionE (by simp only [go_sem, reduceCtorEq, Nat.reduceAdd, Nat.reduceMul, Nat.reduceSub, Nat.reduceLT, Nat.reduceLeDiff, Nat.reduceEqDiff, Nat.reduceBEq, Nat.reducePow]; rfl) (Marks.nil _) ?_
      simp only [Vthen, VinBlock, if_true, if_false, Nat.reduceEqDiff, reduceCtorEq]
      refine ⟨none, hx, WpV.block ?_⟩
      generalize hHb : Hx.set idl _ = Hb
      have y6 : Hb i6 = some (.cells 29 0 [stRow st]) := by rw [← hHb, Hp.set_ne _ _ x6.1]; exact x6.2
      have y7 : Hb i7 = some (.cells 3 0 [vint (stLeast st)]) := by rw [← hHb, Hp.set_ne _ _ x7.1]; exact x7.2
      have y8 : Hb i8 = some (.cells 4 0 [.bool st.isSome]) := by rw [← hHb, Hp.set_ne _ _ x8.1]; exact x8.2
      have yl := Hp.set_eq Hx idl
      rw [Cs.linesF] at e2
      refine WpV.seq ?_
      have hre : CallV Tryz.prog 78 [.agg c.box, vrows nl clip rs, vints b.isEmpty b.isEmpty b, vint n] Hb (fun r H' => r = .tup [vint (c.leastR rs n b), vint (c.mostR rs n b)] ∧ H' = Hb) := rests_any Hb c hc nl clip b.isEmpty b.isEmpty rs b n h5 hrs hbk hn
      have hft : (false == true) = false := rfl
      have htf : (true == false) = false := rfl
      have stay : ∀ st', st' = st → c.linesF rs n todo st' = fin → ∃ B, LayOn L B (Hb.set idl none) ∧ ∃ todo' st'', itemsB todo = itemsB todo' ∧ MarksOn [idm] (stObs H i6 i8 i7 st'') B ∧ c.linesF rs n todo' st'' = fin ∧ ∀ b ∈ todo', Breaks rs.length b := by
        rintro st' rfl h
        exact ⟨Bx, by rw [← hHb, Hp.set_set]; exact hLx, todo, st', rfl, hM1, h, fun b' hb' => e3 b' (by simp [hb'])⟩
      have onward : ∀ (st' : Option (List Int × Int)), c.linesF rs n todo st' = fin → ∀ (H2 : Hp), H2 = ((Hb.set i6 (some (.cells 29 0 [stRow st']))).set i7 (some (.cells 3 0 [vint (stLeast st')]))).set i8 (some (.cells 4 0 [.bool st'.isSome])) →
          H2 idl = Hb idl ∧ ∃ B, LayOn L B (H2.set idl none) ∧ ∃ todo' st'', itemsB todo = itemsB todo' ∧ MarksOn [idm] (stObs H i6 i8 i7 st'') B ∧ c.linesF rs n todo' st'' = fin ∧ ∀ b ∈ todo', Breaks rs.length b := by
        rintro st' hst' H2 rfl
        have l1 := ((hLx.set (some (.cells 29 0 [stRow st'])) m6).set (k := i7) (o := .cells 3 0 [vint (stLeast st)]) (some (.cells 3 0 [vint (stLeast st')])) (by rw [Hp.set_ne _ _ n76]; exact m7)).set (k := i8) (o := .cells 4 0 [.bool st.isSome]) (some (.cells 4 0 [.bool st'.isSome])) (by rw [Hp.set_ne _ _ n87, Hp.set_ne _ _ n86]; exact m8)
        have l2 := ((hM1.set (some (.cells 29 0 [stRow st'])) o6).set (k := i7) (o := .cells 3 0 [vint (stLeast st)]) (some (.cells 3 0 [vint (stLeast st')])) (by rw [Hp.set_ne _ _ n76]; exact o7)).set (k := i8) (o := .cells 4 0 [.bool st.isSome]) (some (.cells 4 0 [.bool st'.isSome])) (by rw [Hp.set_ne _ _ n87, Hp.set_ne _ _ n86]; exact o8)
        rw [stObs_put (i7 := i8) (i8 := i7) n86.symm n76.symm n87] at l2
        refine ⟨by rw [Hp.set_ne _ _ x8.1.symm, Hp.set_ne _ _ x7.1.symm, Hp.set_ne _ _ x6.1.symm], _, ?_, todo, st', rfl, l2, hst', fun b' hb' => e3 b' (by simp [hb'])⟩
        rw [Hp.set_comm _ _ _ x8.1, Hp.set_comm _ _ _ x7.1, Hp.set_comm _ _ _ x6.1, ← hHb, Hp.set_set]; exact l1
      cases st with
      | none =>
        rw [if_neg (by simp [stopAt])] at e2
        refine WpV.seq (WpV.regionE (by simp only [go_sem, reduceCtorEq, Nat.reduceAdd, Nat.reduceMul, Nat.reduceSub, Nat.reduceLT, Nat.reduceLeDiff, Nat.reduceEqDiff, Nat.reduceBEq, Nat.reducePow, y8]; rfl) (Marks.nil _) ?_)
        simp only [Vthen, VinBlock, if_true, if_false, Nat.reduceEqDiff, reduceCtorEq]
        refine WpV.cond rfl (fun hb => by cases hb) (fun hb => WpV.skip ?_)
        simp only [Vthen, VinBlock, if_true, if_false, Nat.reduceEqDiff, reduceCtorEq]
        refine WpV.seq (WpV.region ?_)
        refine WpOps.take 4 (by simp only [go_sem, reduceCtorEq, Nat.reduceAdd, Nat.reduceMul, Nat.reduceSub, Nat.reduceLT, Nat.reduceLeDiff, Nat.reduceEqDiff, Nat.reduceBEq, Nat.reducePow]; rfl) ?_
        refine WpOps.step (by rfl) (by rfl) (OpW.callY rfl (by rfl) (by rfl) (by rfl) (enters_of Tryz.func78 (by kernel_rfl) rfl) ((hre).mono ?_))
        rintro _ _ ⟨rfl, hH⟩
        replace hH := hH.symm
        subst hH
        refine WpOps.take 5 (by simp only [go_sem, reduceCtorEq, Nat.reduceAdd, Nat.reduceMul, Nat.reduceSub, Nat.reduceLT, Nat.reduceLeDiff, Nat.reduceEqDiff, Nat.reduceBEq, Nat.reducePow]; rfl) (WpOps.nil ⟨Marks.nil _, ?_⟩)
        simp only [Vthen, VinBlock, if_true, if_false, Nat.reduceEqDiff, reduceCtorEq]
        by_cases hge : c.leastR rs n b ≥ 0
        · have e2' : c.linesF rs n todo (some (b, c.mostR rs n b)) = fin := by rw [← e2]; simp [Cs.lineStep, hge]
          refine WpV.seq (WpV.regionE (by simp only [go_sem, reduceCtorEq, Nat.reduceAdd, Nat.reduceMul, Nat.reduceSub, Nat.reduceLT, Nat.reduceLeDiff, Nat.reduceEqDiff, Nat.reduceBEq, Nat.reducePow, hge, y8]; rfl) (Marks.nil _) ?_)
          simp only [Vthen, VinBlock, if_true, if_false, Nat.reduceEqDiff, reduceCtorEq]
          refine WpV.cond rfl (fun hb => ?_) (fun hb => by cases hb)
          refine WpV.region ?_
          refine WpOps.take 2 (by simp only [go_sem, reduceCtorEq, Nat.reduceAdd, Nat.reduceMul, Nat.reduceSub, Nat.reduceLT, Nat.reduceLeDiff, Nat.reduceEqDiff, Nat.reduceBEq, Nat.reducePow]; rfl) ?_
          refine WpOps.step (by rfl) (by rfl) (OpW.store (ty := 29) (id := i6) (ver := 0) (off := 0) rfl (by simp only [go_sem, reduceCtorEq, Nat.reduceAdd, Nat.reduceMul, Nat.reduceSub, Nat.reduceLT, Nat.reduceLeDiff, Nat.reduceEqDiff, Nat.reduceBEq, Nat.reducePow]) (by simp only [go_sem, reduceCtorEq, Nat.reduceAdd, Nat.reduceMul, Nat.reduceSub, Nat.reduceLT, Nat.reduceLeDiff, Nat.reduceEqDiff, Nat.reduceBEq, Nat.reducePow]; try rfl) y6 (by simp only [go_sem, reduceCtorEq, Nat.reduceAdd, Nat.reduceMul, Nat.reduceSub, Nat.reduceLT, Nat.reduceLeDiff, Nat.reduceEqDiff, Nat.reduceBEq, Nat.reducePow]; try rfl) (by exact Tryz.sz29) (by simp) ?_)
          refine WpOps.step (by rfl) (by rfl) (OpW.store (ty := 3) (id := i7) (ver := 0) (off := 0) rfl (by simp only [go_sem, reduceCtorEq, Nat.reduceAdd, Nat.reduceMul, Nat.reduceSub, Nat.reduceLT, Nat.reduceLeDiff, Nat.reduceEqDiff, Nat.reduceBEq, Nat.reducePow]) (by simp only [go_sem, reduceCtorEq, Nat.reduceAdd, Nat.reduceMul, Nat.reduceSub, Nat.reduceLT, Nat.reduceLeDiff, Nat.reduceEqDiff, Nat.reduceBEq, Nat.reducePow]; try rfl) (by rw [Hp.set_ne _ _ n76]; exact y7) (by simp only [go_sem, reduceCtorEq, Nat.reduceAdd, Nat.reduceMul, Nat.reduceSub, Nat.reduceLT, Nat.reduceLeDiff, Nat.reduceEqDiff, Nat.reduceBEq, Nat.reducePow]; try rfl) (by exact Tryz.sz3) (by simp) ?_)
          refine WpOps.step (by rfl) (by rfl) (OpW.store (ty := 4) (id := i8) (ver := 0) (off := 0) rfl (by simp only [go_sem, reduceCtorEq, Nat.reduceAdd, Nat.reduceMul, Nat.reduceSub, Nat.reduceLT, Nat.reduceLeDiff, Nat.reduceEqDiff, Nat.reduceBEq, Nat.reducePow]) (by simp only [go_sem, reduceCtorEq, Nat.reduceAdd, Nat.reduceMul, Nat.reduceSub, Nat.reduceLT, Nat.reduceLeDiff, Nat.reduceEqDiff, Nat.reduceBEq, Nat.reducePow]; try rfl) (by rw [Hp.set_ne _ _ n87, Hp.set_ne _ _ n86]; exact y8) (by simp only [go_sem, reduceCtorEq, Nat.reduceAdd, Nat.reduceMul, Nat.reduceSub, Nat.reduceLT, Nat.reduceLeDiff, Nat.reduceEqDiff, Nat.reduceBEq, Nat.reducePow]; try rfl) (by exact Tryz.sz4) (by simp) ?_)
          simp only [go_sem, reduceCtorEq, Nat.reduceAdd, Nat.reduceMul, Nat.reduceSub, Nat.reduceLT, Nat.reduceLeDiff, Nat.reduceEqDiff, Nat.reduceBEq, Nat.reducePow]
          refine WpOps.nil ⟨Marks.nil _, ?_⟩
          simp only [Vthen, VinBlock, if_true, if_false, Nat.reduceEqDiff, reduceCtorEq]
          obtain ⟨q1, q2⟩ := onward (some (b, c.mostR rs n b)) (e2') _ rfl
          exact ⟨⟨none, q1.trans (by rw [← hHb]; exact yl _)⟩, q2⟩
        · have e2' : c.linesF rs n todo none = fin := by rw [← e2]; simp only [Cs.lineStep, if_neg hge]
          refine WpV.seq (WpV.regionE (by simp only [go_sem, reduceCtorEq, Nat.reduceAdd, Nat.reduceMul, Nat.reduceSub, Nat.reduceLT, Nat.reduceLeDiff, Nat.reduceEqDiff, Nat.reduceBEq, Nat.reducePow, hge]; rfl) (Marks.nil _) ?_)
          simp only [Vthen, VinBlock, if_true, if_false, Nat.reduceEqDiff, reduceCtorEq]
          refine WpV.cond rfl (fun hb => by cases hb) (fun hb => WpV.skip ?_)
          exact ⟨⟨none, by rw [← hHb]; exact yl _⟩, stay _ rfl e2'⟩
      | some bl =>
        obtain ⟨best, r⟩ := bl
        by_cases hs : (b.length : Int) > (best.length : Int)
        · rw [if_pos (by simp only [stopAt]; exact decide_eq_true hs)] at e2
          refine WpV.seq (WpV.regionE (by simp only [go_sem, reduceCtorEq, Nat.reduceAdd, Nat.reduceMul, Nat.reduceSub, Nat.reduceLT, Nat.reduceLeDiff, Nat.reduceEqDiff, Nat.reduceBEq, Nat.reducePow, y8, y6, stRow, hs]; rfl) (Marks.nil _) ?_)
          simp only [Vthen, VinBlock, if_true, if_false, Nat.reduceEqDiff, reduceCtorEq]
          refine WpV.cond rfl (fun hb => WpV.exit ?_) (fun hb => by cases hb)
          simp only [Vthen, VinBlock, if_true, if_false, Nat.reduceEqDiff, reduceCtorEq]
          exact ⟨⟨none, by rw [← hHb]; exact yl _⟩, Bx, by rw [← hHb, Hp.set_set]; exact hLx, rfl, by rw [← e2]; exact hM1⟩
        · rw [if_neg (by simp only [stopAt, decide_eq_false hs]; decide)] at e2
          refine WpV.seq (WpV.regionE (by simp only [go_sem, reduceCtorEq, Nat.reduceAdd, Nat.reduceMul, Nat.reduceSub, Nat.reduceLT, Nat.reduceLeDiff, Nat.reduceEqDiff, Nat.reduceBEq, Nat.reducePow, y8, y6, stRow, hs]; rfl) (Marks.nil _) ?_)
          simp only [Vthen, VinBlock, if_true, if_false, Nat.reduceEqDiff, reduceCtorEq]
          refine WpV.cond rfl (fun hb => by cases hb) (fun hb => WpV.skip ?_)
          simp only [Vthen, VinBlock, if_true, if_false, Nat.reduceEqDiff, reduceCtorEq]
          refine WpV.seq (WpV.region ?_)
          refine WpOps.take 4 (by simp only [go_sem, reduceCtorEq, Nat.reduceAdd, Nat.reduceMul, Nat.reduceSub, Nat.reduceLT, Nat.reduceLeDiff, Nat.reduceEqDiff, Nat.reduceBEq, Nat.reducePow]; rfl) ?_
          refine WpOps.step (by rfl) (by rfl) (OpW.callY rfl (by rfl) (by rfl) (by rfl) (enters_of Tryz.func78 (by kernel_rfl) rfl) ((hre).mono ?_))
          rintro _ _ ⟨rfl, hH⟩
          replace hH := hH.symm
          subst hH
          refine WpOps.take 5 (by simp only [go_sem, reduceCtorEq, Nat.reduceAdd, Nat.reduceMul, Nat.reduceSub, Nat.reduceLT, Nat.reduceLeDiff, Nat.reduceEqDiff, Nat.reduceBEq, Nat.reducePow]; rfl) (WpOps.nil ⟨Marks.nil _, ?_⟩)
          simp only [Vthen, VinBlock, if_true, if_false, Nat.reduceEqDiff, reduceCtorEq]
          by_cases hge : c.leastR rs n b ≥ 0
          · by_cases hl : c.mostR rs n b < r
            · have e2' : c.linesF rs n todo (some (b, c.mostR rs n b)) = fin := by rw [← e2]; simp [Cs.lineStep, hge, hl]
              refine WpV.seq (WpV.regionE (by simp only [go_sem, reduceCtorEq, Nat.reduceAdd, Nat.reduceMul, Nat.reduceSub, Nat.reduceLT, Nat.reduceLeDiff, Nat.reduceEqDiff, Nat.reduceBEq, Nat.reducePow, hge, y8, y7, stLeast, hl]; rfl) (Marks.nil _) ?_)
              simp only [Vthen, VinBlock, if_true, if_false, Nat.reduceEqDiff, reduceCtorEq]
              refine WpV.cond rfl (fun hb => ?_) (fun hb => by cases hb)
              refine WpV.region ?_
              refine WpOps.take 2 (by simp only [go_sem, reduceCtorEq, Nat.reduceAdd, Nat.reduceMul, Nat.reduceSub, Nat.reduceLT, Nat.reduceLeDiff, Nat.reduceEqDiff, Nat.reduceBEq, Nat.reducePow]; rfl) ?_
              refine WpOps.step (by rfl) (by rfl) (OpW.store (ty := 29) (id := i6) (ver := 0) (off := 0) rfl (by simp only [go_sem, reduceCtorEq, Nat.reduceAdd, Nat.reduceMul, Nat.reduceSub, Nat.reduceLT, Nat.reduceLeDiff, Nat.reduceEqDiff, Nat.reduceBEq, Nat.reducePow]) (by simp only [go_sem, reduceCtorEq, Nat.reduceAdd, Nat.reduceMul, Nat.reduceSub, Nat.reduceLT, Nat.reduceLeDiff, Nat.reduceEqDiff, Nat.reduceBEq, Nat.reducePow]; try rfl) y6 (by simp only [go_sem, reduceCtorEq, Nat.reduceAdd, Nat.reduceMul, Nat.reduceSub, Nat.reduceLT, Nat.reduceLeDiff, Nat.reduceEqDiff, Nat.reduceBEq, Nat.reducePow]; try rfl) (by exact Tryz.sz29) (by simp) ?_)
              refine WpOps.step (by rfl) (by rfl) (OpW.store (ty := 3) (id := i7) (ver := 0) (off := 0) rfl (by simp only [go_sem, reduceCtorEq, Nat.reduceAdd, Nat.reduceMul, Nat.reduceSub, Nat.reduceLT, Nat.reduceLeDiff, Nat.reduceEqDiff, Nat.reduceBEq, Nat.reducePow]) (by simp only [go_sem, reduceCtorEq, Nat.reduceAdd, Nat.reduceMul, Nat.reduceSub, Nat.reduceLT, Nat.reduceLeDiff, Nat.reduceEqDiff, Nat.reduceBEq, Nat.reducePow]; try rfl) (by rw [Hp.set_ne _ _ n76]; exact y7) (by simp only [go_sem, reduceCtorEq, Nat.reduceAdd, Nat.reduceMul, Nat.reduceSub, Nat.reduceLT, Nat.reduceLeDiff, Nat.reduceEqDiff, Nat.reduceBEq, Nat.reducePow]; try rfl) (by exact Tryz.sz3) (by simp) ?_)
              refine WpOps.step (by rfl) (by rfl) (OpW.store (ty := 4) (id := i8) (ver := 0) (off := 0) rfl (by simp only [go_sem, reduceCtorEq, Nat.reduceAdd, Nat.reduceMul, Nat.reduceSub, Nat.reduceLT, Nat.reduceLeDiff, Nat.reduceEqDiff, Nat.reduceBEq, Nat.reducePow]) (by simp only [go_sem, reduceCtorEq, Nat.reduceAdd, Nat.reduceMul, Nat.reduceSub, Nat.reduceLT, Nat.reduceLeDiff, Nat.reduceEqDiff, Nat.reduceBEq, Nat.reducePow]; try rfl) (by rw [Hp.set_ne _ _ n87, Hp.set_ne _ _ n86]; exact y8) (by simp only [go_sem, reduceCtorEq, Nat.reduceAdd, Nat.reduceMul, Nat.reduceSub, Nat.reduceLT, Nat.reduceLeDiff, Nat.reduceEqDiff, Nat.reduceBEq, Nat.reducePow]; try rfl) (by exact Tryz.sz4) (by simp) ?_)
              simp only [go_sem, reduceCtorEq, Nat.reduceAdd, Nat.reduceMul, Nat.reduceSub, Nat.reduceLT, Nat.reduceLeDiff, Nat.reduceEqDiff, Nat.reduceBEq, Nat.reducePow]
              refine WpOps.nil ⟨Marks.nil _, ?_⟩
              simp only [Vthen, VinBlock, if_true, if_false, Nat.reduceEqDiff, reduceCtorEq]
              obtain ⟨q1, q2⟩ := onward (some (b, c.mostR rs n b)) (e2') _ rfl
              exact ⟨⟨none, q1.trans (by rw [← hHb]; exact yl _)⟩, q2⟩
            · have e2' : c.linesF rs n todo (some (best, r)) = fin := by rw [← e2]; simp only [Cs.lineStep, if_pos hge, if_neg hl]
              refine WpV.seq (WpV.regionE (by simp only [go_sem, reduceCtorEq, Nat.reduceAdd, Nat.reduceMul, Nat.reduceSub, Nat.reduceLT, Nat.reduceLeDiff, Nat.reduceEqDiff, Nat.reduceBEq, Nat.reducePow, hge, y8, y7, stLeast, hl]; rfl) (Marks.nil _) ?_)
              simp only [Vthen, VinBlock, if_true, if_false, Nat.reduceEqDiff, reduceCtorEq]
              refine WpV.cond rfl (fun hb => by cases hb) (fun hb => WpV.skip ?_)
              exact ⟨⟨none, by rw [← hHb]; exact yl _⟩, stay _ rfl e2'⟩
          · have e2' : c.linesF rs n todo (some (best, r)) = fin := by rw [← e2]; simp only [Cs.lineStep, if_neg hge]
            refine WpV.seq (WpV.regionE (by simp only [go_sem, reduceCtorEq, Nat.reduceAdd, Nat.reduceMul, Nat.reduceSub, Nat.reduceLT, Nat.reduceLeDiff, Nat.reduceEqDiff, Nat.reduceBEq, Nat.reducePow, hge]; rfl) (Marks.nil _) ?_)
            simp only [Vthen, VinBlock, if_true, if_false, Nat.reduceEqDiff, reduceCtorEq]
            refine WpV.cond rfl (fun hb => by cases hb) (fun hb => WpV.skip ?_)
            exact ⟨⟨none, by rw [← hHb]; exact yl _⟩, stay _ rfl e2'⟩
  · rintro H' ⟨todo, st, e1, hM1, e2, e3⟩
    have e4 : todo = [] := by cases todo with
      | nil => rfl
      | cons b todo => simp at e1
    subst e4
    have e2' : st = fin := e2
    subst e2'
    refine ⟨hM1.marks.1, ?_⟩
    obtain ⟨o6, o7, o8⟩ := stObs_get (H := H) (i6 := i6) (i7 := i8) (i8 := i7) n86.symm n76.symm n87 st
    have m6 := (hM1.get o6).1
    have m7 := (hM1.get o7).1
    have m8 := (hM1.get o8).1
    simp only [Vthen, VinBlock, if_true, if_false, Nat.reduceEqDiff, reduceCtorEq]
    refine WpV.seq (WpV.regionD Tryz.mixed (by kernel_rfl) (by kernel_rfl) ?_)
    refine LexD.take 3 (by rfl) (by simp only [go_sem, reduceCtorEq, Nat.reduceAdd, Nat.reduceMul, Nat.reduceSub, Nat.reduceLT, Nat.reduceLeDiff, Nat.reduceEqDiff, Nat.reduceBEq, Nat.reducePow, m6, m7, m8]; rfl) ?_
    refine LexD.step (x := .any) (by rfl) (by rfl) (OpW.store (ty := 29) (id := i6) (ver := 0) (off := 0) (x := stRow st) (xs := [stRow st]) rfl (by simp only [go_sem, reduceCtorEq, Nat.reduceAdd, Nat.reduceMul, Nat.reduceSub, Nat.reduceLT, Nat.reduceLeDiff, Nat.reduceEqDiff, Nat.reduceBEq, Nat.reducePow]) (by simp only [go_sem, reduceCtorEq, Nat.reduceAdd, Nat.reduceMul, Nat.reduceSub, Nat.reduceLT, Nat.reduceLeDiff, Nat.reduceEqDiff, Nat.reduceBEq, Nat.reducePow]; try rfl) m6 (by cases st <;> rfl) (by exact Tryz.sz29) (by simp) ⟨rfl, Hp.set_same _ _ _ (by simp only [go_sem, reduceCtorEq, Nat.reduceAdd, Nat.reduceMul, Nat.reduceSub, Nat.reduceLT, Nat.reduceLeDiff, Nat.reduceEqDiff, Nat.reduceBEq, Nat.reducePow]; exact m6)⟩) ?_
    refine LexD.step (x := .any) (by rfl) (by rfl) (OpW.store (ty := 3) (id := i7) (ver := 0) (off := 0) rfl (by simp only [go_sem, reduceCtorEq, Nat.reduceAdd, Nat.reduceMul, Nat.reduceSub, Nat.reduceLT, Nat.reduceLeDiff, Nat.reduceEqDiff, Nat.reduceBEq, Nat.reducePow]) (by simp only [go_sem, reduceCtorEq, Nat.reduceAdd, Nat.reduceMul, Nat.reduceSub, Nat.reduceLT, Nat.reduceLeDiff, Nat.reduceEqDiff, Nat.reduceBEq, Nat.reducePow]; try rfl) m7 (by simp only [go_sem, reduceCtorEq, Nat.reduceAdd, Nat.reduceMul, Nat.reduceSub, Nat.reduceLT, Nat.reduceLeDiff, Nat.reduceEqDiff, Nat.reduceBEq, Nat.reducePow]; try rfl) (by exact Tryz.sz3) (by simp) ⟨rfl, Hp.set_same _ _ _ (by simp only [go_sem, reduceCtorEq, Nat.reduceAdd, Nat.reduceMul, Nat.reduceSub, Nat.reduceLT, Nat.reduceLeDiff, Nat.reduceEqDiff, Nat.reduceBEq, Nat.reducePow]; exact m7)⟩) ?_
    refine LexD.step (x := .any) (by rfl) (by rfl) (OpW.store (ty := 4) (id := i8) (ver := 0) (off := 0) rfl (by simp only [go_sem, reduceCtorEq, Nat.reduceAdd, Nat.reduceMul, Nat.reduceSub, Nat.reduceLT, Nat.reduceLeDiff, Nat.reduceEqDiff, Nat.reduceBEq, Nat.reducePow]) (by simp only [go_sem, reduceCtorEq, Nat.reduceAdd, Nat.reduceMul, Nat.reduceSub, Nat.reduceLT, Nat.reduceLeDiff, Nat.reduceEqDiff, Nat.reduceBEq, Nat.reducePow]; try rfl) m8 (by simp only [go_sem, reduceCtorEq, Nat.reduceAdd, Nat.reduceMul, Nat.reduceSub, Nat.reduceLT, Nat.reduceLeDiff, Nat.reduceEqDiff, Nat.reduceBEq, Nat.reducePow]; try rfl) (by exact Tryz.sz4) (by simp) ⟨rfl, Hp.set_same _ _ _ (by simp only [go_sem, reduceCtorEq, Nat.reduceAdd, Nat.reduceMul, Nat.reduceSub, Nat.reduceLT, Nat.reduceLeDiff, Nat.reduceEqDiff, Nat.reduceBEq, Nat.reducePow]; exact m8)⟩) ?_
    refine LexD.nilE ⟨hM1.marks.1, ?_⟩
    simp only [Vthen, VinBlock, if_true, if_false, Nat.reduceEqDiff, reduceCtorEq]
    have hM6 := hM1.set (k := i6) none o6
    have p7 : ((stObs H i6 i8 i7 st).set i6 none) i7 = some (.cells 3 0 [vint (stLeast st)]) := by rw [Hp.set_ne _ _ n76]; exact o7
    have hM7 := hM6.set (k := i7) none p7
    have p8 : (((stObs H i6 i8 i7 st).set i6 none).set i7 none) i8 = some (.cells 4 0 [.bool st.isSome]) := by rw [Hp.set_ne _ _ n87, Hp.set_ne _ _ n86]; exact o8
    have hM8 := hM7.set (k := i8) none p8
    refine WpV.pre (Frz.ptr (t := 6) (id := i6) (ver := 0) (off := 0) rfl m6) hM6.marks.1 ?_
    refine WpV.pre (Frz.ptr (t := 7) (id := i7) (ver := 0) (off := 0) rfl (hM6.get p7).1) hM7.marks.1 ?_
    refine WpV.pre (Frz.ptr (t := 8) (id := i8) (ver := 0) (off := 0) rfl (hM7.get p8).1) hM8.marks.1 ?_
    refine WpV.ret ⟨hM8.marks.1, hM8.marks.2, linesV st, by simp only [Tryz.results53]; simp only [go_sem, reduceCtorEq, Nat.reduceAdd, Nat.reduceMul, Nat.reduceSub, Nat.reduceLT, Nat.reduceLeDiff, Nat.reduceEqDiff, Nat.reduceBEq, Nat.reducePow]; rfl, rfl, ?_⟩
    rw [hM8.kill]
    funext k
    simp only [stObs, Hp.set]
    by_cases e8 : k = i8
    · subst e8; simp [f8'']
    · by_cases e7 : k = i7
      · subst e7; simp [e8, f7']
      · by_cases e6 : k = i6
        · subst e6; simp [e7, e8, f6]
        · simp [e6, e7, e8]
  · rintro cc H' ⟨rfl, hM1⟩
    refine ⟨hM1.marks.1, WpV.exit ?_⟩
    obtain ⟨o6, o7, o8⟩ := stObs_get (H := H) (i6 := i6) (i7 := i8) (i8 := i7) n86.symm n76.symm n87 fin
    have m6 := (hM1.get o6).1
    have m7 := (hM1.get o7).1
    have m8 := (hM1.get o8).1
    simp only [Vthen, VinBlock, if_true, if_false, Nat.reduceEqDiff, reduceCtorEq]
    refine WpV.seq (WpV.regionD Tryz.mixed (by kernel_rfl) (by kernel_rfl) ?_)
    refine LexD.take 3 (by rfl) (by simp only [go_sem, reduceCtorEq, Nat.reduceAdd, Nat.reduceMul, Nat.reduceSub, Nat.reduceLT, Nat.reduceLeDiff, Nat.reduceEqDiff, Nat.reduceBEq, Nat.reducePow, m6, m7, m8]; rfl) ?_
    refine LexD.step (x := .any) (by rfl) (by rfl) (OpW.store (ty := 29) (id := i6) (ver := 0) (off := 0) (x := stRow fin) (xs := [stRow fin]) rfl (by simp only [go_sem, reduceCtorEq, Nat.reduceAdd, Nat.reduceMul, Nat.reduceSub, Nat.reduceLT, Nat.reduceLeDiff, Nat.reduceEqDiff, Nat.reduceBEq, Nat.reducePow]) (by simp only [go_sem, reduceCtorEq, Nat.reduceAdd, Nat.reduceMul, Nat.reduceSub, Nat.reduceLT, Nat.reduceLeDiff, Nat.reduceEqDiff, Nat.reduceBEq, Nat.reducePow]; try rfl) m6 (by cases fin <;> rfl) (by exact Tryz.sz29) (by simp) ⟨rfl, Hp.set_same _ _ _ (by simp only [go_sem, reduceCtorEq, Nat.reduceAdd, Nat.reduceMul, Nat.reduceSub, Nat.reduceLT, Nat.reduceLeDiff, Nat.reduceEqDiff, Nat.reduceBEq, Nat.reducePow]; exact m6)⟩) ?_
    refine LexD.step (x := .any) (by rfl) (by rfl) (OpW.store (ty := 3) (id := i7) (ver := 0) (off := 0) rfl (by simp only [go_sem, reduceCtorEq, Nat.reduceAdd, Nat.reduceMul, Nat.reduceSub, Nat.reduceLT, Nat.reduceLeDiff, Nat.reduceEqDiff, Nat.reduceBEq, Nat.reducePow]) (by simp only [go_sem, reduceCtorEq, Nat.reduceAdd, Nat.reduceMul, Nat.reduceSub, Nat.reduceLT, Nat.reduceLeDiff, Nat.reduceEqDiff, Nat.reduceBEq, Nat.reducePow]; try rfl) m7 (by simp only [go_sem, reduceCtorEq, Nat.reduceAdd, Nat.reduceMul, Nat.reduceSub, Nat.reduceLT, Nat.reduceLeDiff, Nat.reduceEqDiff, Nat.reduceBEq, Nat.reducePow]; try rfl) (by exact Tryz.sz3) (by simp) ⟨rfl, Hp.set_same _ _ _ (by simp only [go_sem, reduceCtorEq, Nat.reduceAdd, Nat.reduceMul, Nat.reduceSub, Nat.reduceLT, Nat.reduceLeDiff, Nat.reduceEqDiff, Nat.reduceBEq, Nat.reducePow]; exact m7)⟩) ?_
    refine LexD.step (x := .any) (by rfl) (by rfl) (OpW.store (ty := 4) (id := i8) (ver := 0) (off := 0) rfl (by simp only [go_sem, reduceCtorEq, Nat.reduceAdd, Nat.reduceMul, Nat.reduceSub, Nat.reduceLT, Nat.reduceLeDiff, Nat.reduceEqDiff, Nat.reduceBEq, Nat.reducePow]) (by simp only [go_sem, reduceCtorEq, Nat.reduceAdd, Nat.reduceMul, Nat.reduceSub, Nat.reduceLT, Nat.reduceLeDiff, Nat.reduceEqDiff, Nat.reduceBEq, Nat.reducePow]; try rfl) m8 (by simp only [go_sem, reduceCtorEq, Nat.reduceAdd, Nat.reduceMul, Nat.reduceSub, Nat.reduceLT, Nat.reduceLeDiff, Nat.reduceEqDiff, Nat.reduceBEq, Nat.reducePow]; try rfl) (by exact Tryz.sz4) (by simp) ⟨rfl, Hp.set_same _ _ _ (by simp only [go_sem, reduceCtorEq, Nat.reduceAdd, Nat.reduceMul, Nat.reduceSub, Nat.reduceLT, Nat.reduceLeDiff, Nat.reduceEqDiff, Nat.reduceBEq, Nat.reducePow]; exact m8)⟩) ?_
    refine LexD.nilE ⟨hM1.marks.1, ?_⟩
    simp only [Vthen, VinBlock, if_true, if_false, Nat.reduceEqDiff, reduceCtorEq]
    have hM6 := hM1.set (k := i6) none o6
    have p7 : ((stObs H i6 i8 i7 fin).set i6 none) i7 = some (.cells 3 0 [vint (stLeast fin)]) := by rw [Hp.set_ne _ _ n76]; exact o7
    have hM7 := hM6.set (k := i7) none p7
    have p8 : (((stObs H i6 i8 i7 fin).set i6 none).set i7 none) i8 = some (.cells 4 0 [.bool fin.isSome]) := by rw [Hp.set_ne _ _ n87, Hp.set_ne _ _ n86]; exact o8
    have hM8 := hM7.set (k := i8) none p8
    refine WpV.pre (Frz.ptr (t := 6) (id := i6) (ver := 0) (off := 0) rfl m6) hM6.marks.1 ?_
    refine WpV.pre (Frz.ptr (t := 7) (id := i7) (ver := 0) (off := 0) rfl (hM6.get p7).1) hM7.marks.1 ?_
    refine WpV.pre (Frz.ptr (t := 8) (id := i8) (ver := 0) (off := 0) rfl (hM7.get p8).1) hM8.marks.1 ?_
    refine WpV.ret ⟨hM8.marks.1, hM8.marks.2, linesV fin, by simp only [Tryz.results53]; simp only [go_sem, reduceCtorEq, Nat.reduceAdd, Nat.reduceMul, Nat.reduceSub, Nat.reduceLT, Nat.reduceLeDiff, Nat.reduceEqDiff, Nat.reduceBEq, Nat.reducePow]; rfl, rfl, ?_⟩
    rw [hM8.kill]
    funext k
    simp only [stObs, Hp.set]
    by_cases e8 : k = i8
    · subst e8; simp [f8'']
    · by_cases e7 : k = i7
      · subst e7; simp [e8, f7']
      · by_cases e6 : k = i6
        · subst e6; simp [e7, e8, f6]
        · simp [e6, e7, e8]
end Go.Proofs.YtaekibilldjnmaaGreat
namespace Go.Proofs.YtaekibilldjnmaaGreat
open Go.Proofs

def linesR (st : Option (List Int × Int)) : AV := match st with | some (b, n) => .tup [rowB b, vint n, vint 0] | none => .tup [.sl true true 0 [], vint 0, vint 8]
theorem Lines_any (H : Hp) (c : Cs) (hc : c.Valid) (nl clip : Bool) (rs : List Row) (n : Int) (h1 : 1 ≤ rs.length) (h5 : rs.length ≤ 5) (hw : c.wordsB rs = true) (hn : 1 ≤ n ∧ n ≤ 400) :
    CallV Tryz.prog 29 [.agg c.cells, vrows nl clip rs, vint n] H (fun r H' => r = linesR (c.linesF rs n (breaksF rs.length) none) ∧ H' = H) := by
  have h := lines_any H c hc.fair nl clip rs n h1 h5 (Cs.wordsB_mem hw) hn
  refine CallV.body Tryz.func29 rfl Tryz.ntmps29 (by rfl) ?_
  refine WpV.seq (WpV.regionE (by simp only [go_sem, reduceCtorEq, Nat.reduceAdd, Nat.reduceMul, Nat.reduceSub, Nat.reduceLT, Nat.reduceLeDiff, Nat.reduceEqDiff, Nat.reduceBEq, Nat.reducePow]; rfl) (Marks.nil _) ?_)
  simp only [Vthen, VinBlock, if_true, if_false, Nat.reduceEqDiff, reduceCtorEq]
  refine WpV.seq ?_
  refine WpV.seq (WpV.region ?_)
  refine WpOps.take 3 (by simp only [go_sem, reduceCtorEq, Nat.reduceAdd, Nat.reduceMul, Nat.reduceSub, Nat.reduceLT, Nat.reduceLeDiff, Nat.reduceEqDiff, Nat.reduceBEq, Nat.reducePow]; rfl) ?_
  refine WpOps.step (by rfl) (by rfl) (OpW.callY rfl (by rfl) (by rfl) (by rfl) (enters_of Tryz.func52 (by kernel_rfl) rfl) ((checkLines_ok H c hc nl clip rs n h1 h5 hw hn).mono ?_))
  rintro _ _ ⟨rfl, hH⟩
  replace hH := hH.symm
  subst hH
  refine WpOps.take 1 (by simp only [go_sem, reduceCtorEq, Nat.reduceAdd, Nat.reduceMul, Nat.reduceSub, Nat.reduceLT, Nat.reduceLeDiff, Nat.reduceEqDiff, Nat.reduceBEq, Nat.reducePow]; rfl) (WpOps.nil ⟨Marks.nil _, ?_⟩)
  simp only [Vthen, VinBlock, if_true, if_false, Nat.reduceEqDiff, reduceCtorEq]
  refine WpV.seq (WpV.regionE (by simp only [go_sem, reduceCtorEq, Nat.reduceAdd, Nat.reduceMul, Nat.reduceSub, Nat.reduceLT, Nat.reduceLeDiff, Nat.reduceEqDiff, Nat.reduceBEq, Nat.reducePow]; rfl) (Marks.nil _) ?_)
  simp only [Vthen, VinBlock, if_true, if_false, Nat.reduceEqDiff, reduceCtorEq]
  refine WpV.cond rfl (fun hb => by cases hb) (fun hb => WpV.skip ?_)
  simp only [Vthen, VinBlock, if_true, if_false, Nat.reduceEqDiff, reduceCtorEq]
  cases hf : c.linesF rs n (breaksF rs.length) none with
  | none =>
    rw [hf] at h
    unfold linesV stRow stLeast at h
    refine WpV.seq (WpV.region ?_)
    refine WpOps.take 1 (by simp only [go_sem, reduceCtorEq, Nat.reduceAdd, Nat.reduceMul, Nat.reduceSub, Nat.reduceLT, Nat.reduceLeDiff, Nat.reduceEqDiff, Nat.reduceBEq, Nat.reducePow]; rfl) ?_
    refine WpOps.step (by rfl) (by rfl) (OpW.callY rfl (by rfl) (by rfl) (by rfl) (enters_of Tryz.func35 (by kernel_rfl) rfl) ((box_of H c hc.ok hc.keys).mono ?_))
    rintro _ _ ⟨rfl, hH⟩
    replace hH := hH.symm
    subst hH
    refine WpOps.take 2 (by simp only [go_sem, reduceCtorEq, Nat.reduceAdd, Nat.reduceMul, Nat.reduceSub, Nat.reduceLT, Nat.reduceLeDiff, Nat.reduceEqDiff, Nat.reduceBEq, Nat.reducePow]; rfl) ?_
    refine WpOps.step (by rfl) (by rfl) (OpW.callY rfl (by rfl) (by rfl) (by rfl) (enters_of Tryz.func53 (by kernel_rfl) rfl) ((h).mono ?_))
    rintro _ _ ⟨rfl, hH⟩
    replace hH := hH.symm
    subst hH
    refine WpOps.take 7 (by simp only [go_sem, reduceCtorEq, Nat.reduceAdd, Nat.reduceMul, Nat.reduceSub, Nat.reduceLT, Nat.reduceLeDiff, Nat.reduceEqDiff, Nat.reduceBEq, Nat.reducePow]; rfl) (WpOps.nil ⟨Marks.nil _, ?_⟩)
    simp only [Vthen, VinBlock, if_true, if_false, Nat.reduceEqDiff, reduceCtorEq]
    refine WpV.seq ?_
    refine WpV.seq (WpV.regionE (by simp only [go_sem, reduceCtorEq, Nat.reduceAdd, Nat.reduceMul, Nat.reduceSub, Nat.reduceLT, Nat.reduceLeDiff, Nat.reduceEqDiff, Nat.reduceBEq, Nat.reducePow]; rfl) (Marks.nil _) ?_)
    simp only [Vthen, VinBlock, if_true, if_false, Nat.reduceEqDiff, reduceCtorEq]
    refine WpV.cond rfl (fun hb => ?_) (fun hb => by cases hb)
    refine WpV.seq (WpV.regionE (by simp only [go_sem, reduceCtorEq, Nat.reduceAdd, Nat.reduceMul, Nat.reduceSub, Nat.reduceLT, Nat.reduceLeDiff, Nat.reduceEqDiff, Nat.reduceBEq, Nat.reducePow]; rfl) (Marks.nil _) ?_)
    simp only [Vthen, VinBlock, if_true, if_false, Nat.reduceEqDiff, reduceCtorEq]
    refine WpV.ret ⟨Marks.nil _, List.nodup_nil, _, by simp only [Tryz.results29]; simp only [go_sem, reduceCtorEq, Nat.reduceAdd, Nat.reduceMul, Nat.reduceSub, Nat.reduceLT, Nat.reduceLeDiff, Nat.reduceEqDiff, Nat.reduceBEq, Nat.reducePow]; rfl, ?_⟩
    exact ⟨rfl, rfl⟩
  | some bl =>
    obtain ⟨b, m⟩ := bl
    rw [hf] at h
    unfold linesV stRow stLeast at h
    refine WpV.seq (WpV.region ?_)
    refine WpOps.take 1 (by simp only [go_sem, reduceCtorEq, Nat.reduceAdd, Nat.reduceMul, Nat.reduceSub, Nat.reduceLT, Nat.reduceLeDiff, Nat.reduceEqDiff, Nat.reduceBEq, Nat.reducePow]; rfl) ?_
    refine WpOps.step (by rfl) (by rfl) (OpW.callY rfl (by rfl) (by rfl) (by rfl) (enters_of Tryz.func35 (by kernel_rfl) rfl) ((box_of H c hc.ok hc.keys).mono ?_))
    rintro _ _ ⟨rfl, hH⟩
    replace hH := hH.symm
    subst hH
    refine WpOps.take 2 (by simp only [go_sem, reduceCtorEq, Nat.reduceAdd, Nat.reduceMul, Nat.reduceSub, Nat.reduceLT, Nat.reduceLeDiff, Nat.reduceEqDiff, Nat.reduceBEq, Nat.reducePow]; rfl) ?_
    refine WpOps.step (by rfl) (by rfl) (OpW.callY rfl (by rfl) (by rfl) (by rfl) (enters_of Tryz.func53 (by kernel_rfl) rfl) ((h).mono ?_))
    rintro _ _ ⟨rfl, hH⟩
    replace hH := hH.symm
    subst hH
    refine WpOps.take 7 (by simp only [go_sem, reduceCtorEq, Nat.reduceAdd, Nat.reduceMul, Nat.reduceSub, Nat.reduceLT, Nat.reduceLeDiff, Nat.reduceEqDiff, Nat.reduceBEq, Nat.reducePow]; rfl) (WpOps.nil ⟨Marks.nil _, ?_⟩)
    simp only [Vthen, VinBlock, if_true, if_false, Nat.reduceEqDiff, reduceCtorEq]
    refine WpV.seq ?_
    refine WpV.seq (WpV.regionE (by simp only [go_sem, reduceCtorEq, Nat.reduceAdd, Nat.reduceMul, Nat.reduceSub, Nat.reduceLT, Nat.reduceLeDiff, Nat.reduceEqDiff, Nat.reduceBEq, Nat.reducePow]; rfl) (Marks.nil _) ?_)
    simp only [Vthen, VinBlock, if_true, if_false, Nat.reduceEqDiff, reduceCtorEq]
    refine WpV.cond rfl (fun hb => by cases hb) (fun hb => WpV.skip ?_)
    simp only [Vthen, VinBlock, if_true, if_false, Nat.reduceEqDiff, reduceCtorEq]
    refine WpV.seq (WpV.regionE (by simp only [go_sem, reduceCtorEq, Nat.reduceAdd, Nat.reduceMul, Nat.reduceSub, Nat.reduceLT, Nat.reduceLeDiff, Nat.reduceEqDiff, Nat.reduceBEq, Nat.reducePow]; rfl) (Marks.nil _) ?_)
    simp only [Vthen, VinBlock, if_true, if_false, Nat.reduceEqDiff, reduceCtorEq]
    refine WpV.ret ⟨Marks.nil _, List.nodup_nil, _, by simp only [Tryz.results29]; simp only [go_sem, reduceCtorEq, Nat.reduceAdd, Nat.reduceMul, Nat.reduceSub, Nat.reduceLT, Nat.reduceLeDiff, Nat.reduceEqDiff, Nat.reduceBEq, Nat.reducePow]; rfl, ?_⟩
    exact ⟨rfl, rfl⟩

theorem sum_lent (H : Hp) (xs : List Int) (hx : Tame xs) (ic : Nat) (ho : H ic = some (.cells 3 0 (xs.map vint))) : CallV Tryz.prog 84 [.rs ic 0 1 0 xs.length false] H (fun r H' => r = vint xs.sum ∧ H' = H) := by
  refine CallV.lend (sum_any _ false false xs hx) (.cons ?_ .nil) (Plain.int _ _)
  have := Seen.rs (id := ic) (ver := 0) (sz := 1) (off := 0) (len := xs.length) (clip := false) ho
  simpa [vints, List.take_of_length_le] using this
theorem mores_call (H : Hp) (c : Cs) (hc : c.Fair) (nl clip : Bool) (w : List Int) (hw : c.Word w) :
    CallV Tryz.prog 67 [.agg c.box, vints nl clip w] H (fun r H' => r = vints (true && decide ((c.mores w).length = 0)) (decide ((c.mores w).length = 0)) (c.mores w) ∧ H' = H) := by
  have h := (mores_bld H c hc nl clip w (by have := hw.2.1; omega) hw.1 (hw.small hc)).frz
  have e := Cs.moreN_len c w (w.length - 1)
  rw [← e] at h
  exact h
theorem closest_anew (H : Hp) (c : Cs) (hc : c.Fair) (nl clip : Bool) (w : List Int) (hw : c.Word w) (h2 : 2 ≤ w.length) :
    CallV Tryz.prog 60 [.agg c.box, vints nl clip w] H (fun r H' => ∃ id, H id = none ∧ r = .rs id 0 1 0 (w.length - 1) false ∧ H' = H.set id (some (.cells 3 0 ((c.closest w).map vint)))) :=
  (closest_bld H c hc nl clip w (by have := hw.2.1; omega) hw.1 (hw.small hc)).anew (by omega)

/-! ### What 'between' answers -/
def Cs.open1 (lo g m : Int) : Int := if lo - m > g then lo - m else g
def Cs.openF (c : Cs) (w : List Int) (lo : Int) : List Int := List.zipWith (Cs.open1 lo) (c.closest w) (c.mores w)
def fillX (ms g : List Int) (hi r : Int) (k : Nat) : Int := if hi - ms.getD k 0 - g.getD k 0 < r then hi - ms.getD k 0 - g.getD k 0 else r
def fillF (ms : List Int) (hi : Int) : Nat → List Int → Int → Option (List Int × Int)
  | 0, g, r => some (g, r)
  | k + 1, g, r => if fillX ms g hi r k < 0 then none else fillF ms hi k (g.set k (g.getD k 0 + fillX ms g hi r k)) (r - fillX ms g hi r k)
def Cs.betweenF (c : Cs) (w : List Int) (lo hi room : Int) : Option (List Int × Int) := fillF (c.mores w) hi (w.length - 1) (c.openF w lo) (room - (c.openF w lo).sum)
def betweenV : Option (List Int × Int) → AV | some (g, r) => .tup [vints false false g, .bool (r == 0)] | none => .tup [.sl true true 0 [], .bool false]
theorem Cs.openF_len (c : Cs) (w : List Int) (lo : Int) : (c.openF w lo).length = w.length - 1 := by
  unfold Cs.openF; rw [List.length_zipWith, Cs.closest_len, Cs.moreN_len]; omega
theorem Cs.open_at (c : Cs) (w : List Int) (lo : Int) {k : Nat} (h : k < w.length - 1) : (c.openF w lo).getD k 0 = Cs.open1 lo ((c.closest w).getD k 0) ((c.mores w).getD k 0) := by
  have h1 : k < (c.moreN w (w.length - 1)).length := by rw [Cs.moreN_len]; exact h
  have h2 : k < (c.closest w).length := by rw [Cs.closest_len]; exact h
  have h3 : k < (c.openF w lo).length := by rw [Cs.openF_len]; exact h
  rw [List.getD_eq_getElem?_getD, List.getD_eq_getElem?_getD, List.getD_eq_getElem?_getD, List.getElem?_eq_getElem h1, List.getElem?_eq_getElem h2, List.getElem?_eq_getElem h3]
  simp [Cs.openF]
theorem getD_mem {xs : List Int} {k : Nat} (h : k < xs.length) : xs.getD k 0 ∈ xs := by
  rw [List.getD_eq_getElem?_getD, List.getElem?_eq_getElem h]; exact List.getElem_mem _
theorem Cs.openF_le {c : Cs} (hc : c.Fair) (w : List Int) {lo : Int} (hlo : -1000 ≤ lo ∧ lo ≤ 2000) : ∀ x ∈ c.openF w lo, 0 ≤ x ∧ x ≤ 2005 := by
  intro x hx
  obtain ⟨k, hk, rfl⟩ := List.getElem_of_mem hx
  have hk' : k < w.length - 1 := by rwa [Cs.openF_len] at hk
  have e : (c.openF w lo)[k] = (c.openF w lo).getD k 0 := by rw [List.getD_eq_getElem?_getD, List.getElem?_eq_getElem hk]; rfl
  rw [e, Cs.open_at c w lo hk']
  have h1 := Cs.closest_le hc w _ (getD_mem (xs := c.closest w) (k := k) (by rw [Cs.closest_len]; exact hk'))
  have h2 := Cs.mores_le hc w (w.length - 1) _ (getD_mem (xs := c.mores w) (k := k) (by rw [Cs.moreN_len]; exact hk'))
  unfold Cs.open1
  split <;> omega

/-! ### The objects of 'between' -/
def btw (H : Hp) (i7 i8 i9 ic ig : Nat) (n : Nat) (g : List Int) (r : Int) : Hp :=
  ((((H.set i7 (some (.cells 3 0 [vint r]))).set i8 (some (.cells 29 0 [.sl true true 0 []]))).set i9 (some (.cells 4 0 [.bool false]))).set ic (some (.cells 3 0 (g.map vint)))).set ig (some (.cells 29 0 [.rs ic 0 1 0 n false]))
structure Five (i7 i8 i9 ic ig : Nat) : Prop where
  n1 : i8 ≠ i7
  n2 : i9 ≠ i7
  n3 : i9 ≠ i8
  n4 : ic ≠ i7
  n5 : ic ≠ i8
  n6 : ic ≠ i9
  n7 : ig ≠ i7
  n8 : ig ≠ i8
  n9 : ig ≠ i9
  n10 : ig ≠ ic
theorem btw_get {H : Hp} {i7 i8 i9 ic ig n : Nat} (d : Five i7 i8 i9 ic ig) (g : List Int) (r : Int) :
    btw H i7 i8 i9 ic ig n g r i7 = some (.cells 3 0 [vint r]) ∧ btw H i7 i8 i9 ic ig n g r i8 = some (.cells 29 0 [.sl true true 0 []]) ∧ btw H i7 i8 i9 ic ig n g r i9 = some (.cells 4 0 [.bool false]) ∧
    btw H i7 i8 i9 ic ig n g r ic = some (.cells 3 0 (g.map vint)) ∧ btw H i7 i8 i9 ic ig n g r ig = some (.cells 29 0 [.rs ic 0 1 0 n false]) := by
  refine ⟨?_, ?_, ?_, ?_, ?_⟩
  · unfold btw; rw [Hp.set_ne _ _ d.n7.symm, Hp.set_ne _ _ d.n4.symm, Hp.set_ne _ _ d.n2.symm, Hp.set_ne _ _ d.n1.symm, Hp.set_eq]
  · unfold btw; rw [Hp.set_ne _ _ d.n8.symm, Hp.set_ne _ _ d.n5.symm, Hp.set_ne _ _ d.n3.symm, Hp.set_eq]
  · unfold btw; rw [Hp.set_ne _ _ d.n9.symm, Hp.set_ne _ _ d.n6.symm, Hp.set_eq]
  · unfold btw; rw [Hp.set_ne _ _ d.n10.symm, Hp.set_eq]
  · unfold btw; rw [Hp.set_eq]
theorem btw_c {H : Hp} {i7 i8 i9 ic ig n : Nat} (d : Five i7 i8 i9 ic ig) (g g' : List Int) (r : Int) : (btw H i7 i8 i9 ic ig n g r).set ic (some (.cells 3 0 (g'.map vint))) = btw H i7 i8 i9 ic ig n g' r := by
  unfold btw
  rw [Hp.set_comm _ _ _ d.n10, Hp.set_set]
theorem btw_7 {H : Hp} {i7 i8 i9 ic ig n : Nat} (d : Five i7 i8 i9 ic ig) (g : List Int) (r r' : Int) : (btw H i7 i8 i9 ic ig n g r).set i7 (some (.cells 3 0 [vint r'])) = btw H i7 i8 i9 ic ig n g r' := by
  unfold btw
  rw [Hp.set_comm _ _ _ d.n7, Hp.set_comm _ _ _ d.n4, Hp.set_comm _ _ _ d.n2, Hp.set_comm _ _ _ d.n1, Hp.set_set]
end Go.Proofs.YtaekibilldjnmaaGreat
namespace Go.Proofs.YtaekibilldjnmaaGreat
open Go.Proofs

def hsB (B : Hp) (o2 o0 : Ob) (og : Nat → Ob) (ids : Nat → Nat) (b : Nat → Bool) : Hp :=
  if b 6 = true then (if b 2 = true then B.set (ids 2) (some o2) else B).set (ids 6) (some (if b 7 = true ∧ b 2 = true then og (ids 2) else o0)) else (if b 2 = true then B.set (ids 2) (some o2) else B)
def isnB (j : Nat) : Bool := j == 2 || j == 6
theorem set_none {H : Hp} {i j : Nat} {o : Ob} (h : (H.set i (some o)) j = none) : H j = none := (fresh_ne h).2
theorem hsB_ind (B : Hp) (o2 o0 : Ob) (og : Nat → Ob) (ids ids' : Nat → Nat) (b : Nat → Bool) (h : ∀ j, isnB j = true → b j = true → ids j = ids' j) : hsB B o2 o0 og ids b = hsB B o2 o0 og ids' b := by
  unfold hsB
  by_cases h6 : b 6 = true
  · have e6 := h 6 rfl h6
    by_cases h2 : b 2 = true
    · have e2 := h 2 rfl h2
      rw [e6, e2]
    · simp [h2, e6]
  · by_cases h2 : b 2 = true
    · simp [h6, h2, h 2 rfl h2]
    · simp [h6, h2]
theorem hsB_made (B : Hp) (o2 o0 : Ob) (og : Nat → Ob) (ids : Nat → Nat) (b : Nat → Bool) (j : Nat) (hj : isnB j = true) (hb : b j = true) : hsB B o2 o0 og ids b (ids j) ≠ none := by
  have : j = 2 ∨ j = 6 := by simpa [isnB] using hj
  unfold hsB
  rcases this with rfl | rfl
  · simp only [hb, if_true]
    split
    · simp only [Hp.set]; split <;> simp
    · simp [Hp.set]
  · simp only [hb, if_true]; simp [Hp.set]
theorem hsB_mono (B : Hp) (o2 o0 : Ob) (og : Nat → Ob) (ids : Nat → Nat) (b : Nat → Bool) (id : Nat) (h : hsB B o2 o0 og ids b id = none) : B id = none := by
  unfold hsB at h
  split at h
  · have h1 := set_none h
    split at h1
    · exact set_none h1
    · exact h1
  · split at h
    · exact set_none h
    · exact h
def hs2 (B : Hp) (i8 i9 : Nat) (o8 o9 : Ob) (_ : Nat → Nat) (b : Nat → Bool) : Hp :=
  if b 4 = true then (if b 3 = true then B.set i8 (some o8) else B).set i9 (some o9) else (if b 3 = true then B.set i8 (some o8) else B)
theorem hs2_ne (B : Hp) {i8 i9 k : Nat} (o8 o9 : Ob) (ids : Nat → Nat) (b : Nat → Bool) (h8 : k ≠ i8) (h9 : k ≠ i9) : hs2 B i8 i9 o8 o9 ids b k = B k := by
  unfold hs2
  split
  · rw [Hp.set_ne _ _ h9]; split
    · rw [Hp.set_ne _ _ h8]
    · rfl
  · split
    · rw [Hp.set_ne _ _ h8]
    · rfl

theorem hs2_mono (B : Hp) (i8 i9 : Nat) (o8 o9 : Ob) (ids : Nat → Nat) (b : Nat → Bool) (id : Nat) (h : hs2 B i8 i9 o8 o9 ids b id = none) : B id = none := by
  unfold hs2 at h
  split at h
  · have h1 := set_none h
    split at h1
    · exact set_none h1
    · exact h1
  · split at h
    · exact set_none h
    · exact h
theorem off4 {H X : Hp} {a b c d : Nat} (h : ∀ j, j ≠ a → j ≠ b → j ≠ c → j ≠ d → X j = H j) (ha : H a = none) (hb : H b = none) (hc : H c = none) (hd : H d = none) : (((X.set a none).set b none).set c none).set d none = H := by
  funext j
  simp only [Hp.set]
  by_cases e1 : j = d
  · subst e1; simp [hd]
  · by_cases e2 : j = c
    · subst e2; simp [e1, hc]
    · by_cases e3 : j = b
      · subst e3; simp [e1, e2, hb]
      · by_cases e4 : j = a
        · subst e4; simp [e1, e2, e3, ha]
        · simp [e1, e2, e3, e4, h j e4 e3 e2 e1]
theorem btw_off {H : Hp} {i7 i8 i9 ic ig n : Nat} (g : List Int) (r : Int) {j : Nat} (h7 : j ≠ i7) (h8 : j ≠ i8) (h9 : j ≠ i9) (hc : j ≠ ic) (hg : j ≠ ig) : btw H i7 i8 i9 ic ig n g r j = H j := by
  unfold btw; rw [Hp.set_ne _ _ hg, Hp.set_ne _ _ hc, Hp.set_ne _ _ h9, Hp.set_ne _ _ h8, Hp.set_ne _ _ h7]

set_option maxHeartbeats 8000000 in
theorem between_any (H : Hp) (c : Cs) (hc : c.Fair) (nl clip : Bool) (w : List Int) (hw : c.Word w) (h2 : 2 ≤ w.length) (lo hi room : Int) (hlo : -1000 ≤ lo ∧ lo ≤ 2000) (hhi : -2000 ≤ hi ∧ hi ≤ 4000) (hro : -10000 ≤ room ∧ room ≤ 10000) :
    CallV Tryz.prog 85 [.agg c.box, vints nl clip w, .agg [vint lo, vint hi], vint room] H (fun r H' => r = betweenV (c.betweenF w lo hi room) ∧ H' = H) := by
  have hl7 := hw.2.1
  have hcl := Cs.closest_len c w
  have hml : (c.mores w).length = w.length - 1 := Cs.moreN_len c w (w.length - 1)
  have hol := Cs.openF_len c w lo
  have hoc : (c.openF w lo).length = (c.closest w).length := by rw [hol, hcl]
  have hole := Cs.openF_le hc w hlo
  have hmle : ∀ x ∈ c.mores w, -5 ≤ x ∧ x ≤ 5 := Cs.mores_le hc w (w.length - 1)
  have hcle := Cs.closest_le hc w
  have hotame : Tame (c.openF w lo) := ⟨by rw [hol]; omega, fun x hx => by have := hole x hx; omega⟩
  have hosum : 0 ≤ (c.openF w lo).sum ∧ (c.openF w lo).sum ≤ 20000 := by
    have := sum_bound (xs := c.openF w lo) (a := 0) (b := 2005) hole
    rw [hol] at this
    omega
  generalize hfin : c.betweenF w lo hi room = fin
  have hfin' : fillF (c.mores w) hi (w.length - 1) (c.openF w lo) (room - (c.openF w lo).sum) = fin := hfin
  refine CallV.body Tryz.func85 rfl Tryz.ntmps85 (by rfl) ?_
  refine WpV.seq (WpV.region ?_)
  refine WpOps.take 2 (by simp only [go_sem, reduceCtorEq, Nat.reduceAdd, Nat.reduceMul, Nat.reduceSub, Nat.reduceLT, Nat.reduceLeDiff, Nat.reduceEqDiff, Nat.reduceBEq, Nat.reducePow]; rfl) ?_
  refine WpOps.step (by rfl) (by rfl) (OpW.box rfl rfl rfl (fun i7 f7 => ?_))
  refine WpOps.step (by rfl) (by rfl) (OpW.alloc rfl (Tryz.ze29) (fun i8 f8 => ?_))
  refine WpOps.step (by rfl) (by rfl) (OpW.alloc rfl (Tryz.ze4) (fun i9 f9 => ?_))
  refine WpOps.nil ⟨Marks.nil _, ?_⟩
  simp only [Vthen, VinBlock, if_true, if_false, Nat.reduceEqDiff, reduceCtorEq]
  obtain ⟨n1, f8'⟩ := fresh_ne f8
  obtain ⟨n3, f9'⟩ := fresh_ne f9
  obtain ⟨n2, f9''⟩ := fresh_ne f9'
  generalize hB : ((H.set i7 _).set i8 _).set i9 _ = B
  refine WpV.seq (WpV.regionB Tryz.mixed (by kernel_rfl) (by kernel_rfl) isnB (hsB B (.cells 3 0 ((c.closest w).map vint)) (.cells 29 0 [.sl true true 0 []]) (fun k => .cells 29 0 [.rs k 0 1 0 (w.length - 1) false])) (fun ids => by simp [hsB]) (fun ids ids' b => hsB_ind _ _ _ _ ids ids' b) (fun ids b j hj hb => hsB_made _ _ _ _ ids b j hj hb) (fun ids b id _ h => hsB_mono _ _ _ _ ids b id h) ?_)
  refine LexB.pure (by rfl) (by rfl) (fun _ => rfl) (fun ids b _ => by simp [hsB, upd]) (fun ids b _ => OpW.evX (by simp only [go_sem, reduceCtorEq, Nat.reduceAdd, Nat.reduceMul, Nat.reduceSub, Nat.reduceLT, Nat.reduceLeDiff, Nat.reduceEqDiff, Nat.reduceBEq, Nat.reducePow]; rfl)) ?_
  refine LexB.pure (by rfl) (by rfl) (fun _ => rfl) (fun ids b _ => by simp [hsB, upd]) (fun ids b _ => OpW.evX (by simp only [go_sem, reduceCtorEq, Nat.reduceAdd, Nat.reduceMul, Nat.reduceSub, Nat.reduceLT, Nat.reduceLeDiff, Nat.reduceEqDiff, Nat.reduceBEq, Nat.reducePow]; rfl)) ?_
  refine LexB.new (fun id => .rs id 0 1 0 (w.length - 1) false) (.cells 3 0 ((c.closest w).map vint)) rfl (by rfl) (by rfl) (fun _ => rfl) (fun ids b _ => OpW.callY rfl (by rfl) (by rfl) (by rfl) (enters_of Tryz.func60 (by kernel_rfl) rfl) (closest_anew _ c hc nl clip w hw h2)) (fun ids b g _ => ?_) ?_
  · have e2 := g.not
    have e7 := g.wait 7 _ rfl (by decide)
    have ne := g.inj 2 6 rfl rfl (by decide)
    unfold hsB
    by_cases e6 : b 6 = true
    · simp only [upd, e2, e6, e7]
      simp only [Nat.reduceEqDiff, if_true, if_false, e6, e7, Bool.false_eq_true, false_and]
      rw [Hp.set_comm _ _ _ ne]
    · simp [upd, e2, e6, e7]
  refine LexB.pure (by rfl) (by rfl) (fun _ => rfl) (fun ids b _ => by simp [hsB, upd]) (fun ids b _ => OpW.evX (by simp only [go_sem, reduceCtorEq, Nat.reduceAdd, Nat.reduceMul, Nat.reduceSub, Nat.reduceLT, Nat.reduceLeDiff, Nat.reduceEqDiff, Nat.reduceBEq, Nat.reducePow]; rfl)) ?_
  refine LexB.pure (by rfl) (by rfl) (fun _ => rfl) (fun ids b _ => by simp [hsB, upd]) (fun ids b _ => OpW.evX (by simp only [go_sem, reduceCtorEq, Nat.reduceAdd, Nat.reduceMul, Nat.reduceSub, Nat.reduceLT, Nat.reduceLeDiff, Nat.reduceEqDiff, Nat.reduceBEq, Nat.reducePow]; rfl)) ?_
  refine LexB.pure (by rfl) (by rfl) (fun _ => rfl) (fun ids b _ => by simp [hsB, upd]) (fun ids b _ => OpW.callY rfl (by rfl) (by rfl) (by rfl) (enters_of Tryz.func67 (by kernel_rfl) rfl) (mores_call _ c hc nl clip w hw)) ?_
  refine LexB.new (fun id => .rp id 0 0) (.cells 29 0 [.sl true true 0 []]) rfl (by rfl) (by rfl) (fun _ => rfl) (fun ids b _ => OpW.alloc rfl (Tryz.ze29) (fun id hid => ⟨id, hid, rfl, rfl⟩)) (fun ids b g _ => ?_) ?_
  · have e6 := g.not
    have e7 := g.wait 7 _ rfl (by decide)
    simp [hsB, upd, e6, e7]
  refine LexB.eff (x := .any) (by rfl) (by rfl) (fun _ => rfl) (fun ids b g => ?_) ?_
  · have e2 := g.done 2 (by decide)
    have e6 := g.done 6 (by decide)
    have e7 : b 7 = false := g.not
    refine OpW.store (ty := 29) (cs := [.sl true true 0 []]) (id := ids 6) (ver := 0) (off := 0) rfl (by simp only [go_sem, reduceCtorEq, Nat.reduceAdd, Nat.reduceMul, Nat.reduceSub, Nat.reduceLT, Nat.reduceLeDiff, Nat.reduceEqDiff, Nat.reduceBEq, Nat.reducePow]) (by simp only [go_sem, reduceCtorEq, Nat.reduceAdd, Nat.reduceMul, Nat.reduceSub, Nat.reduceLT, Nat.reduceLeDiff, Nat.reduceEqDiff, Nat.reduceBEq, Nat.reducePow]; try rfl) ?_ (by simp only [go_sem, reduceCtorEq, Nat.reduceAdd, Nat.reduceMul, Nat.reduceSub, Nat.reduceLT, Nat.reduceLeDiff, Nat.reduceEqDiff, Nat.reduceBEq, Nat.reducePow]; try rfl) (by exact Tryz.sz29) (by simp) ⟨rfl, ?_⟩
    · unfold hsB; rw [if_pos e6, Hp.set_eq, if_neg (by rw [e7]; simp)]
    · simp only [hsB, upd, e2, e6, e7]
      simp [Hp.set_set, putC]
  refine LexB.pure (by rfl) (by rfl) (fun _ => rfl) (fun ids b _ => by simp [hsB, upd]) (fun ids b _ => OpW.evX (by simp only [go_sem, reduceCtorEq, Nat.reduceAdd, Nat.reduceMul, Nat.reduceSub, Nat.reduceLT, Nat.reduceLeDiff, Nat.reduceEqDiff, Nat.reduceBEq, Nat.reducePow]; rfl)) ?_
  intro ids hf hinj
  have n10 : ids 6 ≠ ids 2 := fun e => hinj 2 6 rfl rfl (by decide) e.symm
  have c1 := hf 2
  have g1 := hf 6
  simp only [hsB, List.length_cons, List.length_nil, Nat.reduceAdd, Nat.reduceLT, decide_true, if_true, and_self]
  generalize ids 2 = ic at *
  generalize ids 6 = ig at *
  refine ⟨Marks.nil _, ?_⟩
  rw [← hB] at c1 g1 ⊢
  obtain ⟨n6, c2⟩ := fresh_ne c1
  obtain ⟨n5, c3⟩ := fresh_ne c2
  obtain ⟨n4, fc⟩ := fresh_ne c3
  obtain ⟨n9, g2⟩ := fresh_ne g1
  obtain ⟨n8, g3⟩ := fresh_ne g2
  obtain ⟨n7, fg⟩ := fresh_ne g3
  clear c1 c2 c3 g1 g2 g3 hf hinj ids hB B
  have d5 : Five i7 i8 i9 ic ig := ⟨n1, n2, n3, n4, n5, n6, n7, n8, n9, n10⟩
  show Vthen _ _ _ _ _ (btw H i7 i8 i9 ic ig (w.length - 1) (c.closest w) room)
  simp only [Vthen, VinBlock, if_true, if_false, Nat.reduceEqDiff, reduceCtorEq]
  refine WpV.seq ?_
  refine WpV.seq (WpV.regionE (by simp only [go_sem, reduceCtorEq, Nat.reduceAdd, Nat.reduceMul, Nat.reduceSub, Nat.reduceLT, Nat.reduceLeDiff, Nat.reduceEqDiff, Nat.reduceBEq, Nat.reducePow]; rfl) (Marks.nil _) ?_)
  simp only [Vthen, VinBlock, if_true, if_false, Nat.reduceEqDiff, reduceCtorEq]
  generalize hn : w.length - 1 = n at *
  have hn7 : n ≤ 6 ∧ 1 ≤ n := by omega
  refine WpV.block (WpV.loopN n (fun k => [(6, .cp [vint lo, vint hi] 0), (7, .rp i7 0 0), (8, .rp i8 0 0), (9, .rp i9 0 0), (10, .rp ig 0 0), (11, vints (true && decide ((c.mores w).length = 0)) (decide ((c.mores w).length = 0)) (c.mores w)), (23, vints (true && decide ((c.mores w).length = 0)) (decide ((c.mores w).length = 0)) (c.mores w)), (24, vint (c.mores w).length), (25, vint k)]) (fun k => btw H i7 i8 i9 ic ig n (mixL (c.openF w lo) (c.closest w) k) room) ?_ ?_ ?_)
  · exact .cons rfl rfl (.cons rfl rfl (.cons rfl rfl (.cons rfl rfl (.cons rfl rfl (.cons rfl rfl (.cons rfl rfl (.cons rfl rfl (.cons rfl rfl (.nil _)))))))))
  · simp only [mixL_zero]
  · intro k hk
    refine WpV.seq (WpV.regionE (by simp only [go_sem, reduceCtorEq, Nat.reduceAdd, Nat.reduceMul, Nat.reduceSub, Nat.reduceLT, Nat.reduceLeDiff, Nat.reduceEqDiff, Nat.reduceBEq, Nat.reducePow]; rfl) (Marks.nil _) ?_)
    simp only [Vthen, VinBlock, if_true, if_false, Nat.reduceEqDiff, reduceCtorEq]
    refine WpV.seq (WpV.cond rfl (fun hb => WpV.skip ?_) (fun hb => WpV.exit ?_))
    · have hlt : (k : Int) < ((c.mores w).length : Int) := of_decide_eq_true ‹_›
      have hlt' : k < n := by rw [hml] at hlt; omega
      have hltn : (k : Int) < (n : Int) := by omega
      have hkc : k < (c.openF w lo).length := by omega
      have hgk := mixL_get hoc hkc
      have hset := mixL_set hoc hkc
      have hca := Cs.open_at c w lo (k := k) (by omega)
      have hlm := mixL_len hoc (Nat.le_of_lt hkc)
      have hgm := ints_get (c.mores w) (show k < (c.mores w).length by omega)
      have hgd : (c.mores w).getD k 0 = (c.mores w)[k]'(by omega) := by rw [List.getD_eq_getElem?_getD, List.getElem?_eq_getElem (show k < (c.mores w).length by omega)]; rfl
      have hmk := hmle _ (getD_mem (xs := c.mores w) (k := k) (by omega))
      rw [hgd] at hca hmk
      generalize (c.mores w)[k]'(by omega) = mk at hgm hca hmk
      have hw1 : IntKind.i64.wrap (lo - mk) = lo - mk := wrap64 (by omega)
      obtain ⟨o7, o8, o9, oc, og⟩ := btw_get (H := H) (n := n) d5 (mixL (c.openF w lo) (c.closest w) k) room
      have hput := fun g' => btw_c (H := H) (n := n) d5 (mixL (c.openF w lo) (c.closest w) k) g' room
      generalize hJ : btw H i7 i8 i9 ic ig n (mixL (c.openF w lo) (c.closest w) k) room = J at o7 o8 o9 oc og hput ⊢
      simp only [Vthen, VinBlock, if_true, if_false, Nat.reduceEqDiff, reduceCtorEq]
      refine WpV.seq (WpV.block ?_)
      refine WpV.seq (WpV.regionE (by simp only [go_sem, reduceCtorEq, Nat.reduceAdd, Nat.reduceMul, Nat.reduceSub, Nat.reduceLT, Nat.reduceLeDiff, Nat.reduceEqDiff, Nat.reduceBEq, Nat.reducePow, hlt, hgm]; rfl) (Marks.nil _) ?_)
      simp only [Vthen, VinBlock, if_true, if_false, Nat.reduceEqDiff, reduceCtorEq]
      refine WpV.regionTN 12 Tryz.mixed (by kernel_rfl) (by kernel_rfl) (by kernel_rfl) ?_
      refine LexD.take 8 (by rfl) (by simp only [go_sem, reduceCtorEq, Nat.reduceAdd, Nat.reduceMul, Nat.reduceSub, Nat.reduceLT, Nat.reduceLeDiff, Nat.reduceEqDiff, Nat.reduceBEq, Nat.reducePow, og, oc, hltn, hgk]; rfl) ?_
      refine LexD.take 4 (by rfl) (by simp only [go_sem, reduceCtorEq, Nat.reduceAdd, Nat.reduceMul, Nat.reduceSub, Nat.reduceLT, Nat.reduceLeDiff, Nat.reduceEqDiff, Nat.reduceBEq, Nat.reducePow, og, oc, hltn, hgk, hw1]; rfl) ?_
      refine LexD.nilE ?_
      refine LexT.step (by rfl) (by rfl) (OpW.store (ty := 3) (cs := (mixL (c.openF w lo) (c.closest w) k).map vint) rfl (by simp only [go_sem, reduceCtorEq, Nat.reduceAdd, Nat.reduceMul, Nat.reduceSub, Nat.reduceLT, Nat.reduceLeDiff, Nat.reduceEqDiff, Nat.reduceBEq, Nat.reducePow]; try rfl) (by simp only [go_sem, reduceCtorEq, Nat.reduceAdd, Nat.reduceMul, Nat.reduceSub, Nat.reduceLT, Nat.reduceLeDiff, Nat.reduceEqDiff, Nat.reduceBEq, Nat.reducePow]; try rfl) oc (by simp only [go_sem, reduceCtorEq, Nat.reduceAdd, Nat.reduceMul, Nat.reduceSub, Nat.reduceLT, Nat.reduceLeDiff, Nat.reduceEqDiff, Nat.reduceBEq, Nat.reducePow]; try rfl) (by exact Tryz.sz3) (by simp; omega) ?_)
      refine LexT.nilE ⟨Marks.nil _, ?_⟩
      simp only [Vthen, VinBlock, if_true, if_false, Nat.reduceEqDiff, reduceCtorEq]
      refine WpV.regionE (by simp only [go_sem, reduceCtorEq, Nat.reduceAdd, Nat.reduceMul, Nat.reduceSub, Nat.reduceLT, Nat.reduceLeDiff, Nat.reduceEqDiff, Nat.reduceBEq, Nat.reducePow]; rfl) (Marks.nil _) ?_
      simp only [Vthen, VinBlock, if_true, if_false, Nat.reduceEqDiff, reduceCtorEq]
      refine ⟨by first | rfl | trivial, hlt', .cons rfl rfl (.cons rfl rfl (.cons rfl rfl (.cons rfl rfl (.cons rfl rfl (.cons rfl rfl (.cons rfl rfl (.cons rfl rfl (.cons rfl ?_ (.nil _))))))))), ?_⟩
      · rw [wrap64 (by omega)]; rfl
      · rw [hca] at hset
        rw [← hput, ← hset]
        rfl
    · have hge : k = n := by have := of_decide_eq_false ‹_›; rw [hml] at this; omega
      subst hge
      have hall := mixL_all hoc
      rw [hol] at hall
      rw [hall]
      obtain ⟨o7, o8, o9, oc, og⟩ := btw_get (H := H) (n := k) d5 (c.openF w lo) room
      have hw2 : IntKind.i64.wrap (room - (c.openF w lo).sum) = room - (c.openF w lo).sum := wrap64 (by omega)
      have hsl := sum_lent (btw H i7 i8 i9 ic ig k (c.openF w lo) room) (c.openF w lo) hotame ic oc
      rw [hol] at hsl
      simp only [Vthen, VinBlock, if_true, if_false, Nat.reduceEqDiff, reduceCtorEq]
      refine WpV.seq (WpV.regionTN 4 Tryz.mixed (by kernel_rfl) (by kernel_rfl) (by kernel_rfl) ?_)
      refine LexD.take 2 (by rfl) (by simp only [go_sem, reduceCtorEq, Nat.reduceAdd, Nat.reduceMul, Nat.reduceSub, Nat.reduceLT, Nat.reduceLeDiff, Nat.reduceEqDiff, Nat.reduceBEq, Nat.reducePow, o7, og]; rfl) ?_
      refine LexD.step (by rfl) (by rfl) (OpW.callY rfl (by rfl) (by rfl) (by rfl) (enters_of Tryz.func84 (by kernel_rfl) rfl) (hsl)) ?_
      refine LexD.take 1 (by rfl) (by simp only [go_sem, reduceCtorEq, Nat.reduceAdd, Nat.reduceMul, Nat.reduceSub, Nat.reduceLT, Nat.reduceLeDiff, Nat.reduceEqDiff, Nat.reduceBEq, Nat.reducePow, hw2]; rfl) ?_
      refine LexD.nilE ?_
      refine LexT.step (by rfl) (by rfl) (OpW.store (ty := 3) (cs := [vint room]) (id := i7) (ver := 0) (off := 0) rfl (by simp only [go_sem, reduceCtorEq, Nat.reduceAdd, Nat.reduceMul, Nat.reduceSub, Nat.reduceLT, Nat.reduceLeDiff, Nat.reduceEqDiff, Nat.reduceBEq, Nat.reducePow]; try rfl) (by simp only [go_sem, reduceCtorEq, Nat.reduceAdd, Nat.reduceMul, Nat.reduceSub, Nat.reduceLT, Nat.reduceLeDiff, Nat.reduceEqDiff, Nat.reduceBEq, Nat.reducePow]; try rfl) o7 (by simp only [go_sem, reduceCtorEq, Nat.reduceAdd, Nat.reduceMul, Nat.reduceSub, Nat.reduceLT, Nat.reduceLeDiff, Nat.reduceEqDiff, Nat.reduceBEq, Nat.reducePow]; try rfl) (by exact Tryz.sz3) (by simp) ?_)
      refine LexT.nilE ⟨Marks.nil _, ?_⟩
      simp only [Vthen, VinBlock, if_true, if_false, Nat.reduceEqDiff, reduceCtorEq]
      have h7 := btw_7 (H := H) (n := k) d5 (c.openF w lo) room (room - (c.openF w lo).sum)
      simp only [putC, List.take_zero, List.nil_append, List.length_cons, List.length_nil, Nat.zero_add, List.drop_succ_cons, List.drop_zero, List.drop_nil, List.append_nil]
      rw [h7]
      have hfin2 : fillF (c.mores w) hi k (c.openF w lo) (room - (c.openF w lo).sum) = fin := hfin'
      have hr0 : -50000 ≤ room - (c.openF w lo).sum ∧ room - (c.openF w lo).sum ≤ 50000 := by omega
      generalize room - (c.openF w lo).sum = r0 at *
      clear hsl h7 o7 o8 o9 oc og hw2
      refine WpV.seq ?_
      refine WpV.seq (WpV.region ?_)
      refine WpOps.take 1 (by simp only [go_sem, reduceCtorEq, Nat.reduceAdd, Nat.reduceMul, Nat.reduceSub, Nat.reduceLT, Nat.reduceLeDiff, Nat.reduceEqDiff, Nat.reduceBEq, Nat.reducePow]; rfl) ?_
      refine WpOps.step (by rfl) (by rfl) (OpW.callY rfl (by rfl) (by rfl) (by rfl) (enters_of Tryz.func104 (by kernel_rfl) rfl) ((back_any _ _ _ _).mono ?_))
      rintro _ _ ⟨rfl, hH⟩
      replace hH := hH.symm
      subst hH
      refine WpOps.nil ⟨Marks.nil _, ?_⟩
      simp only [Vthen, VinBlock, if_true, if_false, Nat.reduceEqDiff, reduceCtorEq]
      refine WpV.block (WpV.rangeS (items := backItems (c.mores w) (c.mores w).length) rfl (enters_of Tryz.func115 (by kernel_rfl) rfl) (Marks.nil _) (by rfl) (back_seq _ _ _ (by omega)) ?_)
      intro idm idl hne hm0 hl0
      refine ⟨fun rest H' => ∃ m g r, m ≤ k ∧ g.length = k ∧ (∀ y ∈ g, -5000 ≤ y ∧ y ≤ 5000) ∧ (-50000 ≤ r ∧ r ≤ 50000) ∧ rest = backItems (c.mores w) m ∧ MarksOn [idm] (btw H i7 i8 i9 ic ig k g r) H' ∧ fillF (c.mores w) hi m g r = fin,
        fun cc H' => cc = .ret ∧ fin = none ∧ ∃ g r, MarksOn [idm] (btw H i7 i8 i9 ic ig k g r) H', ⟨k, c.openF w lo, r0, Nat.le_refl _, hol, fun y hy => by have := hole y hy; omega, hr0, by rw [hml], ⟨_, rfl, hm0, rfl⟩, hfin2⟩, ?_, ?_, ?_⟩
      · rintro L x rest Bx Hx hx hLx ⟨m, g, r, hm, hgl, hgb, hrb, e1, hM1, e2⟩
        cases m with
        | zero => simp [backItems] at e1
        | succ m =>
          rw [backItems_succ, List.cons.injEq] at e1
          obtain ⟨rfl, rfl⟩ := e1
          obtain ⟨o7, o8, o9, oc, og⟩ := btw_get (H := H) (n := k) d5 g r
          have m7 := (hM1.get o7).1
          have m8 := (hM1.get o8).1
          have m9 := (hM1.get o9).1
          have mc := (hM1.get oc).1
          have mg := (hM1.get og).1
          have x7 := set_none_get (hLx.get m7)
          have x8 := set_none_get (hLx.get m8)
          have x9 := set_none_get (hLx.get m9)
          have xc := set_none_get (hLx.get mc)
          have xg := set_none_get (hLx.get mg)
          refine ⟨rfl, ?_⟩
          show WpV Tryz.prog (some idl) _ _ _ ((50, vint _) :: (49, vint _) :: _) [] Hx
          refine WpV.seq (WpV.regionE (by simp only [go_sem, reduceCtorEq, Nat.reduceAdd, Nat.reduceMul, Nat.reduceSub, Nat.reduceLT, Nat.reduceLeDiff, Nat.reduceEqDiff, Nat.reduceBEq, Nat.reducePow]; rfl) (Marks.nil _) ?_)
          simp only [Vthen, VinBlock, if_true, if_false, Nat.reduceEqDiff, reduceCtorEq]
          refine WpV.regionE (by simp only [go_sem, reduceCtorEq, Nat.reduceAdd, Nat.reduceMul, Nat.reduceSub, Nat.reduceLT, Nat.reduceLeDiff, Nat.reduceEqDiff, Nat.reduceBEq, Nat.reducePow]; rfl) (Marks.nil _) ?_
          simp only [Vthen, VinBlock, if_true, if_false, Nat.reduceEqDiff, reduceCtorEq]
          refine ⟨none, hx, WpV.block ?_⟩
          have yl := Hp.set_eq Hx idl
          generalize hHb : Hx.set idl _ = Hb
          have y7 : Hb i7 = some (.cells 3 0 [vint r]) := by rw [← hHb, Hp.set_ne _ _ x7.1]; exact x7.2
          have y8 : Hb i8 = some (.cells 29 0 [.sl true true 0 []]) := by rw [← hHb, Hp.set_ne _ _ x8.1]; exact x8.2
          have y9 : Hb i9 = some (.cells 4 0 [.bool false]) := by rw [← hHb, Hp.set_ne _ _ x9.1]; exact x9.2
          have yc : Hb ic = some (.cells 3 0 (g.map vint)) := by rw [← hHb, Hp.set_ne _ _ xc.1]; exact xc.2
          have yg : Hb ig = some (.cells 29 0 [.rs ic 0 1 0 k false]) := by rw [← hHb, Hp.set_ne _ _ xg.1]; exact xg.2
          have hltm : (m : Int) < (k : Int) := by omega
          have hgg : (g.map vint)[m]? = some (vint (g.getD m 0)) := by rw [ints_get g (show m < g.length by omega)]; simp [List.getD_eq_getElem?_getD, show m < g.length by omega]
          have hgv := hgb _ (getD_mem (xs := g) (k := m) (by omega))
          have hmv := hmle _ (getD_mem (xs := c.mores w) (k := m) (by omega))
          rw [fillF] at e2
          unfold fillX at e2
          generalize hmd : (c.mores w).getD m 0 = mv at *
          have hw1 : IntKind.i64.wrap (hi - mv) = hi - mv := wrap64 (by omega)
          have hw2 : IntKind.i64.wrap (hi - mv - g.getD m 0) = hi - mv - g.getD m 0 := wrap64 (by omega)
          refine WpV.seq (WpV.regionDE Tryz.mixed (by kernel_rfl) (by kernel_rfl) (by rfl) (by simp only [go_sem, reduceCtorEq, Nat.reduceAdd, Nat.reduceMul, Nat.reduceSub, Nat.reduceLT, Nat.reduceLeDiff, Nat.reduceEqDiff, Nat.reduceBEq, Nat.reducePow, y7, yg, yc, hltm, hgg, hw1, hw2]; rfl) (Marks.nil _) ?_)
          simp only [Vthen, VinBlock, if_true, if_false, Nat.reduceEqDiff, reduceCtorEq]
          have hxl : (if hi - mv - g.getD m 0 < r then hi - mv - g.getD m 0 else r) ≤ r ∧ (if hi - mv - g.getD m 0 < r then hi - mv - g.getD m 0 else r) ≤ hi - mv - g.getD m 0 := by split <;> omega
          generalize (if hi - mv - g.getD m 0 < r then hi - mv - g.getD m 0 else r) = x at hxl e2 ⊢
          refine WpV.seq ?_
          by_cases hneg : x < 0
          · rw [if_pos hneg] at e2
            refine WpV.seq (WpV.regionE (by simp only [go_sem, reduceCtorEq, Nat.reduceAdd, Nat.reduceMul, Nat.reduceSub, Nat.reduceLT, Nat.reduceLeDiff, Nat.reduceEqDiff, Nat.reduceBEq, Nat.reducePow, hneg]; rfl) (Marks.nil _) ?_)
            simp only [Vthen, VinBlock, if_true, if_false, Nat.reduceEqDiff, reduceCtorEq]
            refine WpV.cond rfl (fun hb => ?_) (fun hb => by cases hb)
            refine WpV.seq (WpV.region ?_)
            refine WpOps.step (by rfl) (by rfl) (OpW.store (ty := 29) (id := i8) (ver := 0) (off := 0) rfl (by simp only [go_sem, reduceCtorEq, Nat.reduceAdd, Nat.reduceMul, Nat.reduceSub, Nat.reduceLT, Nat.reduceLeDiff, Nat.reduceEqDiff, Nat.reduceBEq, Nat.reducePow]; try rfl) (by simp only [go_sem, reduceCtorEq, Nat.reduceAdd, Nat.reduceMul, Nat.reduceSub, Nat.reduceLT, Nat.reduceLeDiff, Nat.reduceEqDiff, Nat.reduceBEq, Nat.reducePow]; try rfl) y8 (by simp only [go_sem, reduceCtorEq, Nat.reduceAdd, Nat.reduceMul, Nat.reduceSub, Nat.reduceLT, Nat.reduceLeDiff, Nat.reduceEqDiff, Nat.reduceBEq, Nat.reducePow]; try rfl) (by exact Tryz.sz29) (by simp) ?_)
            refine WpOps.step (by rfl) (by rfl) (OpW.store (ty := 4) (id := i9) (ver := 0) (off := 0) rfl (by simp only [go_sem, reduceCtorEq, Nat.reduceAdd, Nat.reduceMul, Nat.reduceSub, Nat.reduceLT, Nat.reduceLeDiff, Nat.reduceEqDiff, Nat.reduceBEq, Nat.reducePow]; try rfl) (by simp only [go_sem, reduceCtorEq, Nat.reduceAdd, Nat.reduceMul, Nat.reduceSub, Nat.reduceLT, Nat.reduceLeDiff, Nat.reduceEqDiff, Nat.reduceBEq, Nat.reducePow]; try rfl) (by rw [Hp.set_ne _ _ n3]; exact y9) (by simp only [go_sem, reduceCtorEq, Nat.reduceAdd, Nat.reduceMul, Nat.reduceSub, Nat.reduceLT, Nat.reduceLeDiff, Nat.reduceEqDiff, Nat.reduceBEq, Nat.reducePow]; try rfl) (by exact Tryz.sz4) (by simp) ?_)
            refine WpOps.nil ⟨Marks.nil _, ?_⟩
            simp only [Vthen, VinBlock, if_true, if_false, Nat.reduceEqDiff, reduceCtorEq]
            have hsame : ((Hb.set i8 (some (.cells 29 0 (putC [.sl true true 0 []] 0 [.sl true true 0 []])))).set i9 (some (.cells 4 0 (putC [.bool false] 0 [.bool false])))) = Hb := by
              rw [show putC [AV.sl true true 0 []] 0 [AV.sl true true 0 []] = [AV.sl true true 0 []] from rfl, show putC [AV.bool false] 0 [AV.bool false] = [AV.bool false] from rfl, Hp.set_same Hb i8 _ y8, Hp.set_same Hb i9 _ y9]
            rw [hsame]
            exact WpV.ret ⟨⟨none, by rw [← hHb]; exact yl _⟩, Bx, by rw [← hHb, Hp.set_set]; exact hLx, rfl, e2.symm, g, r, hM1⟩
          · rw [if_neg hneg] at e2
            refine WpV.seq (WpV.regionE (by simp only [go_sem, reduceCtorEq, Nat.reduceAdd, Nat.reduceMul, Nat.reduceSub, Nat.reduceLT, Nat.reduceLeDiff, Nat.reduceEqDiff, Nat.reduceBEq, Nat.reducePow, hneg]; rfl) (Marks.nil _) ?_)
            simp only [Vthen, VinBlock, if_true, if_false, Nat.reduceEqDiff, reduceCtorEq]
            refine WpV.cond rfl (fun hb => by cases hb) (fun hb => WpV.skip ?_)
            simp only [Vthen, VinBlock, if_true, if_false, Nat.reduceEqDiff, reduceCtorEq]
            have hw3 : IntKind.i64.wrap (g.getD m 0 + x) = g.getD m 0 + x := wrap64 (by omega)
            have hw4 : IntKind.i64.wrap (r - x) = r - x := wrap64 (by omega)
            have hput : putC (g.map vint) m [vint (g.getD m 0 + x)] = (g.set m (g.getD m 0 + x)).map vint := by
              rw [putC_set _ _ _ (by simp; omega), ← List.map_set]
            refine WpV.seq (WpV.region ?_)
            refine WpOps.take 7 (by simp only [go_sem, reduceCtorEq, Nat.reduceAdd, Nat.reduceMul, Nat.reduceSub, Nat.reduceLT, Nat.reduceLeDiff, Nat.reduceEqDiff, Nat.reduceBEq, Nat.reducePow, yg, yc, hltm, hgg, hw3]; rfl) ?_
            refine WpOps.step (by rfl) (by rfl) (OpW.store (ty := 3) (cs := g.map vint) (id := ic) (ver := 0) (off := m) rfl (by simp only [go_sem, reduceCtorEq, Nat.reduceAdd, Nat.reduceMul, Nat.reduceSub, Nat.reduceLT, Nat.reduceLeDiff, Nat.reduceEqDiff, Nat.reduceBEq, Nat.reducePow]; try rfl) (by simp only [go_sem, reduceCtorEq, Nat.reduceAdd, Nat.reduceMul, Nat.reduceSub, Nat.reduceLT, Nat.reduceLeDiff, Nat.reduceEqDiff, Nat.reduceBEq, Nat.reducePow]; try rfl) yc (by simp only [go_sem, reduceCtorEq, Nat.reduceAdd, Nat.reduceMul, Nat.reduceSub, Nat.reduceLT, Nat.reduceLeDiff, Nat.reduceEqDiff, Nat.reduceBEq, Nat.reducePow]; try rfl) (by exact Tryz.sz3) (by simp; omega) ?_)
            refine WpOps.nil ⟨Marks.nil _, ?_⟩
            rw [hput]
            simp only [Vthen, VinBlock, if_true, if_false, Nat.reduceEqDiff, reduceCtorEq]
            have z7 : (Hb.set ic (some (.cells 3 0 ((g.set m (g.getD m 0 + x)).map vint)))) i7 = some (.cells 3 0 [vint r]) := by rw [Hp.set_ne _ _ n4.symm]; exact y7
            refine WpV.region ?_
            refine WpOps.take 3 (by simp only [go_sem, reduceCtorEq, Nat.reduceAdd, Nat.reduceMul, Nat.reduceSub, Nat.reduceLT, Nat.reduceLeDiff, Nat.reduceEqDiff, Nat.reduceBEq, Nat.reducePow, z7, hw4]; rfl) ?_
            refine WpOps.step (by rfl) (by rfl) (OpW.store (ty := 3) (cs := [vint r]) (id := i7) (ver := 0) (off := 0) rfl (by simp only [go_sem, reduceCtorEq, Nat.reduceAdd, Nat.reduceMul, Nat.reduceSub, Nat.reduceLT, Nat.reduceLeDiff, Nat.reduceEqDiff, Nat.reduceBEq, Nat.reducePow]; try rfl) (by simp only [go_sem, reduceCtorEq, Nat.reduceAdd, Nat.reduceMul, Nat.reduceSub, Nat.reduceLT, Nat.reduceLeDiff, Nat.reduceEqDiff, Nat.reduceBEq, Nat.reducePow]; try rfl) z7 (by simp only [go_sem, reduceCtorEq, Nat.reduceAdd, Nat.reduceMul, Nat.reduceSub, Nat.reduceLT, Nat.reduceLeDiff, Nat.reduceEqDiff, Nat.reduceBEq, Nat.reducePow]; try rfl) (by exact Tryz.sz3) (by simp) ?_)
            refine WpOps.nil ⟨Marks.nil _, ?_⟩
            simp only [Vthen, VinBlock, if_true, if_false, Nat.reduceEqDiff, reduceCtorEq]
            have p7 : (btw H i7 i8 i9 ic ig k (g.set m (g.getD m 0 + x)) r) i7 = some (.cells 3 0 [vint r]) := (btw_get (H := H) (n := k) d5 _ r).1
            have hL1 := hLx.set (some (.cells 3 0 ((g.set m (g.getD m 0 + x)).map vint))) mc
            have hM2 := hM1.set (some (.cells 3 0 ((g.set m (g.getD m 0 + x)).map vint))) oc
            rw [btw_c d5] at hM2
            have hL2 := hL1.set (some (.cells 3 0 [vint (r - x)])) (hM2.get p7).1
            have hM3 := hM2.set (some (.cells 3 0 [vint (r - x)])) p7
            rw [btw_7 d5] at hM3
            refine ⟨⟨none, ?_⟩, _, ?_, m, g.set m (g.getD m 0 + x), r - x, by omega, by simp [hgl], ?_, by omega, rfl, hM3, e2⟩
            · rw [Hp.set_ne _ _ x7.1.symm, Hp.set_ne _ _ xc.1.symm, ← hHb]; exact yl _
            · rw [Hp.set_comm _ _ _ x7.1, Hp.set_comm _ _ _ xc.1, ← hHb, Hp.set_set]
              exact hL2
            · intro y hy
              rcases List.mem_or_eq_of_mem_set hy with h | rfl
              · exact hgb y h
              · omega
      · rintro H' ⟨m, g, r, hm, hgl, hgb, hrb, e1, hM1, e2⟩
        have hm0' : m = 0 := by
          cases m with
          | zero => rfl
          | succ m => rw [backItems_succ] at e1; cases e1
        subst hm0'
        have e2' : some (g, r) = fin := e2
        subst e2'
        refine ⟨hM1.marks.1, ?_⟩
        obtain ⟨o7, o8, o9, oc, og⟩ := btw_get (H := H) (n := k) d5 g r
        have mc := (hM1.get oc).1
        have mg := (hM1.get og).1
        simp only [Vthen, VinBlock, if_true, if_false, Nat.reduceEqDiff, reduceCtorEq]
        have hMg := hM1.set (some (.cells 29 0 [vints false false g])) og
        have hMc := hMg.set (k := ic) (o := .cells 3 0 (g.map vint)) none (by rw [Hp.set_ne _ _ n10.symm]; exact oc)
        have hcell : ([AV.rs ic 0 1 0 k false]).set 0 (.sl false false k (((g.map vint).drop 0).take (k * 1))) = [vints false false g] := by simp [vints, hgl, List.take_of_length_le]
        have hfz : ∀ fr, Frz fr H' fr ((H'.set ig (some (.cells 29 0 [vints false false g]))).set ic none) := fun fr => by
          have := Frz.cell (fr := fr) (k := ig) (id := ic) (i := 0) mg n10 rfl mc
          rwa [hcell] at this
        refine WpV.pre (hfz _) hMc.marks.1 ?_
        generalize (H'.set ig _).set ic none = X at hMc
        have b7 : (((btw H i7 i8 i9 ic ig k g r).set ig (some (.cells 29 0 [vints false false g]))).set ic none) i7 = some (.cells 3 0 [vint r]) := by rw [Hp.set_ne _ _ n4.symm, Hp.set_ne _ _ n7.symm]; exact o7
        have b8 : (((btw H i7 i8 i9 ic ig k g r).set ig (some (.cells 29 0 [vints false false g]))).set ic none) i8 = some (.cells 29 0 [.sl true true 0 []]) := by rw [Hp.set_ne _ _ n5.symm, Hp.set_ne _ _ n8.symm]; exact o8
        have b9 : (((btw H i7 i8 i9 ic ig k g r).set ig (some (.cells 29 0 [vints false false g]))).set ic none) i9 = some (.cells 4 0 [.bool false]) := by rw [Hp.set_ne _ _ n6.symm, Hp.set_ne _ _ n9.symm]; exact o9
        have bg : (((btw H i7 i8 i9 ic ig k g r).set ig (some (.cells 29 0 [vints false false g]))).set ic none) ig = some (.cells 29 0 [vints false false g]) := by rw [Hp.set_ne _ _ n10, Hp.set_eq]
        have boff : ∀ j, j ≠ i8 → j ≠ i9 → j ≠ i7 → j ≠ ig → (((btw H i7 i8 i9 ic ig k g r).set ig (some (.cells 29 0 [vints false false g]))).set ic none) j = H j := by
          intro j j8 j9 j7 jg
          by_cases jc : j = ic
          · subst jc; rw [Hp.set_eq, fc]
          · rw [Hp.set_ne _ _ jc, Hp.set_ne _ _ jg]; exact btw_off g r j7 j8 j9 jc jg
        generalize ((btw H i7 i8 i9 ic ig k g r).set ig (some (.cells 29 0 [vints false false g]))).set ic none = BX at hMc b7 b8 b9 bg boff
        have X7 := (hMc.get b7).1
        have X8 := (hMc.get b8).1
        have X9 := (hMc.get b9).1
        have Xg := (hMc.get bg).1
        have l7 := fun ids b => (hs2_ne X (.cells 29 0 [vints false false g]) (.cells 4 0 [.bool (r == 0)]) ids b n1.symm n2.symm).trans X7
        have lg := fun ids b => (hs2_ne X (.cells 29 0 [vints false false g]) (.cells 4 0 [.bool (r == 0)]) ids b n8 n9).trans Xg
        have hM8 := hMc.set (some (.cells 29 0 [vints false false g])) b8
        have b9' : (BX.set i8 (some (.cells 29 0 [vints false false g]))) i9 = some (.cells 4 0 [.bool false]) := by rw [Hp.set_ne _ _ n3]; exact b9
        have hM9 := hM8.set (some (.cells 4 0 [.bool (r == 0)])) b9'
        refine WpV.seq (WpV.regionB Tryz.mixed (by kernel_rfl) (by kernel_rfl) (fun _ => false) (hs2 X i8 i9 (.cells 29 0 [vints false false g]) (.cells 4 0 [.bool (r == 0)])) (fun ids => by simp [hs2]) (fun ids ids' b _ => rfl) (fun ids b j hj => by cases hj) (fun ids b id _ h => hs2_mono _ _ _ _ _ ids b id h) ?_)
        refine LexB.pure (by rfl) (by rfl) (fun _ => rfl) (fun ids b _ => by simp [hs2, upd]) (fun ids b _ => OpW.evX (by simp only [go_sem, reduceCtorEq, Nat.reduceAdd, Nat.reduceMul, Nat.reduceSub, Nat.reduceLT, Nat.reduceLeDiff, Nat.reduceEqDiff, Nat.reduceBEq, Nat.reducePow, l7, lg]; rfl)) ?_
        refine LexB.pure (by rfl) (by rfl) (fun _ => rfl) (fun ids b _ => by simp [hs2, upd]) (fun ids b _ => OpW.evX (by simp only [go_sem, reduceCtorEq, Nat.reduceAdd, Nat.reduceMul, Nat.reduceSub, Nat.reduceLT, Nat.reduceLeDiff, Nat.reduceEqDiff, Nat.reduceBEq, Nat.reducePow, l7, lg]; rfl)) ?_
        refine LexB.pure (by rfl) (by rfl) (fun _ => rfl) (fun ids b _ => by simp [hs2, upd]) (fun ids b _ => OpW.evX (by simp only [go_sem, reduceCtorEq, Nat.reduceAdd, Nat.reduceMul, Nat.reduceSub, Nat.reduceLT, Nat.reduceLeDiff, Nat.reduceEqDiff, Nat.reduceBEq, Nat.reducePow, l7, lg]; rfl)) ?_
        refine LexB.eff (x := .any) (by rfl) (by rfl) (fun _ => rfl) (fun ids b gd => ?_) ?_
        · have e3 : b 3 = false := gd.not
          refine OpW.store (ty := 29) (cs := [.sl true true 0 []]) (id := i8) (ver := 0) (off := 0) rfl (by simp only [go_sem, reduceCtorEq, Nat.reduceAdd, Nat.reduceMul, Nat.reduceSub, Nat.reduceLT, Nat.reduceLeDiff, Nat.reduceEqDiff, Nat.reduceBEq, Nat.reducePow]; try rfl) (by simp only [go_sem, reduceCtorEq, Nat.reduceAdd, Nat.reduceMul, Nat.reduceSub, Nat.reduceLT, Nat.reduceLeDiff, Nat.reduceEqDiff, Nat.reduceBEq, Nat.reducePow]; try rfl) ?_ (by simp only [go_sem, reduceCtorEq, Nat.reduceAdd, Nat.reduceMul, Nat.reduceSub, Nat.reduceLT, Nat.reduceLeDiff, Nat.reduceEqDiff, Nat.reduceBEq, Nat.reducePow]; try rfl) (by exact Tryz.sz29) (by simp) ⟨rfl, ?_⟩
          · unfold hs2
            split
            · rw [Hp.set_ne _ _ n3.symm, if_neg (by rw [e3]; simp)]; exact X8
            · rw [if_neg (by rw [e3]; simp)]; exact X8
          · rw [show putC [AV.sl true true 0 []] 0 [vints false false g] = [vints false false g] from rfl]
            by_cases e4 : b 4 = true
            · simp [hs2, upd, e3, e4, Hp.set_comm _ _ _ n3]
            · simp [hs2, upd, e3, e4]
        refine LexB.eff (x := .any) (by rfl) (by rfl) (fun _ => rfl) (fun ids b gd => ?_) ?_
        · have e4 : b 4 = false := gd.not
          refine OpW.store (ty := 4) (cs := [.bool false]) (id := i9) (ver := 0) (off := 0) rfl (by simp only [go_sem, reduceCtorEq, Nat.reduceAdd, Nat.reduceMul, Nat.reduceSub, Nat.reduceLT, Nat.reduceLeDiff, Nat.reduceEqDiff, Nat.reduceBEq, Nat.reducePow]; try rfl) (by simp only [go_sem, reduceCtorEq, Nat.reduceAdd, Nat.reduceMul, Nat.reduceSub, Nat.reduceLT, Nat.reduceLeDiff, Nat.reduceEqDiff, Nat.reduceBEq, Nat.reducePow]; try rfl) ?_ (by simp only [go_sem, reduceCtorEq, Nat.reduceAdd, Nat.reduceMul, Nat.reduceSub, Nat.reduceLT, Nat.reduceLeDiff, Nat.reduceEqDiff, Nat.reduceBEq, Nat.reducePow]; try rfl) (by exact Tryz.sz4) (by simp) ⟨rfl, ?_⟩
          · unfold hs2
            rw [if_neg (by rw [e4]; simp)]
            split
            · rw [Hp.set_ne _ _ n3]; exact X9
            · exact X9
          · rw [show putC [AV.bool false] 0 [AV.bool (r == 0)] = [AV.bool (r == 0)] from rfl]
            simp [hs2, upd, e4]
        intro ids _ _
        simp only [hs2, List.length_cons, List.length_nil, Nat.reduceAdd, Nat.reduceLT, decide_true, if_true]
        refine ⟨hM9.marks.1, ?_⟩
        simp only [Vthen, VinBlock, if_true, if_false, Nat.reduceEqDiff, reduceCtorEq]
        have q8 : ((BX.set i8 (some (.cells 29 0 [vints false false g]))).set i9 (some (.cells 4 0 [.bool (r == 0)]))) i8 = some (.cells 29 0 [vints false false g]) := by rw [Hp.set_ne _ _ n3.symm, Hp.set_eq]
        have hMa := hM9.set none q8
        have q9 : (((BX.set i8 (some (.cells 29 0 [vints false false g]))).set i9 (some (.cells 4 0 [.bool (r == 0)]))).set i8 none) i9 = some (.cells 4 0 [.bool (r == 0)]) := by rw [Hp.set_ne _ _ n3, Hp.set_eq]
        have hMb := hMa.set none q9
        have q7 : ((((BX.set i8 (some (.cells 29 0 [vints false false g]))).set i9 (some (.cells 4 0 [.bool (r == 0)]))).set i8 none).set i9 none) i7 = some (.cells 3 0 [vint r]) := by
          rw [Hp.set_ne _ _ n2.symm, Hp.set_ne _ _ n1.symm, Hp.set_ne _ _ n2.symm, Hp.set_ne _ _ n1.symm]; exact b7
        have hMd := hMb.set none q7
        have qg : (((((BX.set i8 (some (.cells 29 0 [vints false false g]))).set i9 (some (.cells 4 0 [.bool (r == 0)]))).set i8 none).set i9 none).set i7 none) ig = some (.cells 29 0 [vints false false g]) := by
          rw [Hp.set_ne _ _ n7, Hp.set_ne _ _ n9, Hp.set_ne _ _ n8, Hp.set_ne _ _ n9, Hp.set_ne _ _ n8]; exact bg
        have hMe := hMd.set none qg
        refine WpV.pre (Frz.ptr (t := 8) (id := i8) (ver := 0) (off := 0) rfl (hM9.get q8).1) hMa.marks.1 ?_
        refine WpV.pre (Frz.ptr (t := 9) (id := i9) (ver := 0) (off := 0) rfl (hMa.get q9).1) hMb.marks.1 ?_
        refine WpV.pre (Frz.drop _ _ i7) hMd.marks.1 ?_
        refine WpV.pre (Frz.drop _ _ ig) hMe.marks.1 ?_
        refine WpV.ret ⟨hMe.marks.1, hMe.marks.2, betweenV (some (g, r)), by simp only [Tryz.results85]; simp only [go_sem, reduceCtorEq, Nat.reduceAdd, Nat.reduceMul, Nat.reduceSub, Nat.reduceLT, Nat.reduceLeDiff, Nat.reduceEqDiff, Nat.reduceBEq, Nat.reducePow]; rfl, rfl, ?_⟩
        rw [hMe.kill]
        exact off4 (fun j j8 j9 j7 jg => by rw [Hp.set_ne _ _ j9, Hp.set_ne _ _ j8]; exact boff j j8 j9 j7 jg) f8' f9'' f7 fg
      · rintro cc H' ⟨rfl, hnone, g, r, hM1⟩
        subst hnone
        refine ⟨hM1.marks.1, ?_⟩
        obtain ⟨o7, o8, o9, oc, og⟩ := btw_get (H := H) (n := k) d5 g r
        have boff : ∀ j, j ≠ i7 → j ≠ i8 → j ≠ i9 → j ≠ ic → j ≠ ig → btw H i7 i8 i9 ic ig k g r j = H j := fun j => btw_off g r
        generalize btw H i7 i8 i9 ic ig k g r = BX at hM1 o7 o8 o9 oc og boff
        have hMa := hM1.set none o8
        have q9 : (BX.set i8 none) i9 = some (.cells 4 0 [.bool false]) := by rw [Hp.set_ne _ _ n3]; exact o9
        have hMb := hMa.set none q9
        have q7 : ((BX.set i8 none).set i9 none) i7 = some (.cells 3 0 [vint r]) := by rw [Hp.set_ne _ _ n2.symm, Hp.set_ne _ _ n1.symm]; exact o7
        have hMd := hMb.set none q7
        have qc : (((BX.set i8 none).set i9 none).set i7 none) ic = some (.cells 3 0 (g.map vint)) := by rw [Hp.set_ne _ _ n4, Hp.set_ne _ _ n6, Hp.set_ne _ _ n5]; exact oc
        have hMe := hMd.set none qc
        have qg : ((((BX.set i8 none).set i9 none).set i7 none).set ic none) ig = some (.cells 29 0 [.rs ic 0 1 0 k false]) := by rw [Hp.set_ne _ _ n10, Hp.set_ne _ _ n7, Hp.set_ne _ _ n9, Hp.set_ne _ _ n8]; exact og
        have hMf := hMe.set none qg
        refine WpV.pre (Frz.ptr (t := 8) (id := i8) (ver := 0) (off := 0) rfl (hM1.get o8).1) hMa.marks.1 ?_
        refine WpV.pre (Frz.ptr (t := 9) (id := i9) (ver := 0) (off := 0) rfl (hMa.get q9).1) hMb.marks.1 ?_
        refine WpV.pre (Frz.drop _ _ i7) hMd.marks.1 ?_
        refine WpV.pre (Frz.drop _ _ ic) hMe.marks.1 ?_
        refine WpV.pre (Frz.drop _ _ ig) hMf.marks.1 ?_
        refine WpV.ret ?_
        simp only [Vthen, VinBlock]
        refine ⟨hMf.marks.1, hMf.marks.2, betweenV none, by simp only [Tryz.results85]; simp only [go_sem, reduceCtorEq, Nat.reduceAdd, Nat.reduceMul, Nat.reduceSub, Nat.reduceLT, Nat.reduceLeDiff, Nat.reduceEqDiff, Nat.reduceBEq, Nat.reducePow]; rfl, rfl, ?_⟩
        rw [hMf.kill]
        refine off4 (X := BX.set i8 none) (fun j j9 j7 jc jg => ?_) f9'' f7 fc fg
        by_cases j8 : j = i8
        · subst j8; rw [Hp.set_eq, f8']
        · rw [Hp.set_ne _ _ j8]; exact boff j j7 j8 j9 jc jg
end Go.Proofs.YtaekibilldjnmaaGreat
