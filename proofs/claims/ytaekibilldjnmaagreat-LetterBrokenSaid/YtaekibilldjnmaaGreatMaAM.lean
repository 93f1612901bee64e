/- LetterPlates, walked. What 'lines' finds: the fewest lines, of these the least greatest rest, of these the smallest list. The greatest rest of lines, word by word. -/
import Derived.Test.YtaekibilldjnmaaGreatMaAL
set_option linter.unusedVariables false
set_option linter.unusedSimpArgs false
set_option linter.unusedSectionVars false
namespace Go.Proofs.YtaekibilldjnmaaGreat
open Go.Proofs

/-- As 'seqS', with the objects at the end. -/
theorem WpV.seqT {P : Program} {r : Option Nat} {N : Nat} {x y : Code} {Q : Exit → Fr → List Nat → Hp → Prop} {fr : Fr} {D : List Nat} {H : Hp} (S : Fr) (H2 : Hp) (hx : WpV P r N x (Vthen (fun fr' D' H' => D' = D ∧ H' = H2 ∧ Sub S fr') Q) fr D H) (hy : WpV P r N y Q S D H2) : WpV P r N (.seq x y) Q fr D H := by
  refine WpV.seq (hx.mono fun e fr' D' H' h => ?_)
  cases e with
  | normal => obtain ⟨rfl, rfl, hs⟩ := h; exact hy.weaken hs
  | _ => exact h
/-- As 'seqT', whatever the objects are at the end. -/
theorem WpV.seqE {P : Program} {r : Option Nat} {N : Nat} {x y : Code} {Q : Exit → Fr → List Nat → Hp → Prop} {fr : Fr} {D : List Nat} {H : Hp} (K : Fr → Hp → Prop) (hx : WpV P r N x (Vthen (fun fr' D' H' => D' = D ∧ ∃ S, K S H' ∧ Sub S fr') Q) fr D H) (hy : ∀ S H', K S H' → WpV P r N y Q S D H') : WpV P r N (.seq x y) Q fr D H := by
  refine WpV.seq (hx.mono fun e fr' D' H' h => ?_)
  cases e with
  | normal => obtain ⟨rfl, S, hk, hs⟩ := h; exact (hy S H' hk).weaken hs
  | _ => exact h
theorem Bld.get {H0 H : Hp} {e : TypeId} {s m : Nat} {nl : Bool} {xs : List AV} {v : AV} (h : Bld H0 e s nl m xs v H) {k : Nat} {o : Ob} (hk : H0 k = some o) : H k = some o := by
  obtain ⟨-, ⟨-, -, -, rfl⟩ | ⟨-, id, ver, hid, -, rfl⟩⟩ := h
  · exact hk
  · rw [Hp.set_ne _ _ (fun e => by rw [e, hid] at hk; cases hk)]; exact hk
theorem Bld.under {H0 H : Hp} {e : TypeId} {s m : Nat} {nl : Bool} {xs : List AV} {v : AV} (h : Bld H0 e s nl m xs v H) {k : Nat} {o : Ob} (hk : H0 k = some o) (o' : Ob) : Bld (H0.set k (some o')) e s nl m xs v (H.set k (some o')) := by
  obtain ⟨h1, ⟨h2, h3, h4, rfl⟩ | ⟨h2, id, ver, hid, h3, rfl⟩⟩ := h
  · exact ⟨h1, .inl ⟨h2, h3, h4, rfl⟩⟩
  · have hne : id ≠ k := fun e => by rw [e, hk] at hid; cases hid
    exact ⟨h1, .inr ⟨h2, id, ver, by rw [Hp.set_ne _ _ hne]; exact hid, h3, Hp.set_comm _ _ _ hne⟩⟩

def usedC (o : List Int) : List AV := (List.range 6).map fun (p : Nat) => .bool (contB o (p : Int))
theorem usedC_len (o : List Int) : (usedC o).length = 6 := by simp [usedC]
theorem usedC_nil : usedC [] = [.bool false, .bool false, .bool false, .bool false, .bool false, .bool false] := by rfl
theorem usedC_at {o : List Int} {y : Int} (h0 : 0 ≤ y) (h6 : y < 6) : (usedC o)[y.toNat]? = some (.bool (contB o y)) := by
  have h : y.toNat < 6 := by omega
  have e : ((y.toNat : Nat) : Int) = y := by omega
  unfold usedC
  rw [List.getElem?_map, List.getElem?_range h]
  simp [e]
theorem usedC_set {o : List Int} {y : Int} (h0 : 0 ≤ y) (h6 : y < 6) : putC (usedC o) y.toNat [.bool true] = usedC (o ++ [y]) := by
  rw [putC_set _ _ _ (by rw [usedC_len]; omega)]
  refine List.ext_getElem? fun k => ?_
  by_cases hk : k < 6
  · rw [List.getElem?_set]
    have hl := usedC_len o
    by_cases e : y.toNat = k
    · subst e
      rw [if_pos rfl, if_pos (by omega), usedC_at h0 h6]
      rw [contB_iff.2 (by simp)]
    · rw [if_neg e]
      have h1 := usedC_at (o := o) (y := (k : Int)) (by omega) (by omega)
      have h2 := usedC_at (o := o ++ [y]) (y := (k : Int)) (by omega) (by omega)
      rw [Int.toNat_natCast] at h1 h2
      rw [h1, h2]
      have : contB o (k : Int) = contB (o ++ [y]) (k : Int) := by
        rw [Bool.eq_iff_iff, contB_iff, contB_iff]
        simp only [List.mem_append, List.mem_singleton]
        constructor
        · exact .inl
        · rintro (h | h)
          · exact h
          · omega
      rw [this]
  · rw [List.getElem?_eq_none (by rw [List.length_set, usedC_len]; omega), List.getElem?_eq_none (by rw [usedC_len]; omega)]

theorem many_words {c : Cs} (hc6 : c.ws.length = 6) {l : List RX} (hr : ∀ r ∈ l, r.ok) (k : Nat) : ∀ r ∈ manyN l k, c.Word r.2.2 := by
  intro r hr'
  unfold manyN at hr'
  obtain ⟨x, hx, rfl⟩ := List.mem_map.1 hr'
  have hx' := List.mem_of_mem_take hx
  cases x with
  | none => exact ⟨by decide, by decide, fun y hy => by
      have : y = 0 := by simpa [rowOf, wordX] using hy
      omega⟩
  | some p => exact wordF_word (hr _ hx' p rfl).1 hc6

def platesN (l0 : List Int) (k : Nat) : List Int := (l0.take k).map fun n => 1 + n
theorem platesN_succ (l0 : List Int) {k : Nat} (hk : k < l0.length) : platesN l0 (k + 1) = platesN l0 k ++ [1 + l0[k]] := by
  unfold platesN; rw [List.take_add_one, List.getElem?_eq_getElem hk, List.map_append]; rfl
theorem platesN_len (l0 : List Int) {k : Nat} (hk : k ≤ l0.length) : (platesN l0 k).length = k := by simp [platesN]; omega

theorem picks_own (c : Cs) (ws : List (List Int)) (ps : List Int) : ∀ (n : Nat) (b : List Int), picksN c.own ws ps n b = picksN c ws ps n b
  | 0, _ => rfl
  | n + 1, b => by
    rw [picksN, picksN]
    congr 1
    funext i
    rw [picks_own c ws ps n]
    rfl

/-- Plates that were taken, word by word. -/
structure Oth (c : Cs) (ws : List (List Int)) (ps : List Int) (i : Nat) (o : List Int) : Prop where
  len : o.length ≤ i
  rng : ∀ y ∈ o, 0 ≤ y ∧ y < ps.length
  nodup : o.Nodup
  ok : o.length = i → PickOk c ws ps o
theorem Oth.stay {c : Cs} {ws : List (List Int)} {ps : List Int} {i : Nat} {o : List Int} (h : Oth c ws ps i o) : Oth c ws ps (i + 1) o := ⟨by have := h.len; omega, h.rng, h.nodup, fun e => by have := h.len; omega⟩
theorem Oth.take {c : Cs} {ws : List (List Int)} {ps : List Int} {i : Nat} {o : List Int} (h : Oth c ws ps i o) {p : Nat} (hp : p < ps.length) (hn : contB o (p : Int) = false) (hf : c.needF [ws.getD i []] ≤ plateOf ps p) : Oth c ws ps (i + 1) (o ++ [(p : Int)]) := by
  have hn' : (p : Int) ∉ o := fun hm => by rw [contB_iff.2 hm] at hn; cases hn
  refine ⟨by have := h.len; simp; omega, fun y hy => ?_, ?_, fun e => ?_⟩
  · rcases List.mem_append.1 hy with hy | hy
    · exact h.rng y hy
    · have : y = (p : Int) := by simpa using hy
      omega
  · rw [List.nodup_append]
    exact ⟨h.nodup, by simp, fun x hx y hy e => by
      have : y = (p : Int) := by simpa using hy
      subst this; subst e; exact hn' hx⟩
  · have hol : o.length = i := by simpa using e
    refine (h.ok hol).snoc hp ?_
    unfold Cs.fits
    rw [hn, hol]
    simpa [plateOf] using hf
theorem plate_in {ps : List Int} (h : ∀ x ∈ ps, 1 ≤ x ∧ x ≤ 256) {y : Int} (h0 : 0 ≤ y) (h1 : y < ps.length) : 1 ≤ plateOf ps y ∧ plateOf ps y ≤ 256 ∧ (ps.map vint)[y.toNat]? = some (vint (plateOf ps y)) := by
  have hl : y.toNat < ps.length := by omega
  have e : plateOf ps y = ps[y.toNat] := by simp [plateOf, List.getD_eq_getElem?_getD, hl]
  have := h _ (List.getElem_mem hl)
  rw [e]
  exact ⟨this.1, this.2, by simp [hl]⟩
theorem pickLen_snoc (ps b : List Int) (y : Int) : pickLen ps (b ++ [y]) = pickLen ps b + plateOf ps y := by
  unfold pickLen; rw [List.map_append, List.sum_append]; simp
theorem pickLen_in {ps : List Int} (h : ∀ x ∈ ps, 1 ≤ x ∧ x ≤ 256) : ∀ {b : List Int}, (∀ y ∈ b, 0 ≤ y ∧ y < ps.length) → 0 ≤ pickLen ps b ∧ pickLen ps b ≤ 256 * (b.length : Int)
  | [], _ => by simp [pickLen]
  | y :: b, hb => by
    have h1 := plate_in h (hb y (by simp)).1 (hb y (by simp)).2
    have h2 := pickLen_in h (b := b) (fun z hz => hb z (by simp [hz]))
    have e : pickLen ps (y :: b) = plateOf ps y + pickLen ps b := by simp [pickLen]
    rw [e]
    simp only [List.length_cons]
    omega

set_option maxRecDepth 100000 in
set_option maxHeartbeats 16000000 in
theorem Plates_any (H : Hp) (x : TyA) (hx : x.Ok) (nl clip : Bool) (l : List RX) (hl : l.length ≤ 9223372036854775807) (hr : ∀ r ∈ l, r.ok) (nl0 cl0 nl1 cl1 : Bool) (l0 l1 : List Int) (hl0m : l0.length ≤ 9223372036854775807) (hl1m : l1.length ≤ 9223372036854775807) (hb0 : ∀ n ∈ l0, Byte n) (hb1 : ∀ n ∈ l1, Byte n) :
    CallV Tryz.prog 6 [.agg x.cells, .sl nl clip l.length (l.map rowX), .agg [.sl nl0 cl0 l0.length (l0.map vbyte), .sl nl1 cl1 l1.length (l1.map vbyte)]] H (fun r H' => r = .bool true ∧ H' = H) := by
  have hone : (x.cells.all AV.one) = true := by
    unfold TyA.cells
    rw [List.all_append]
    simp [AV.one]
  have hone2 : (([.sl nl0 cl0 l0.length (l0.map vbyte), .sl nl1 cl1 l1.length (l1.map vbyte)] : List AV).all AV.one) = true := by simp [AV.one]
  have hmk := made_any H x hx
  have hcV := made_valid hx
  have hc6 := made_len hx
  have htk : x.cells.take 10 = x.cells := List.take_of_length_le (by unfold TyA.cells; simp [hx.wd])
  have hlen : x.cells.length = 10 := by unfold TyA.cells; simp [hx.wd]
  generalize x.made = c at hmk hcV hc6
  have hF := hcV.fair
  have hmany := many_any H nl clip l hl hr
  have hrs : ∀ r ∈ manyF l, c.Word r.2.2 := many_words hc6 hr _
  have hr5 : (manyF l).length ≤ 5 := by
    have := manyN_len l (Nat.min_le_left l.length 5)
    show (manyN l _).length ≤ 5
    omega
  generalize manyF l = rs at hmany hrs hr5
  generalize hfl : decide (rs.length = 0) = fl at hmany
  have hv0 : ([.sl nl0 cl0 l0.length (l0.map vbyte), .sl nl1 cl1 l1.length (l1.map vbyte)] : List AV)[0]? = some (.sl nl0 cl0 l0.length (l0.map vbyte)) := rfl
  have hv1 : ([.sl nl0 cl0 l0.length (l0.map vbyte), .sl nl1 cl1 l1.length (l1.map vbyte)] : List AV)[1]? = some (.sl nl1 cl1 l1.length (l1.map vbyte)) := rfl
  have hvl : ([.sl nl0 cl0 l0.length (l0.map vbyte), .sl nl1 cl1 l1.length (l1.map vbyte)] : List AV).length = 2 := rfl
  generalize ([.sl nl0 cl0 l0.length (l0.map vbyte), .sl nl1 cl1 l1.length (l1.map vbyte)] : List AV) = vc at *
  have z0 : (0 : Int) ≤ 0 ∧ (0 : Int) < ((2 : Nat) : Int) := by decide
  have z1 : (0 : Int) ≤ 1 ∧ (1 : Int) < ((2 : Nat) : Int) := by decide
  have t0 : Int.toNat 0 = 0 := rfl
  have t1 : Int.toNat 1 = 1 := rfl
  have hm6 : min l0.length 6 ≤ 6 := Nat.min_le_right _ _
  have hml : min l0.length 6 ≤ l0.length := Nat.min_le_left _ _
  refine CallV.body Tryz.func6 rfl Tryz.ntmps6 (by rfl) ?_
  refine WpV.seq (WpV.regionE (by simp only [go_sem, reduceCtorEq, Nat.reduceAdd, Nat.reduceMul, Nat.reduceSub, Nat.reduceLT, Nat.reduceLeDiff, Nat.reduceEqDiff, Nat.reduceBEq, Nat.reducePow, hone, hone2]; rfl) (Marks.nil _) ?_)
  simp only [Vthen, VinBlock, if_true, if_false, Nat.reduceEqDiff, reduceCtorEq]
  refine WpV.seq (WpV.region ?_)
  refine WpOps.take 1 (by simp only [go_sem, reduceCtorEq, Nat.reduceAdd, Nat.reduceMul, Nat.reduceSub, Nat.reduceLT, Nat.reduceLeDiff, Nat.reduceEqDiff, Nat.reduceBEq, Nat.reducePow, htk, hlen]; rfl) ?_
  refine WpOps.step (by rfl) (by rfl) (OpW.callY rfl (by rfl) (by rfl) (by rfl) (enters_of Tryz.func8 (by kernel_rfl) rfl) ((hmk).mono ?_))
  rintro _ _ ⟨rfl, hH⟩
  replace hH := hH.symm
  subst hH
  refine WpOps.take 1 (by simp only [go_sem, reduceCtorEq, Nat.reduceAdd, Nat.reduceMul, Nat.reduceSub, Nat.reduceLT, Nat.reduceLeDiff, Nat.reduceEqDiff, Nat.reduceBEq, Nat.reducePow]; rfl) ?_
  refine WpOps.step (by rfl) (by rfl) (OpW.callY rfl (by rfl) (by rfl) (by rfl) (enters_of Tryz.func28 (by kernel_rfl) rfl) ((hmany).mono ?_))
  rintro _ _ ⟨rfl, hH⟩
  replace hH := hH.symm
  subst hH
  refine WpOps.take 1 (by simp only [go_sem, reduceCtorEq, Nat.reduceAdd, Nat.reduceMul, Nat.reduceSub, Nat.reduceLT, Nat.reduceLeDiff, Nat.reduceEqDiff, Nat.reduceBEq, Nat.reducePow]; rfl) ?_
  refine WpOps.step (by rfl) (by rfl) (OpW.alloc rfl (Tryz.ze32) (fun i7 f7 => ?_))
  refine WpOps.step (by rfl) (by rfl) (OpW.store (ty := 32) (id := i7) (ver := 0) (off := 0) rfl (by simp only [go_sem, reduceCtorEq, Nat.reduceAdd, Nat.reduceMul, Nat.reduceSub, Nat.reduceLT, Nat.reduceLeDiff, Nat.reduceEqDiff, Nat.reduceBEq, Nat.reducePow]; try rfl) (by simp only [go_sem, reduceCtorEq, Nat.reduceAdd, Nat.reduceMul, Nat.reduceSub, Nat.reduceLT, Nat.reduceLeDiff, Nat.reduceEqDiff, Nat.reduceBEq, Nat.reducePow]; try rfl) (Hp.set_eq _ _ _) (by simp only [go_sem, reduceCtorEq, Nat.reduceAdd, Nat.reduceMul, Nat.reduceSub, Nat.reduceLT, Nat.reduceLeDiff, Nat.reduceEqDiff, Nat.reduceBEq, Nat.reducePow]; try rfl) (by exact Tryz.sz32) (by simp) ?_)
  rw [Hp.set_set]
  refine WpOps.take 2 (by simp only [go_sem, reduceCtorEq, Nat.reduceAdd, Nat.reduceMul, Nat.reduceSub, Nat.reduceLT, Nat.reduceLeDiff, Nat.reduceEqDiff, Nat.reduceBEq, Nat.reducePow]; rfl) (WpOps.nil ⟨Marks.nil _, ?_⟩)
  simp only [Vthen, VinBlock, if_true, if_false, Nat.reduceEqDiff, reduceCtorEq]
  refine WpV.pre (Frz.ptr (t := 7) (id := i7) rfl (Hp.set_eq _ _ _)) (Marks.nil _) ?_
  rw [Hp.set_set, Hp.set_same _ _ _ f7]
  -- the plates
  refine WpV.seqS [(5, .cp vc 0), (7, .cp c.cells 0), (8, vrows false fl rs), (9, vints false (decide ((platesN l0 (min l0.length 6)).length = 0)) (platesN l0 (min l0.length 6)))] ?_ ?_
  · refine WpV.seq (WpV.regionE (by simp only [go_sem, reduceCtorEq, Nat.reduceAdd, Nat.reduceMul, Nat.reduceSub, Nat.reduceLT, Nat.reduceLeDiff, Nat.reduceEqDiff, Nat.reduceBEq, Nat.reducePow]; rfl) (Marks.nil _) ?_)
    simp only [Vthen, VinBlock, if_true, if_false, Nat.reduceEqDiff, reduceCtorEq]
    refine WpV.block (WpV.loopB 3 1 false (min l0.length 6) (fun _ => True) (fun k => k) (fun k => (platesN l0 k).map vint) (fun k v => [(5, .cp vc 0), (7, .cp c.cells 0), (8, vrows false fl rs), (9, v), (10, vint k)]) trivial (Bld.nil H 3 1 false) ?_ ?_)
    · exact .cons rfl rfl (.cons rfl rfl (.cons rfl rfl (.cons rfl rfl (.cons rfl rfl (.nil _)))))
    · intro k hk _ v H1 hB
      have hk' : k ≤ l0.length := by omega
      have hend : k = min l0.length 6 → (v = v) → Frz [(5, .cp vc 0), (7, .cp c.cells 0), (8, vrows false fl rs), (9, v), (10, vint k)] H1 ((9, vints false (decide ((platesN l0 (min l0.length 6)).length = 0)) (platesN l0 (min l0.length 6))) :: [(5, .cp vc 0), (7, .cp c.cells 0), (8, vrows false fl rs), (9, v), (10, vint k)]) H := by
        intro e _
        have := hB.frz (fr := [(5, .cp vc 0), (7, .cp c.cells 0), (8, vrows false fl rs), (9, v), (10, vint k)]) (t := 9) rfl
        have hkl := platesN_len l0 hk'
        rw [← e]
        show Frz _ _ ((9, AV.sl false (decide ((platesN l0 k).length = 0)) (platesN l0 k).length _) :: _) _
        rw [hkl]
        exact this
      refine WpV.seq ?_
      by_cases h1 : (k : Int) < (l0.length : Int)
      · by_cases h6 : (k : Int) < 6
        · have hlt' : k < l0.length := by omega
          have hg : (l0.map vbyte)[k]? = some (vbyte l0[k]) := by simp [hlt']
          have hbb := hb0 l0[k] (List.getElem_mem _)
          unfold Byte at hbb
          have hwr : IntKind.i64.wrap l0[k] = l0[k] := wrap64 (by omega)
          have hws : IntKind.i64.wrap (1 + l0[k]) = 1 + l0[k] := wrap64 (by omega)
          refine WpV.seq (WpV.regionE (by simp only [go_sem, reduceCtorEq, Nat.reduceAdd, Nat.reduceMul, Nat.reduceSub, Nat.reduceLT, Nat.reduceLeDiff, Nat.reduceEqDiff, Nat.reduceBEq, Nat.reducePow, z0, t0, hv0, hvl, h1, h6]; rfl) (Marks.nil _) ?_)
          simp only [Vthen, VinBlock, if_true, if_false, Nat.reduceEqDiff, reduceCtorEq]
          refine WpV.cond rfl (fun hb => WpV.skip ?_) (fun hb => by cases hb)
          simp only [Vthen, VinBlock, if_true, if_false, Nat.reduceEqDiff, reduceCtorEq]
          refine WpV.seq (WpV.block ?_)
          refine WpV.region ?_
          refine WpOps.take 9 (by simp only [go_sem, reduceCtorEq, Nat.reduceAdd, Nat.reduceMul, Nat.reduceSub, Nat.reduceLT, Nat.reduceLeDiff, Nat.reduceEqDiff, Nat.reduceBEq, Nat.reducePow, z0, t0, hv0, hvl, h1, hg, hwr, hws]; rfl) ?_
          refine WpOps.step (by rfl) (by rfl) (OpW.appendB (m := 1) (ys := [vint (1 + l0[k])]) rfl hB rfl rfl rfl (Tryz.el29 (by omega)) Tryz.underlying29 rfl rfl (by decide) (fun v' H' hB' => ?_))
          refine WpOps.take 1 (by simp only [go_sem, reduceCtorEq, Nat.reduceAdd, Nat.reduceMul, Nat.reduceSub, Nat.reduceLT, Nat.reduceLeDiff, Nat.reduceEqDiff, Nat.reduceBEq, Nat.reducePow]; rfl) (WpOps.nil ⟨Marks.nil _, ?_⟩)
          simp only [Vthen, VinBlock, if_true, if_false, Nat.reduceEqDiff, reduceCtorEq]
          refine WpV.regionE (by simp only [go_sem, reduceCtorEq, Nat.reduceAdd, Nat.reduceMul, Nat.reduceSub, Nat.reduceLT, Nat.reduceLeDiff, Nat.reduceEqDiff, Nat.reduceBEq, Nat.reducePow]; rfl) (Marks.nil _) ?_
          simp only [Vthen, VinBlock, if_true, if_false, Nat.reduceEqDiff, reduceCtorEq]
          refine ⟨by first | rfl | trivial, by omega, trivial, v', ?_, .cons rfl rfl (.cons rfl rfl (.cons rfl rfl (.cons rfl rfl (.cons rfl ?_ (.nil _)))))⟩
          · rw [platesN_succ l0 hlt', List.map_append]; exact hB'
          · rw [wrap64 (by omega)]; rfl
        · refine WpV.seq (WpV.regionE (by simp only [go_sem, reduceCtorEq, Nat.reduceAdd, Nat.reduceMul, Nat.reduceSub, Nat.reduceLT, Nat.reduceLeDiff, Nat.reduceEqDiff, Nat.reduceBEq, Nat.reducePow, z0, t0, hv0, hvl, h1, h6]; rfl) (Marks.nil _) ?_)
          simp only [Vthen, VinBlock, if_true, if_false, Nat.reduceEqDiff, reduceCtorEq]
          refine WpV.cond rfl (fun hb => by cases hb) (fun hb => ?_)
          refine WpV.weaken (fr' := [(5, .cp vc 0), (7, .cp c.cells 0), (8, vrows false fl rs), (9, v), (10, vint k)]) ?_ (Sub.cons rfl rfl (Sub.cons rfl rfl (Sub.cons rfl rfl (Sub.cons rfl rfl (Sub.cons rfl rfl (Sub.nil _))))))
          refine WpV.pre (hend (by omega) rfl) (Marks.nil _) (WpV.exit ?_)
          simp only [Vthen, VinBlock, if_true, if_false, Nat.reduceEqDiff, reduceCtorEq]
          exact ⟨by first | rfl | trivial, by first | rfl | trivial, Sub.cons rfl rfl (Sub.cons rfl rfl (Sub.cons rfl rfl (Sub.cons rfl rfl (Sub.nil _))))⟩
      · refine WpV.seq (WpV.regionE (by simp only [go_sem, reduceCtorEq, Nat.reduceAdd, Nat.reduceMul, Nat.reduceSub, Nat.reduceLT, Nat.reduceLeDiff, Nat.reduceEqDiff, Nat.reduceBEq, Nat.reducePow, z0, t0, hv0, hvl, h1]; rfl) (Marks.nil _) ?_)
        simp only [Vthen, VinBlock, if_true, if_false, Nat.reduceEqDiff, reduceCtorEq]
        refine WpV.cond rfl (fun hb => by cases hb) (fun hb => ?_)
        refine WpV.weaken (fr' := [(5, .cp vc 0), (7, .cp c.cells 0), (8, vrows false fl rs), (9, v), (10, vint k)]) ?_ (Sub.cons rfl rfl (Sub.cons rfl rfl (Sub.cons rfl rfl (Sub.cons rfl rfl (Sub.cons rfl rfl (Sub.nil _))))))
        refine WpV.pre (hend (by omega) rfl) (Marks.nil _) (WpV.exit ?_)
        simp only [Vthen, VinBlock, if_true, if_false, Nat.reduceEqDiff, reduceCtorEq]
        exact ⟨by first | rfl | trivial, by first | rfl | trivial, Sub.cons rfl rfl (Sub.cons rfl rfl (Sub.cons rfl rfl (Sub.cons rfl rfl (Sub.nil _))))⟩
  have hp6 : (platesN l0 (min l0.length 6)).length ≤ 6 := by rw [platesN_len l0 hml]; exact hm6
  have hpx : ∀ y ∈ platesN l0 (min l0.length 6), 1 ≤ y ∧ y ≤ 256 := fun y hy => by
    unfold platesN at hy
    obtain ⟨n, hn, rfl⟩ := List.mem_map.1 hy
    have := hb0 n (List.mem_of_mem_take hn)
    unfold Byte at this
    omega
  generalize platesN l0 (min l0.length 6) = ps at hp6 hpx ⊢
  generalize hpc : decide (ps.length = 0) = pc
  -- what is picked
  have hdn := own_any H c hcV.ok
  have hli := lists_copy H false fl rs (by omega) (fun r hr => by have := (hrs r hr).2.1; omega)
  have hip := ints_any H false pc ps (by omega)
  have hcl : (rs.map copyR).length = rs.length := List.length_map ..
  have hws' : (rs.map copyR).map (·.2.2) = rs.map (·.2.2) := by rw [List.map_map]; rfl
  have hPk := Pick_any H c.own (own_valid hcV) false (decide (rs.length = 0)) false (decide (ps.length = 0)) (rs.map copyR) ps (by omega) hp6 (by
    rw [Cs.wordsB, List.all_eq_true]
    intro r hr
    obtain ⟨r', hr', rfl⟩ := List.mem_map.1 hr
    exact Cs.word_iff.2 (hrs r' hr')) (fun y hy => by have := hpx y hy; omega)
  rw [hws', hcl, picks_own] at hPk
  have hPk' : CallV Tryz.prog 32 [.agg c.own.cells, vrows false (decide (rs.length = 0)) (rs.map copyR), vints false (decide (ps.length = 0)) ps] H (fun r H' => r = pickV (pickF ps (picksN c (rs.map (·.2.2)) ps rs.length [])) ∧ H' = H) := hPk
  clear hPk
  generalize hws : rs.map (·.2.2) = ws at hPk'
  have hgd : ∀ i, (hi : i < rs.length) → ws.getD i [] = rs[i].2.2 := fun i hi => by rw [← hws]; simp [List.getD_eq_getElem?_getD, hi]
  obtain ⟨pk, nlp, clp, e, hpV, hpL, hpP, hpE⟩ : ∃ (pk : List Int) (nlp clp : Bool) (e : Int), pickV (pickF ps (picksN c ws ps rs.length [])) = .tup [vints nlp clp pk, vint e] ∧ pk.length ≤ rs.length ∧ PickOk c ws ps pk ∧
      ((e = 9 ∧ pk = [] ∧ ∀ x : List Int, x.length = rs.length → ¬ PickOk c ws ps x) ∨
       (e = 0 ∧ pk.length = rs.length ∧ ∀ x : List Int, x.length = rs.length → PickOk c ws ps x → pickLen ps pk ≤ pickLen ps x ∧ (pickLen ps x = pickLen ps pk → lessF x pk = false))) := by
    cases hp : pickF ps (picksN c ws ps rs.length []) with
    | none => exact ⟨[], true, true, 9, rfl, Nat.zero_le _, PickOk.nil _ _ _, .inl ⟨rfl, rfl, pick_lost hp⟩⟩
    | some r =>
      obtain ⟨h1, h2, -, h4⟩ := pick_found hp
      exact ⟨r.1, r.1.isEmpty, r.1.isEmpty, 0, rfl, by omega, h2, .inr ⟨rfl, h1, h4⟩⟩
  rw [hpV] at hPk'
  refine WpV.seq (WpV.region ?_)
  refine WpOps.take 1 (by simp only [go_sem, reduceCtorEq, Nat.reduceAdd, Nat.reduceMul, Nat.reduceSub, Nat.reduceLT, Nat.reduceLeDiff, Nat.reduceEqDiff, Nat.reduceBEq, Nat.reducePow]; rfl) ?_
  refine WpOps.step (by rfl) (by rfl) (OpW.callY rfl (by rfl) (by rfl) (by rfl) (enters_of Tryz.func11 (by kernel_rfl) rfl) ((hdn).mono ?_))
  rintro _ _ ⟨rfl, hH⟩
  replace hH := hH.symm
  subst hH
  refine WpOps.take 1 (by simp only [go_sem, reduceCtorEq, Nat.reduceAdd, Nat.reduceMul, Nat.reduceSub, Nat.reduceLT, Nat.reduceLeDiff, Nat.reduceEqDiff, Nat.reduceBEq, Nat.reducePow]; rfl) ?_
  refine WpOps.step (by rfl) (by rfl) (OpW.callY rfl (by rfl) (by rfl) (by rfl) (enters_of Tryz.func30 (by kernel_rfl) rfl) ((hli).mono ?_))
  rintro _ _ ⟨rfl, hH⟩
  replace hH := hH.symm
  subst hH
  refine WpOps.take 1 (by simp only [go_sem, reduceCtorEq, Nat.reduceAdd, Nat.reduceMul, Nat.reduceSub, Nat.reduceLT, Nat.reduceLeDiff, Nat.reduceEqDiff, Nat.reduceBEq, Nat.reducePow]; rfl) ?_
  refine WpOps.step (by rfl) (by rfl) (OpW.callY rfl (by rfl) (by rfl) (by rfl) (enters_of Tryz.func12 (by kernel_rfl) rfl) ((hip).mono ?_))
  rintro _ _ ⟨rfl, hH⟩
  replace hH := hH.symm
  subst hH
  refine WpOps.step (by rfl) (by rfl) (OpW.callY rfl (by rfl) (by rfl) (by rfl) (enters_of Tryz.func32 (by kernel_rfl) rfl) ((hPk').mono ?_))
  rintro _ _ ⟨rfl, hH⟩
  replace hH := hH.symm
  subst hH
  refine WpOps.take 5 (by simp only [go_sem, reduceCtorEq, Nat.reduceAdd, Nat.reduceMul, Nat.reduceSub, Nat.reduceLT, Nat.reduceLeDiff, Nat.reduceEqDiff, Nat.reduceBEq, Nat.reducePow]; rfl) (WpOps.nil ⟨Marks.nil _, ?_⟩)
  simp only [Vthen, VinBlock, if_true, if_false, Nat.reduceEqDiff, reduceCtorEq]
  have hpk5 : pk.length ≤ 5 := by omega
  refine WpV.seqS [(5, .cp vc 0), (7, .cp c.cells 0), (8, vrows false fl rs), (9, vints false pc ps), (11, vints nlp clp pk), (12, vint e)] ?_ ?_
  · have n99 : ((9 : Int) != 0) = true := rfl
    have n9 : ((9 : Int) != 9) = false := rfl
    have n00 : ((0 : Int) != 0) = false := rfl
    have e90 : ((9 : Int) == 0) = false := rfl
    have e00 : ((0 : Int) == 0) = true := rfl
    rcases hpE with ⟨rfl, rfl, -⟩ | ⟨rfl, h2, -⟩
    · have l0' : (((([] : List Int).length : Nat) : Int) != 0) = false := rfl
      refine WpV.seq (WpV.region ?_)
      refine WpOps.take 8 (by simp only [go_sem, reduceCtorEq, Nat.reduceAdd, Nat.reduceMul, Nat.reduceSub, Nat.reduceLT, Nat.reduceLeDiff, Nat.reduceEqDiff, Nat.reduceBEq, Nat.reducePow, n99, n9, e90, l0']; rfl) ?_
      refine WpOps.take 8 (by simp only [go_sem, reduceCtorEq, Nat.reduceAdd, Nat.reduceMul, Nat.reduceSub, Nat.reduceLT, Nat.reduceLeDiff, Nat.reduceEqDiff, Nat.reduceBEq, Nat.reducePow, n99, n9, e90, l0']; rfl) ?_
      refine WpOps.take 6 (by simp only [go_sem, reduceCtorEq, Nat.reduceAdd, Nat.reduceMul, Nat.reduceSub, Nat.reduceLT, Nat.reduceLeDiff, Nat.reduceEqDiff, Nat.reduceBEq, Nat.reducePow, n99, n9, e90, l0']; rfl) (WpOps.nil ⟨Marks.nil _, ?_⟩)
      simp only [Vthen, VinBlock, if_true, if_false, Nat.reduceEqDiff, reduceCtorEq]
      refine WpV.cond rfl (fun hb => by cases hb) (fun hb => WpV.skip ?_)
      simp only [Vthen, VinBlock, if_true, if_false, Nat.reduceEqDiff, reduceCtorEq]
      exact ⟨by first | rfl | trivial, by first | rfl | trivial, Sub.cons rfl rfl (Sub.cons rfl rfl (Sub.cons rfl rfl (Sub.cons rfl rfl (Sub.cons rfl rfl (Sub.cons rfl rfl (Sub.nil _))))))⟩
    · have nn : ((pk.length : Int) != (rs.length : Int)) = false := by rw [h2]; simp
      refine WpV.seq (WpV.region ?_)
      refine WpOps.take 8 (by simp only [go_sem, reduceCtorEq, Nat.reduceAdd, Nat.reduceMul, Nat.reduceSub, Nat.reduceLT, Nat.reduceLeDiff, Nat.reduceEqDiff, Nat.reduceBEq, Nat.reducePow, n00, e00, nn]; rfl) ?_
      refine WpOps.take 8 (by simp only [go_sem, reduceCtorEq, Nat.reduceAdd, Nat.reduceMul, Nat.reduceSub, Nat.reduceLT, Nat.reduceLeDiff, Nat.reduceEqDiff, Nat.reduceBEq, Nat.reducePow, n00, e00, nn]; rfl) ?_
      refine WpOps.take 6 (by simp only [go_sem, reduceCtorEq, Nat.reduceAdd, Nat.reduceMul, Nat.reduceSub, Nat.reduceLT, Nat.reduceLeDiff, Nat.reduceEqDiff, Nat.reduceBEq, Nat.reducePow, n00, e00, nn]; rfl) (WpOps.nil ⟨Marks.nil _, ?_⟩)
      simp only [Vthen, VinBlock, if_true, if_false, Nat.reduceEqDiff, reduceCtorEq]
      refine WpV.cond rfl (fun hb => by cases hb) (fun hb => WpV.skip ?_)
      simp only [Vthen, VinBlock, if_true, if_false, Nat.reduceEqDiff, reduceCtorEq]
      exact ⟨by first | rfl | trivial, by first | rfl | trivial, Sub.cons rfl rfl (Sub.cons rfl rfl (Sub.cons rfl rfl (Sub.cons rfl rfl (Sub.cons rfl rfl (Sub.cons rfl rfl (Sub.nil _))))))⟩
  have hpr := hpP.rng
  -- each plate is used once
  have hdrop : ∀ (iu : Nat), H iu = none → ∀ o, (H.set iu o).set iu none = H := fun iu h o => by rw [Hp.set_set, Hp.set_same _ _ _ h]
  have hnd : ∀ (H : Hp) (i : Nat) (hi : i < rs.length), CallV Tryz.prog 13 [.agg c.cells, vints rs[i].1 rs[i].2.1 rs[i].2.2] H (fun r H' => r = vint (c.needF [ws.getD i []]) ∧ H' = H) := fun H i hi => by
    rw [hgd i hi]; exact needs_any H c hcV _ _ _ (hrs _ (List.getElem_mem _))
  have hgr : ∀ (i : Nat) (hi : i < rs.length), (rs.map rowV)[i]? = some (vints rs[i].1 rs[i].2.1 rs[i].2.2) := fun i hi => by simp [hi, rowV]
  refine WpV.seq (WpV.region ?_)
  refine WpOps.take 1 (by simp only [go_sem, reduceCtorEq, Nat.reduceAdd, Nat.reduceMul, Nat.reduceSub, Nat.reduceLT, Nat.reduceLeDiff, Nat.reduceEqDiff, Nat.reduceBEq, Nat.reducePow]; rfl) ?_
  refine WpOps.step (by rfl) (by rfl) (OpW.alloc rfl (Tryz.ze68) (fun iu fu => ?_))
  refine WpOps.take 1 (by simp only [go_sem, reduceCtorEq, Nat.reduceAdd, Nat.reduceMul, Nat.reduceSub, Nat.reduceLT, Nat.reduceLeDiff, Nat.reduceEqDiff, Nat.reduceBEq, Nat.reducePow]; rfl) ?_
  refine WpOps.step (by rfl) (by rfl) (OpW.store (ty := 68) (id := iu) (ver := 0) (off := 0) rfl (by simp only [go_sem, reduceCtorEq, Nat.reduceAdd, Nat.reduceMul, Nat.reduceSub, Nat.reduceLT, Nat.reduceLeDiff, Nat.reduceEqDiff, Nat.reduceBEq, Nat.reducePow]; try rfl) (by simp only [go_sem, reduceCtorEq, Nat.reduceAdd, Nat.reduceMul, Nat.reduceSub, Nat.reduceLT, Nat.reduceLeDiff, Nat.reduceEqDiff, Nat.reduceBEq, Nat.reducePow]; try rfl) (Hp.set_eq _ _ _) (by simp only [go_sem, reduceCtorEq, Nat.reduceAdd, Nat.reduceMul, Nat.reduceSub, Nat.reduceLT, Nat.reduceLeDiff, Nat.reduceEqDiff, Nat.reduceBEq, Nat.reducePow]; try rfl) (by exact Tryz.sz68) (by simp) ?_)
  refine WpOps.nil ⟨Marks.nil _, ?_⟩
  rw [Hp.set_set]
  simp only [putC, List.take_zero, List.nil_append, List.length_cons, List.length_nil, Nat.zero_add, List.drop_succ_cons, List.drop_zero, List.append_nil]
  rw [← usedC_nil]
  simp only [Vthen, VinBlock, if_true, if_false, Nat.reduceEqDiff, reduceCtorEq]
  refine WpV.seqT [(5, .cp vc 0), (7, .cp c.cells 0), (8, vrows false fl rs), (9, vints false pc ps), (11, vints nlp clp pk), (12, vint e), (13, vint (pickLen ps pk))] H ?_ ?_
  · refine WpV.seq (WpV.regionE (by simp only [go_sem, reduceCtorEq, Nat.reduceAdd, Nat.reduceMul, Nat.reduceSub, Nat.reduceLT, Nat.reduceLeDiff, Nat.reduceEqDiff, Nat.reduceBEq, Nat.reducePow]; rfl) (Marks.nil _) ?_)
    simp only [Vthen, VinBlock, if_true, if_false, Nat.reduceEqDiff, reduceCtorEq]
    refine WpV.block (WpV.loopN pk.length (fun k => [(5, .cp vc 0), (7, .cp c.cells 0), (8, vrows false fl rs), (9, vints false pc ps), (11, vints nlp clp pk), (12, vint e), (13, vint (pickLen ps (pk.take k))), (14, .rp iu 0 0), (15, vint k)]) (fun k => H.set iu (some (.cells 68 0 (usedC (pk.take k))))) ?_ ?_ ?_)
    · exact .cons rfl rfl (.cons rfl rfl (.cons rfl rfl (.cons rfl rfl (.cons rfl rfl (.cons rfl rfl (.cons rfl rfl (.cons rfl rfl (.cons rfl rfl (.nil _)))))))))
    · rfl
    · intro k hk
      refine WpV.seq ?_
      refine WpV.seq (WpV.regionE (by simp only [go_sem, reduceCtorEq, Nat.reduceAdd, Nat.reduceMul, Nat.reduceSub, Nat.reduceLT, Nat.reduceLeDiff, Nat.reduceEqDiff, Nat.reduceBEq, Nat.reducePow]; rfl) (Marks.nil _) ?_)
      simp only [Vthen, VinBlock, if_true, if_false, Nat.reduceEqDiff, reduceCtorEq]
      refine WpV.cond rfl (fun hb => WpV.skip ?_) (fun hb => ?_)
      · have hlt : (k : Int) < (pk.length : Int) := of_decide_eq_true ‹_›
        have hlt' : k < pk.length := by omega
        have hkr : (k : Int) < (rs.length : Int) := by omega
        have hgy := ints_get pk hlt'
        have hyr := hpr pk[k] (List.getElem_mem _)
        have hgdy : pk.getD k 0 = pk[k] := by simp [List.getD_eq_getElem?_getD, hlt']
        have hfit := hpP.fit k hlt'
        rw [hgdy] at hfit
        have htk1 : pk.take (k + 1) = pk.take k ++ [pk[k]] := by rw [List.take_add_one, List.getElem?_eq_getElem hlt']; rfl
        have hnot : contB (pk.take k) pk[k] = false := by
          cases ec : contB (pk.take k) pk[k] with
          | false => rfl
          | true =>
            exfalso
            have hm := contB_iff.1 ec
            have hnd2 : (pk.take k ++ [pk[k]]).Nodup := by rw [← htk1]; exact hpP.nodup.sublist (List.take_sublist _ _)
            exact (List.nodup_append.1 hnd2).2.2 _ hm _ (by simp) rfl
        obtain ⟨q1, q2, q3⟩ := plate_in hpx hyr.1 hyr.2
        have hpl := pickLen_in hpx (b := pk.take k) (fun z hz => hpr z (List.mem_of_mem_take hz))
        have hpl5 : (pk.take k).length ≤ 5 := by simp; omega
        rw [htk1, pickLen_snoc]
        obtain ⟨hy0, hyl⟩ := hyr
        have hy6 : pk[k] < 6 := by omega
        have hset := usedC_set (o := pk.take k) hy0 hy6
        have hat := usedC_at (o := pk.take k) hy0 hy6
        rw [hnot] at hat
        have hul := usedC_len (pk.take k)
        generalize usedC (pk.take k) = U at *
        generalize hs1 : pickLen ps (pk.take k) = s1 at *
        generalize pk[k] = y at *
        generalize hn1 : (pk.take k).length = n1 at *
        have hy0' : ¬ (y < 0) := by omega
        have hyl' : ¬ (y ≥ (ps.length : Int)) := by omega
        have hy6' : y < ((6 : Nat) : Int) := by omega
        have hgt : ¬ (c.needF [ws.getD k []] > plateOf ps y) := by omega
        have hwr : IntKind.i64.wrap (s1 + plateOf ps y) = s1 + plateOf ps y := wrap64 (by omega)
        have hgrk := hgr k (by omega)
        have hndk := hnd (H.set iu (some (.cells 68 0 U))) k (by omega)
        simp only [Vthen, VinBlock, if_true, if_false, Nat.reduceEqDiff, reduceCtorEq]
        refine WpV.seq (WpV.block ?_)
        refine WpV.seq ?_
        refine WpV.seq (WpV.regionD Tryz.mixed (by kernel_rfl) (by kernel_rfl) ?_)
        refine LexD.take 8 (by rfl) (by simp only [go_sem, reduceCtorEq, Nat.reduceAdd, Nat.reduceMul, Nat.reduceSub, Nat.reduceLT, Nat.reduceLeDiff, Nat.reduceEqDiff, Nat.reduceBEq, Nat.reducePow, hlt, hgy, hy0, hy0', hyl, hyl', hy6', hat, hkr, hgrk, q3, hgt]; rfl) ?_
        refine LexD.take 8 (by rfl) (by simp only [go_sem, reduceCtorEq, Nat.reduceAdd, Nat.reduceMul, Nat.reduceSub, Nat.reduceLT, Nat.reduceLeDiff, Nat.reduceEqDiff, Nat.reduceBEq, Nat.reducePow, hlt, hgy, hy0, hy0', hyl, hyl', hy6', hat, hkr, hgrk, q3, hgt]; rfl) ?_
        refine LexD.take 8 (by rfl) (by simp only [go_sem, reduceCtorEq, Nat.reduceAdd, Nat.reduceMul, Nat.reduceSub, Nat.reduceLT, Nat.reduceLeDiff, Nat.reduceEqDiff, Nat.reduceBEq, Nat.reducePow, hlt, hgy, hy0, hy0', hyl, hyl', hy6', hat, hkr, hgrk, q3, hgt]; rfl) ?_
        refine LexD.take 4 (by rfl) (by simp only [go_sem, reduceCtorEq, Nat.reduceAdd, Nat.reduceMul, Nat.reduceSub, Nat.reduceLT, Nat.reduceLeDiff, Nat.reduceEqDiff, Nat.reduceBEq, Nat.reducePow, hlt, hgy, hy0, hy0', hyl, hyl', hy6', hat, hkr, hgrk, q3, hgt]; rfl) ?_
        refine LexD.step (by rfl) (by rfl) (OpW.callY rfl (by rfl) (by rfl) (by rfl) (enters_of Tryz.func13 (by kernel_rfl) rfl) (hndk)) ?_
        refine LexD.take 8 (by rfl) (by simp only [go_sem, reduceCtorEq, Nat.reduceAdd, Nat.reduceMul, Nat.reduceSub, Nat.reduceLT, Nat.reduceLeDiff, Nat.reduceEqDiff, Nat.reduceBEq, Nat.reducePow, hlt, hgy, hy0, hy0', hyl, hyl', hy6', hat, hkr, hgrk, q3, hgt]; rfl) ?_
        refine LexD.take 1 (by rfl) (by simp only [go_sem, reduceCtorEq, Nat.reduceAdd, Nat.reduceMul, Nat.reduceSub, Nat.reduceLT, Nat.reduceLeDiff, Nat.reduceEqDiff, Nat.reduceBEq, Nat.reducePow, hlt, hgy, hy0, hy0', hyl, hyl', hy6', hat, hkr, hgrk, q3, hgt]; rfl) (LexD.nilE ⟨Marks.nil _, ?_⟩)
        simp only [Vthen, VinBlock, if_true, if_false, Nat.reduceEqDiff, reduceCtorEq]
        refine WpV.cond rfl (fun hb => by cases hb) (fun hb => WpV.skip ?_)
        simp only [Vthen, VinBlock, if_true, if_false, Nat.reduceEqDiff, reduceCtorEq]
        refine WpV.seq (WpV.region ?_)
        refine WpOps.take 5 (by simp only [go_sem, reduceCtorEq, Nat.reduceAdd, Nat.reduceMul, Nat.reduceSub, Nat.reduceLT, Nat.reduceLeDiff, Nat.reduceEqDiff, Nat.reduceBEq, Nat.reducePow, hlt, hgy, hy0, hy6']; rfl) ?_
        refine WpOps.step (by rfl) (by rfl) (OpW.store (ty := 68) (id := iu) (ver := 0) (off := y.toNat) (cs := U) rfl (by simp only [go_sem, reduceCtorEq, Nat.reduceAdd, Nat.reduceMul, Nat.reduceSub, Nat.reduceLT, Nat.reduceLeDiff, Nat.reduceEqDiff, Nat.reduceBEq, Nat.reducePow]; try rfl) (by simp only [go_sem, reduceCtorEq, Nat.reduceAdd, Nat.reduceMul, Nat.reduceSub, Nat.reduceLT, Nat.reduceLeDiff, Nat.reduceEqDiff, Nat.reduceBEq, Nat.reducePow]; try rfl) (Hp.set_eq _ _ _) (by simp only [go_sem, reduceCtorEq, Nat.reduceAdd, Nat.reduceMul, Nat.reduceSub, Nat.reduceLT, Nat.reduceLeDiff, Nat.reduceEqDiff, Nat.reduceBEq, Nat.reducePow]; try rfl) (by exact Tryz.sz4) (by simp; omega) ?_)
        refine WpOps.nil ⟨Marks.nil _, ?_⟩
        rw [Hp.set_set, hset]
        simp only [Vthen, VinBlock, if_true, if_false, Nat.reduceEqDiff, reduceCtorEq]
        refine WpV.regionE (by simp only [go_sem, reduceCtorEq, Nat.reduceAdd, Nat.reduceMul, Nat.reduceSub, Nat.reduceLT, Nat.reduceLeDiff, Nat.reduceEqDiff, Nat.reduceBEq, Nat.reducePow, hlt, hgy, hy0, hyl, q3, hwr]; rfl) (Marks.nil _) ?_
        simp only [Vthen, VinBlock, if_true, if_false, Nat.reduceEqDiff, reduceCtorEq]
        refine WpV.regionE (by simp only [go_sem, reduceCtorEq, Nat.reduceAdd, Nat.reduceMul, Nat.reduceSub, Nat.reduceLT, Nat.reduceLeDiff, Nat.reduceEqDiff, Nat.reduceBEq, Nat.reducePow]; rfl) (Marks.nil _) ?_
        simp only [Vthen, VinBlock, if_true, if_false, Nat.reduceEqDiff, reduceCtorEq]
        refine ⟨by first | rfl | trivial, hlt', .cons rfl rfl (.cons rfl rfl (.cons rfl rfl (.cons rfl rfl (.cons rfl rfl (.cons rfl rfl (.cons rfl rfl (.cons rfl rfl (.cons rfl ?_ (.nil _))))))))), by first | rfl | trivial⟩
        rw [wrap64 (by omega)]; rfl
      · have hge : k = pk.length := by have := of_decide_eq_false ‹_›; omega
        subst hge
        rw [List.take_length]
        refine WpV.pre (Frz.drop _ _ iu) (Marks.nil _) (WpV.exit ?_)
        rw [hdrop iu fu]
        simp only [Vthen, VinBlock, if_true, if_false, Nat.reduceEqDiff, reduceCtorEq]
        exact ⟨by first | rfl | trivial, by first | rfl | trivial, Sub.cons rfl rfl (Sub.cons rfl rfl (Sub.cons rfl rfl (Sub.cons rfl rfl (Sub.cons rfl rfl (Sub.cons rfl rfl (Sub.cons rfl rfl (Sub.nil _)))))))⟩
  -- plates by bytes
  refine WpV.seq (WpV.region ?_)
  refine WpOps.take 2 (by simp only [go_sem, reduceCtorEq, Nat.reduceAdd, Nat.reduceMul, Nat.reduceSub, Nat.reduceLT, Nat.reduceLeDiff, Nat.reduceEqDiff, Nat.reduceBEq, Nat.reducePow]; rfl) ?_
  refine WpOps.step (by rfl) (by rfl) (OpW.alloc rfl (Tryz.ze68) (fun it ft => ?_))
  refine WpOps.take 2 (by simp only [go_sem, reduceCtorEq, Nat.reduceAdd, Nat.reduceMul, Nat.reduceSub, Nat.reduceLT, Nat.reduceLeDiff, Nat.reduceEqDiff, Nat.reduceBEq, Nat.reducePow]; rfl) ?_
  refine WpOps.step (by rfl) (by rfl) (OpW.store (ty := 68) (id := it) (ver := 0) (off := 0) rfl (by simp only [go_sem, reduceCtorEq, Nat.reduceAdd, Nat.reduceMul, Nat.reduceSub, Nat.reduceLT, Nat.reduceLeDiff, Nat.reduceEqDiff, Nat.reduceBEq, Nat.reducePow]; try rfl) (by simp only [go_sem, reduceCtorEq, Nat.reduceAdd, Nat.reduceMul, Nat.reduceSub, Nat.reduceLT, Nat.reduceLeDiff, Nat.reduceEqDiff, Nat.reduceBEq, Nat.reducePow]; try rfl) (Hp.set_eq _ _ _) (by simp only [go_sem, reduceCtorEq, Nat.reduceAdd, Nat.reduceMul, Nat.reduceSub, Nat.reduceLT, Nat.reduceLeDiff, Nat.reduceEqDiff, Nat.reduceBEq, Nat.reducePow]; try rfl) (by exact Tryz.sz68) (by simp) ?_)
  refine WpOps.nil ⟨Marks.nil _, ?_⟩
  rw [Hp.set_set]
  simp only [putC, List.take_zero, List.nil_append, List.length_cons, List.length_nil, Nat.zero_add, List.drop_succ_cons, List.drop_zero, List.append_nil]
  rw [← usedC_nil]
  simp only [Vthen, VinBlock, if_true, if_false, Nat.reduceEqDiff, reduceCtorEq]
  refine WpV.seq ?_
  refine WpV.seq (WpV.regionE (by simp only [go_sem, reduceCtorEq, Nat.reduceAdd, Nat.reduceMul, Nat.reduceSub, Nat.reduceLT, Nat.reduceLeDiff, Nat.reduceEqDiff, Nat.reduceBEq, Nat.reducePow]; rfl) (Marks.nil _) ?_)
  simp only [Vthen, VinBlock, if_true, if_false, Nat.reduceEqDiff, reduceCtorEq]
  refine WpV.block (WpV.loop (ι := { q : Nat × List Int × AV × Hp // q.1 ≤ rs.length ∧ Oth c ws ps q.1 q.2.1 ∧ Bld (H.set it (some (.cells 68 0 (usedC q.2.1)))) 3 1 false q.2.1.length (q.2.1.map vint) q.2.2.1 q.2.2.2 })
    (fun q => [(5, .cp vc 0), (7, .cp c.cells 0), (8, vrows false fl rs), (9, vints false pc ps), (11, vints nlp clp pk), (12, vint e), (13, vint (pickLen ps pk)), (16, q.1.2.2.1), (17, vint (pickLen ps q.1.2.1)), (18, .rp it 0 0), (19, vint q.1.1)]) (fun q => q.1.2.2.2) (fun q => rs.length - q.1.1)
    ⟨(0, [], .sl false true 0 [], H.set it (some (.cells 68 0 (usedC [])))), Nat.zero_le _, ⟨Nat.le_refl _, fun y hy => (by cases hy), List.nodup_nil, fun _ => PickOk.nil _ _ _⟩, Bld.nil _ 3 1 false⟩ ?_ rfl ?_)
  · exact (Sub.cons rfl rfl (Sub.cons rfl rfl (Sub.cons rfl rfl (Sub.cons rfl rfl (Sub.cons rfl rfl (Sub.cons rfl rfl (Sub.cons rfl rfl (Sub.cons rfl rfl (Sub.cons rfl rfl (Sub.cons rfl rfl (Sub.cons rfl rfl (Sub.nil _))))))))))))
  rintro ⟨⟨i, o, v, H1⟩, hi, hO, hB⟩
  simp only at hi hO hB ⊢
  have hit : H1 it = some (.cells 68 0 (usedC o)) := hB.get (Hp.set_eq _ _ _)
  have hol := hO.len
  refine WpV.seq ?_
  refine WpV.seq (WpV.regionE (by simp only [go_sem, reduceCtorEq, Nat.reduceAdd, Nat.reduceMul, Nat.reduceSub, Nat.reduceLT, Nat.reduceLeDiff, Nat.reduceEqDiff, Nat.reduceBEq, Nat.reducePow]; rfl) (Marks.nil _) ?_)
  simp only [Vthen, VinBlock, if_true, if_false, Nat.reduceEqDiff, reduceCtorEq]
  refine WpV.cond rfl (fun hb => WpV.skip ?_) (fun hb => ?_)
  · have hltI : (i : Int) < (rs.length : Int) := of_decide_eq_true ‹_›
    have hlti : i < rs.length := by omega
    have hni : IntKind.i64.wrap ((i : Int) + 1) = ((i + 1 : Nat) : Int) := by rw [wrap64 (by omega)]; rfl
    have hgri := hgr i hlti
    simp only [Vthen, VinBlock, if_true, if_false, Nat.reduceEqDiff, reduceCtorEq]
    refine WpV.seq (WpV.block ?_)
    refine WpV.seq (WpV.regionE (by simp only [go_sem, reduceCtorEq, Nat.reduceAdd, Nat.reduceMul, Nat.reduceSub, Nat.reduceLT, Nat.reduceLeDiff, Nat.reduceEqDiff, Nat.reduceBEq, Nat.reducePow]; rfl) (Marks.nil _) ?_)
    simp only [Vthen, VinBlock, if_true, if_false, Nat.reduceEqDiff, reduceCtorEq]
    refine WpV.block (WpV.loopN ps.length (fun k => [(5, .cp vc 0), (7, .cp c.cells 0), (8, vrows false fl rs), (9, vints false pc ps), (11, vints nlp clp pk), (12, vint e), (13, vint (pickLen ps pk)), (16, v), (17, vint (pickLen ps o)), (18, .rp it 0 0), (19, vint i), (20, vint k)]) (fun _ => H1) ?_ rfl ?_)
    · exact (Sub.cons rfl rfl (Sub.cons rfl rfl (Sub.cons rfl rfl (Sub.cons rfl rfl (Sub.cons rfl rfl (Sub.cons rfl rfl (Sub.cons rfl rfl (Sub.cons rfl rfl (Sub.cons rfl rfl (Sub.cons rfl rfl (Sub.cons rfl rfl (Sub.cons rfl rfl (Sub.nil _)))))))))))))
    · intro k hk
      refine WpV.seq ?_
      refine WpV.seq (WpV.regionE (by simp only [go_sem, reduceCtorEq, Nat.reduceAdd, Nat.reduceMul, Nat.reduceSub, Nat.reduceLT, Nat.reduceLeDiff, Nat.reduceEqDiff, Nat.reduceBEq, Nat.reducePow]; rfl) (Marks.nil _) ?_)
      simp only [Vthen, VinBlock, if_true, if_false, Nat.reduceEqDiff, reduceCtorEq]
      refine WpV.cond rfl (fun hb => WpV.skip ?_) (fun hb => WpV.exit ?_)
      · have hltk : (k : Int) < (ps.length : Int) := of_decide_eq_true ‹_›
        have hltk' : k < ps.length := by omega
        have hnk : IntKind.i64.wrap ((k : Int) + 1) = ((k + 1 : Nat) : Int) := by rw [wrap64 (by omega)]; rfl
        obtain ⟨p, hp, hpE'⟩ : ∃ p : Nat, p < ps.length ∧ (if i < l1.length then ((k : Int) + l1.getD i 0).tmod (ps.length : Int) else (k : Int)) = (p : Int) := by
          split
          · rename_i h1
            have hbb := hb1 _ (getD_mem (xs := l1) h1)
            unfold Byte at hbb
            have e1 := Int.tmod_eq_emod_of_nonneg (a := (k : Int) + l1.getD i 0) (b := (ps.length : Int)) (by omega)
            have h2 := Int.emod_nonneg ((k : Int) + l1.getD i 0) (b := (ps.length : Int)) (by omega)
            have h3 := Int.emod_lt_of_pos ((k : Int) + l1.getD i 0) (b := (ps.length : Int)) (by omega)
            exact ⟨(((k : Int) + l1.getD i 0).tmod (ps.length : Int)).toNat, by omega, by omega⟩
          · exact ⟨k, hltk', rfl⟩
        simp only [Vthen, VinBlock, if_true, if_false, Nat.reduceEqDiff, reduceCtorEq]
        refine WpV.seq (WpV.block ?_)
        refine WpV.seq (WpV.regionE (by simp only [go_sem, reduceCtorEq, Nat.reduceAdd, Nat.reduceMul, Nat.reduceSub, Nat.reduceLT, Nat.reduceLeDiff, Nat.reduceEqDiff, Nat.reduceBEq, Nat.reducePow]; rfl) (Marks.nil _) ?_)
        simp only [Vthen, VinBlock, if_true, if_false, Nat.reduceEqDiff, reduceCtorEq]
        refine WpV.seqS [(5, .cp vc 0), (7, .cp c.cells 0), (8, vrows false fl rs), (9, vints false pc ps), (11, vints nlp clp pk), (12, vint e), (13, vint (pickLen ps pk)), (16, v), (17, vint (pickLen ps o)), (18, .rp it 0 0), (19, vint i), (20, vint k), (21, vint (p : Int))] ?_ ?_
        · by_cases h1 : i < l1.length
          · rw [if_pos h1] at hpE'
            have hi1 : (i : Int) < (l1.length : Int) := by omega
            have hgb : (l1.map vbyte)[i]? = some (vbyte (l1.getD i 0)) := by simp [List.getD_eq_getElem?_getD, h1]
            have hbb := hb1 _ (getD_mem (xs := l1) h1)
            unfold Byte at hbb
            generalize l1.getD i 0 = bb at hgb hpE' hbb
            have hwb : IntKind.i64.wrap bb = bb := wrap64 (by omega)
            have hwk : IntKind.i64.wrap ((k : Int) + bb) = (k : Int) + bb := wrap64 (by omega)
            have hne : ¬ ((ps.length : Int) = 0) := by omega
            refine WpV.seq (WpV.regionE (by simp only [go_sem, reduceCtorEq, Nat.reduceAdd, Nat.reduceMul, Nat.reduceSub, Nat.reduceLT, Nat.reduceLeDiff, Nat.reduceEqDiff, Nat.reduceBEq, Nat.reducePow, z1, t1, hv1, hvl, hi1]; rfl) (Marks.nil _) ?_)
            simp only [Vthen, VinBlock, if_true, if_false, Nat.reduceEqDiff, reduceCtorEq]
            refine WpV.cond rfl (fun hb => ?_) (fun hb => by cases hb)
            refine WpV.regionE (by simp only [go_sem, reduceCtorEq, Nat.reduceAdd, Nat.reduceMul, Nat.reduceSub, Nat.reduceLT, Nat.reduceLeDiff, Nat.reduceEqDiff, Nat.reduceBEq, Nat.reducePow, z1, t1, hv1, hvl, hi1, hgb, hwb, hwk, hne, hpE']; rfl) (Marks.nil _) ?_
            simp only [Vthen, VinBlock, if_true, if_false, Nat.reduceEqDiff, reduceCtorEq]
            exact ⟨by first | rfl | trivial, by first | rfl | trivial, (Sub.cons rfl rfl (Sub.cons rfl rfl (Sub.cons rfl rfl (Sub.cons rfl rfl (Sub.cons rfl rfl (Sub.cons rfl rfl (Sub.cons rfl rfl (Sub.cons rfl rfl (Sub.cons rfl rfl (Sub.cons rfl rfl (Sub.cons rfl rfl (Sub.cons rfl rfl (Sub.cons rfl rfl (Sub.nil _))))))))))))))⟩
          · rw [if_neg h1] at hpE'
            have hi1 : ¬ ((i : Int) < (l1.length : Int)) := by omega
            refine WpV.seq (WpV.regionE (by simp only [go_sem, reduceCtorEq, Nat.reduceAdd, Nat.reduceMul, Nat.reduceSub, Nat.reduceLT, Nat.reduceLeDiff, Nat.reduceEqDiff, Nat.reduceBEq, Nat.reducePow, z1, t1, hv1, hvl, hi1]; rfl) (Marks.nil _) ?_)
            simp only [Vthen, VinBlock, if_true, if_false, Nat.reduceEqDiff, reduceCtorEq]
            refine WpV.cond rfl (fun hb => by cases hb) (fun hb => WpV.skip ?_)
            simp only [Vthen, VinBlock, if_true, if_false, Nat.reduceEqDiff, reduceCtorEq]
            exact ⟨by first | rfl | trivial, by first | rfl | trivial, (Sub.cons rfl rfl (Sub.cons rfl rfl (Sub.cons rfl rfl (Sub.cons rfl rfl (Sub.cons rfl rfl (Sub.cons rfl rfl (Sub.cons rfl rfl (Sub.cons rfl rfl (Sub.cons rfl rfl (Sub.cons rfl rfl (Sub.cons rfl rfl (Sub.cons rfl rfl (Sub.cons rfl (by rw [hpE']) (Sub.nil _))))))))))))))⟩
        have hpI : (p : Int) < (ps.length : Int) := by omega
        have hp6' : (p : Int) < ((6 : Nat) : Int) := by omega
        have hatp := usedC_at (o := o) (y := (p : Int)) (by omega) (by omega)
        rw [Int.toNat_natCast] at hatp
        obtain ⟨q1, q2, q3⟩ := plate_in hpx (y := (p : Int)) (by omega) hpI
        rw [Int.toNat_natCast] at q3
        cases hct : contB o (p : Int)
        · rw [hct] at hatp
          by_cases hf : c.needF [ws.getD i []] ≤ plateOf ps p
          · refine WpV.seq (WpV.regionD Tryz.mixed (by kernel_rfl) (by kernel_rfl) ?_)
            refine LexD.take 8 (by rfl) (by simp only [go_sem, reduceCtorEq, Nat.reduceAdd, Nat.reduceMul, Nat.reduceSub, Nat.reduceLT, Nat.reduceLeDiff, Nat.reduceEqDiff, Nat.reduceBEq, Nat.reducePow, hit, hp6', hatp, hltI, hgri, hpI, q3, hf]; rfl) ?_
            refine LexD.take 2 (by rfl) (by simp only [go_sem, reduceCtorEq, Nat.reduceAdd, Nat.reduceMul, Nat.reduceSub, Nat.reduceLT, Nat.reduceLeDiff, Nat.reduceEqDiff, Nat.reduceBEq, Nat.reducePow, hit, hp6', hatp, hltI, hgri, hpI, q3, hf]; rfl) ?_
            refine LexD.step (by rfl) (by rfl) (OpW.callY rfl (by rfl) (by rfl) (by rfl) (enters_of Tryz.func13 (by kernel_rfl) rfl) (hnd H1 i hlti)) ?_
            refine LexD.take 6 (by rfl) (by simp only [go_sem, reduceCtorEq, Nat.reduceAdd, Nat.reduceMul, Nat.reduceSub, Nat.reduceLT, Nat.reduceLeDiff, Nat.reduceEqDiff, Nat.reduceBEq, Nat.reducePow, hit, hp6', hatp, hltI, hgri, hpI, q3, hf]; rfl) (LexD.nilE ⟨Marks.nil _, ?_⟩)
            simp only [Vthen, VinBlock, if_true, if_false, Nat.reduceEqDiff, reduceCtorEq]
            refine WpV.cond rfl (fun hb => ?_) (fun hb => by cases hb)
            have hset := usedC_set (o := o) (y := (p : Int)) (by omega) (by omega)
            rw [Int.toNat_natCast] at hset
            refine WpV.seq (WpV.region ?_)
            refine WpOps.take 2 (by simp only [go_sem, reduceCtorEq, Nat.reduceAdd, Nat.reduceMul, Nat.reduceSub, Nat.reduceLT, Nat.reduceLeDiff, Nat.reduceEqDiff, Nat.reduceBEq, Nat.reducePow, hit, hp6']; rfl) ?_
            refine WpOps.step (by rfl) (by rfl) (OpW.store (ty := 68) (id := it) (ver := 0) (off := p) (cs := usedC o) rfl (by simp only [go_sem, reduceCtorEq, Nat.reduceAdd, Nat.reduceMul, Nat.reduceSub, Nat.reduceLT, Nat.reduceLeDiff, Nat.reduceEqDiff, Nat.reduceBEq, Nat.reducePow]; try rfl) (by simp only [go_sem, reduceCtorEq, Nat.reduceAdd, Nat.reduceMul, Nat.reduceSub, Nat.reduceLT, Nat.reduceLeDiff, Nat.reduceEqDiff, Nat.reduceBEq, Nat.reducePow]; try rfl) hit (by simp only [go_sem, reduceCtorEq, Nat.reduceAdd, Nat.reduceMul, Nat.reduceSub, Nat.reduceLT, Nat.reduceLeDiff, Nat.reduceEqDiff, Nat.reduceBEq, Nat.reducePow]; try rfl) (by exact Tryz.sz4) (by rw [usedC_len]; simp only [List.length_singleton]; omega) ?_)
            refine WpOps.nil ⟨Marks.nil _, ?_⟩
            rw [hset]
            have hB2 := hB.under (k := it) (Hp.set_eq _ _ _) (.cells 68 0 (usedC (o ++ [(p : Int)])))
            rw [Hp.set_set] at hB2
            have hO2 := hO.take hp hct hf
            have hpl := pickLen_in hpx (b := o) hO.rng
            have hwL : IntKind.i64.wrap (pickLen ps o + plateOf ps p) = pickLen ps (o ++ [(p : Int)]) := by rw [pickLen_snoc]; exact wrap64 (by omega)
            generalize hH2 : H1.set it _ = H2 at hB2 ⊢
            generalize hBs : H.set it (some (.cells 68 0 (usedC (o ++ [(p : Int)])))) = Bs at hB2
            simp only [Vthen, VinBlock, if_true, if_false, Nat.reduceEqDiff, reduceCtorEq]
            refine WpV.seqE (fun S H' => ∃ v', S = [(5, .cp vc 0), (7, .cp c.cells 0), (8, vrows false fl rs), (9, vints false pc ps), (11, vints nlp clp pk), (12, vint e), (13, vint (pickLen ps pk)), (16, v'), (17, vint (pickLen ps (o ++ [(p : Int)]))), (18, .rp it 0 0), (19, vint i)] ∧ Bld Bs 3 1 false (o ++ [(p : Int)]).length ((o ++ [(p : Int)]).map vint) v' H') ?_ ?_
            · obtain ⟨hb1', ⟨hm, ho, rfl, rfl⟩ | ⟨hm, id, ver, hid, rfl, rfl⟩⟩ := hB2
              · have ho' : o = [] := List.eq_nil_of_length_eq_zero hm
                subst ho'
                refine WpV.regionC (H := H2) Tryz.mixed (by kernel_rfl) (by kernel_rfl) (fun j => decide (j = 3)) (fun ids b => if b 3 = true then H2.set (ids 3) (some (.cells 3 0 [vint (p : Int)])) else H2) (fun ids => by simp) (fun ids ids' b hb => by
                  by_cases h : b 3 = true
                  · simp only [h, if_true, hb 3 (by simp) h]
                  · simp only [if_neg h]) (fun ids b j hj hb => by
                  have : j = 3 := of_decide_eq_true hj
                  subst this
                  simp [hb, Hp.set]) (fun ids b id _ hn => by
                  by_cases h : b 3 = true
                  · simp only [h, if_true, Hp.set] at hn
                    split at hn
                    · cases hn
                    · exact hn
                  · simpa only [if_neg h] using hn) ?_
                refine LexC.pure (by rfl) (by rfl) (fun _ => rfl) (fun ids b _ => by simp [upd]) (fun ids b _ => OpW.evX (by simp only [go_sem, reduceCtorEq, Nat.reduceAdd, Nat.reduceMul, Nat.reduceSub, Nat.reduceLT, Nat.reduceLeDiff, Nat.reduceEqDiff, Nat.reduceBEq, Nat.reducePow]; rfl)) ?_
                refine LexC.pure (by rfl) (by rfl) (fun _ => rfl) (fun ids b _ => by simp [upd]) (fun ids b _ => OpW.evX (by simp only [go_sem, reduceCtorEq, Nat.reduceAdd, Nat.reduceMul, Nat.reduceSub, Nat.reduceLT, Nat.reduceLeDiff, Nat.reduceEqDiff, Nat.reduceBEq, Nat.reducePow]; rfl)) ?_
                refine LexC.pure (by rfl) (by rfl) (fun _ => rfl) (fun ids b _ => by simp [upd]) (fun ids b _ => OpW.evX (by simp only [go_sem, reduceCtorEq, Nat.reduceAdd, Nat.reduceMul, Nat.reduceSub, Nat.reduceLT, Nat.reduceLeDiff, Nat.reduceEqDiff, Nat.reduceBEq, Nat.reducePow]; rfl)) ?_
                refine LexC.new (fun id => .rs id 0 1 0 1 false) (.cells 3 0 [vint (p : Int)]) rfl (by rfl) (by rfl) (fun _ => rfl) (fun ids b g => OpW.append (nl := false) (len := 0) (cells := []) (m := 1) (ys := [vint (p : Int)]) rfl rfl rfl rfl (Tryz.el29 (by omega)) Tryz.underlying29 (by simp) rfl rfl (by decide) (fun id hid => ⟨id, hid, rfl, rfl⟩)) (fun ids b g hn => by have := g.not; simp [upd, this]) ?_
                refine LexC.pure (by rfl) (by rfl) (fun _ => rfl) (fun ids b _ => by simp [upd]) (fun ids b _ => OpW.evX (by simp only [go_sem, reduceCtorEq, Nat.reduceAdd, Nat.reduceMul, Nat.reduceSub, Nat.reduceLT, Nat.reduceLeDiff, Nat.reduceEqDiff, Nat.reduceBEq, Nat.reducePow]; rfl)) ?_
                refine LexC.pure (by rfl) (by rfl) (fun _ => rfl) (fun ids b _ => by simp [upd]) (fun ids b _ => OpW.evX (by simp only [go_sem, reduceCtorEq, Nat.reduceAdd, Nat.reduceMul, Nat.reduceSub, Nat.reduceLT, Nat.reduceLeDiff, Nat.reduceEqDiff, Nat.reduceBEq, Nat.reducePow]; rfl)) ?_
                refine LexC.pure (by rfl) (by rfl) (fun _ => rfl) (fun ids b _ => by simp [upd]) (fun ids b _ => OpW.evX (by simp only [go_sem, reduceCtorEq, Nat.reduceAdd, Nat.reduceMul, Nat.reduceSub, Nat.reduceLT, Nat.reduceLeDiff, Nat.reduceEqDiff, Nat.reduceBEq, Nat.reducePow]; rfl)) ?_
                refine LexC.pure (by rfl) (by rfl) (fun _ => rfl) (fun ids b _ => by simp [upd]) (fun ids b _ => OpW.evX (by simp only [go_sem, reduceCtorEq, Nat.reduceAdd, Nat.reduceMul, Nat.reduceSub, Nat.reduceLT, Nat.reduceLeDiff, Nat.reduceEqDiff, Nat.reduceBEq, Nat.reducePow, hpI]; rfl)) ?_
                refine LexC.pure (by rfl) (by rfl) (fun _ => rfl) (fun ids b _ => by simp [upd]) (fun ids b _ => OpW.evX (by simp only [go_sem, reduceCtorEq, Nat.reduceAdd, Nat.reduceMul, Nat.reduceSub, Nat.reduceLT, Nat.reduceLeDiff, Nat.reduceEqDiff, Nat.reduceBEq, Nat.reducePow, q3]; rfl)) ?_
                refine LexC.pure (by rfl) (by rfl) (fun _ => rfl) (fun ids b _ => by simp [upd]) (fun ids b _ => OpW.evX (by simp only [go_sem, reduceCtorEq, Nat.reduceAdd, Nat.reduceMul, Nat.reduceSub, Nat.reduceLT, Nat.reduceLeDiff, Nat.reduceEqDiff, Nat.reduceBEq, Nat.reducePow, hwL]; rfl)) ?_
                refine LexC.idsP (fun id => .rs id 0 1 0 1 false) 3 (by rfl) (by rfl) (fun _ => rfl) (by decide) (fun ids b _ => by simp [upd]) (fun ids b _ => OpW.evX (by simp only [go_sem, reduceCtorEq, Nat.reduceAdd, Nat.reduceMul, Nat.reduceSub, Nat.reduceLT, Nat.reduceLeDiff, Nat.reduceEqDiff, Nat.reduceBEq, Nat.reducePow])) ?_
                refine LexC.pure (by rfl) (by rfl) (fun _ => rfl) (fun ids b _ => by simp [upd]) (fun ids b _ => OpW.evX (by simp only [go_sem, reduceCtorEq, Nat.reduceAdd, Nat.reduceMul, Nat.reduceSub, Nat.reduceLT, Nat.reduceLeDiff, Nat.reduceEqDiff, Nat.reduceBEq, Nat.reducePow]; rfl)) ?_
                refine LexC.nilE fun ids hfr => ⟨Marks.nil _, ?_⟩
                simp only [Vthen, VinBlock, if_true, if_false, Nat.reduceEqDiff, reduceCtorEq]
                refine ⟨by first | rfl | trivial, _, ⟨.rs (ids 3) 0 1 0 1 false, rfl, ?_⟩, (Sub.cons rfl rfl (Sub.cons rfl rfl (Sub.cons rfl rfl (Sub.cons rfl rfl (Sub.cons rfl rfl (Sub.cons rfl rfl (Sub.cons rfl rfl (Sub.cons rfl rfl (Sub.cons rfl rfl (Sub.cons rfl rfl (Sub.cons rfl rfl (Sub.nil _))))))))))))⟩
                exact ⟨by simp, .inr ⟨by simp, ids 3, 0, hfr 3, by simp, by simp⟩⟩
              · refine WpV.regionC Tryz.mixed (by kernel_rfl) (by kernel_rfl) (fun _ => false) (fun _ b => if b 3 = true then Bs.set id (some (.cells 3 (ver + 1) ((o ++ [(p : Int)]).map vint))) else Bs.set id (some (.cells 3 ver (o.map vint)))) (fun ids => by simp) (fun ids ids' b hb => rfl) (fun ids b j hj hb => by cases hj) (fun ids b id' _ hn => by
                  by_cases h : b 3 = true
                  · simp only [h, if_true, Hp.set] at hn ⊢
                    split at hn
                    · cases hn
                    · rename_i hne; rw [if_neg hne]; exact hn
                  · simpa only [if_neg h] using hn) ?_
                refine LexC.pure (by rfl) (by rfl) (fun _ => rfl) (fun ids b _ => by simp [upd]) (fun ids b _ => OpW.evX (by simp only [go_sem, reduceCtorEq, Nat.reduceAdd, Nat.reduceMul, Nat.reduceSub, Nat.reduceLT, Nat.reduceLeDiff, Nat.reduceEqDiff, Nat.reduceBEq, Nat.reducePow]; rfl)) ?_
                refine LexC.pure (by rfl) (by rfl) (fun _ => rfl) (fun ids b _ => by simp [upd]) (fun ids b _ => OpW.evX (by simp only [go_sem, reduceCtorEq, Nat.reduceAdd, Nat.reduceMul, Nat.reduceSub, Nat.reduceLT, Nat.reduceLeDiff, Nat.reduceEqDiff, Nat.reduceBEq, Nat.reducePow]; rfl)) ?_
                refine LexC.pure (by rfl) (by rfl) (fun _ => rfl) (fun ids b _ => by simp [upd]) (fun ids b _ => OpW.evX (by simp only [go_sem, reduceCtorEq, Nat.reduceAdd, Nat.reduceMul, Nat.reduceSub, Nat.reduceLT, Nat.reduceLeDiff, Nat.reduceEqDiff, Nat.reduceBEq, Nat.reducePow]; rfl)) ?_
                refine LexC.eff (x := .rs id (ver + 1) 1 0 (o.length + 1) false) (by rfl) (by rfl) (fun _ => rfl) (fun ids b g => ?_) ?_
                · have hn := g.not
                  have e1 : (if b 3 = true then Bs.set id (some (.cells 3 (ver + 1) ((o ++ [(p : Int)]).map vint))) else Bs.set id (some (.cells 3 ver (o.map vint)))) = Bs.set id (some (.cells 3 ver (o.map vint))) := by rw [hn]; rfl
                  simp only [e1]
                  refine OpW.appendO (m := 1) (ys := [vint (p : Int)]) rfl rfl (Hp.set_eq _ _ _) rfl rfl (Tryz.el29 (by omega)) Tryz.underlying29 (by simp) rfl rfl ⟨rfl, ?_⟩
                  rw [Hp.set_set]
                  simp [upd, List.take_of_length_le]
                refine LexC.pure (by rfl) (by rfl) (fun _ => rfl) (fun ids b _ => by simp [upd]) (fun ids b _ => OpW.evX (by simp only [go_sem, reduceCtorEq, Nat.reduceAdd, Nat.reduceMul, Nat.reduceSub, Nat.reduceLT, Nat.reduceLeDiff, Nat.reduceEqDiff, Nat.reduceBEq, Nat.reducePow]; rfl)) ?_
                refine LexC.pure (by rfl) (by rfl) (fun _ => rfl) (fun ids b _ => by simp [upd]) (fun ids b _ => OpW.evX (by simp only [go_sem, reduceCtorEq, Nat.reduceAdd, Nat.reduceMul, Nat.reduceSub, Nat.reduceLT, Nat.reduceLeDiff, Nat.reduceEqDiff, Nat.reduceBEq, Nat.reducePow]; rfl)) ?_
                refine LexC.pure (by rfl) (by rfl) (fun _ => rfl) (fun ids b _ => by simp [upd]) (fun ids b _ => OpW.evX (by simp only [go_sem, reduceCtorEq, Nat.reduceAdd, Nat.reduceMul, Nat.reduceSub, Nat.reduceLT, Nat.reduceLeDiff, Nat.reduceEqDiff, Nat.reduceBEq, Nat.reducePow]; rfl)) ?_
                refine LexC.pure (by rfl) (by rfl) (fun _ => rfl) (fun ids b _ => by simp [upd]) (fun ids b _ => OpW.evX (by simp only [go_sem, reduceCtorEq, Nat.reduceAdd, Nat.reduceMul, Nat.reduceSub, Nat.reduceLT, Nat.reduceLeDiff, Nat.reduceEqDiff, Nat.reduceBEq, Nat.reducePow, hpI]; rfl)) ?_
                refine LexC.pure (by rfl) (by rfl) (fun _ => rfl) (fun ids b _ => by simp [upd]) (fun ids b _ => OpW.evX (by simp only [go_sem, reduceCtorEq, Nat.reduceAdd, Nat.reduceMul, Nat.reduceSub, Nat.reduceLT, Nat.reduceLeDiff, Nat.reduceEqDiff, Nat.reduceBEq, Nat.reducePow, q3]; rfl)) ?_
                refine LexC.pure (by rfl) (by rfl) (fun _ => rfl) (fun ids b _ => by simp [upd]) (fun ids b _ => OpW.evX (by simp only [go_sem, reduceCtorEq, Nat.reduceAdd, Nat.reduceMul, Nat.reduceSub, Nat.reduceLT, Nat.reduceLeDiff, Nat.reduceEqDiff, Nat.reduceBEq, Nat.reducePow, hwL]; rfl)) ?_
                refine LexC.pure (by rfl) (by rfl) (fun _ => rfl) (fun ids b _ => by simp [upd]) (fun ids b _ => OpW.evX (by simp only [go_sem, reduceCtorEq, Nat.reduceAdd, Nat.reduceMul, Nat.reduceSub, Nat.reduceLT, Nat.reduceLeDiff, Nat.reduceEqDiff, Nat.reduceBEq, Nat.reducePow]; rfl)) ?_
                refine LexC.pure (by rfl) (by rfl) (fun _ => rfl) (fun ids b _ => by simp [upd]) (fun ids b _ => OpW.evX (by simp only [go_sem, reduceCtorEq, Nat.reduceAdd, Nat.reduceMul, Nat.reduceSub, Nat.reduceLT, Nat.reduceLeDiff, Nat.reduceEqDiff, Nat.reduceBEq, Nat.reducePow]; rfl)) ?_
                refine LexC.nilE fun ids hfr => ⟨Marks.nil _, ?_⟩
                simp only [Vthen, VinBlock, if_true, if_false, Nat.reduceEqDiff, reduceCtorEq]
                refine ⟨by first | rfl | trivial, _, ⟨.rs id (ver + 1) 1 0 (o.length + 1) false, rfl, ?_⟩, (Sub.cons rfl rfl (Sub.cons rfl rfl (Sub.cons rfl rfl (Sub.cons rfl rfl (Sub.cons rfl rfl (Sub.cons rfl rfl (Sub.cons rfl rfl (Sub.cons rfl rfl (Sub.cons rfl rfl (Sub.cons rfl rfl (Sub.cons rfl rfl (Sub.nil _))))))))))))⟩
                exact ⟨by simp, .inr ⟨by simp, id, ver + 1, hid, by simp, by simp⟩⟩
            · rintro S H' ⟨v', rfl, hB3⟩
              refine WpV.exit ?_
              simp only [Vthen, VinBlock, if_true, if_false, Nat.reduceEqDiff, reduceCtorEq]
              refine WpV.regionE (by simp only [go_sem, reduceCtorEq, Nat.reduceAdd, Nat.reduceMul, Nat.reduceSub, Nat.reduceLT, Nat.reduceLeDiff, Nat.reduceEqDiff, Nat.reduceBEq, Nat.reducePow, hni]; rfl) (Marks.nil _) ?_
              simp only [Vthen, VinBlock, if_true, if_false, Nat.reduceEqDiff, reduceCtorEq]
              refine ⟨by first | rfl | trivial, ⟨(i + 1, o ++ [(p : Int)], v', H'), by simp only; omega, hO2, by simp only [hBs]; exact hB3⟩, by simp only; omega, (Sub.cons rfl rfl (Sub.cons rfl rfl (Sub.cons rfl rfl (Sub.cons rfl rfl (Sub.cons rfl rfl (Sub.cons rfl rfl (Sub.cons rfl rfl (Sub.cons rfl rfl (Sub.cons rfl rfl (Sub.cons rfl rfl (Sub.cons rfl rfl (Sub.nil _)))))))))))), rfl⟩
          · refine WpV.seq (WpV.regionD Tryz.mixed (by kernel_rfl) (by kernel_rfl) ?_)
            refine LexD.take 8 (by rfl) (by simp only [go_sem, reduceCtorEq, Nat.reduceAdd, Nat.reduceMul, Nat.reduceSub, Nat.reduceLT, Nat.reduceLeDiff, Nat.reduceEqDiff, Nat.reduceBEq, Nat.reducePow, hit, hp6', hatp, hltI, hgri, hpI, q3, hf]; rfl) ?_
            refine LexD.take 2 (by rfl) (by simp only [go_sem, reduceCtorEq, Nat.reduceAdd, Nat.reduceMul, Nat.reduceSub, Nat.reduceLT, Nat.reduceLeDiff, Nat.reduceEqDiff, Nat.reduceBEq, Nat.reducePow, hit, hp6', hatp, hltI, hgri, hpI, q3, hf]; rfl) ?_
            refine LexD.step (by rfl) (by rfl) (OpW.callY rfl (by rfl) (by rfl) (by rfl) (enters_of Tryz.func13 (by kernel_rfl) rfl) (hnd H1 i hlti)) ?_
            refine LexD.take 6 (by rfl) (by simp only [go_sem, reduceCtorEq, Nat.reduceAdd, Nat.reduceMul, Nat.reduceSub, Nat.reduceLT, Nat.reduceLeDiff, Nat.reduceEqDiff, Nat.reduceBEq, Nat.reducePow, hit, hp6', hatp, hltI, hgri, hpI, q3, hf]; rfl) (LexD.nilE ⟨Marks.nil _, ?_⟩)
            simp only [Vthen, VinBlock, if_true, if_false, Nat.reduceEqDiff, reduceCtorEq]
            refine WpV.cond rfl (fun hb => by cases hb) (fun hb => WpV.skip ?_)
            simp only [Vthen, VinBlock, if_true, if_false, Nat.reduceEqDiff, reduceCtorEq]
            refine WpV.regionE (by simp only [go_sem, reduceCtorEq, Nat.reduceAdd, Nat.reduceMul, Nat.reduceSub, Nat.reduceLT, Nat.reduceLeDiff, Nat.reduceEqDiff, Nat.reduceBEq, Nat.reducePow, hnk]; rfl) (Marks.nil _) ?_
            simp only [Vthen, VinBlock, if_true, if_false, Nat.reduceEqDiff, reduceCtorEq]
            exact ⟨by first | rfl | trivial, hltk', (Sub.cons rfl rfl (Sub.cons rfl rfl (Sub.cons rfl rfl (Sub.cons rfl rfl (Sub.cons rfl rfl (Sub.cons rfl rfl (Sub.cons rfl rfl (Sub.cons rfl rfl (Sub.cons rfl rfl (Sub.cons rfl rfl (Sub.cons rfl rfl (Sub.cons rfl rfl (Sub.nil _))))))))))))), by first | rfl | trivial⟩
        · rw [hct] at hatp
          refine WpV.seq (WpV.regionD Tryz.mixed (by kernel_rfl) (by kernel_rfl) ?_)
          refine LexD.take 8 (by rfl) (by simp only [go_sem, reduceCtorEq, Nat.reduceAdd, Nat.reduceMul, Nat.reduceSub, Nat.reduceLT, Nat.reduceLeDiff, Nat.reduceEqDiff, Nat.reduceBEq, Nat.reducePow, hit, hp6', hatp]; rfl) ?_
          refine LexD.take 8 (by rfl) (by simp only [go_sem, reduceCtorEq, Nat.reduceAdd, Nat.reduceMul, Nat.reduceSub, Nat.reduceLT, Nat.reduceLeDiff, Nat.reduceEqDiff, Nat.reduceBEq, Nat.reducePow, hit, hp6', hatp]; rfl) ?_
          refine LexD.take 1 (by rfl) (by simp only [go_sem, reduceCtorEq, Nat.reduceAdd, Nat.reduceMul, Nat.reduceSub, Nat.reduceLT, Nat.reduceLeDiff, Nat.reduceEqDiff, Nat.reduceBEq, Nat.reducePow, hit, hp6', hatp]; rfl) (LexD.nilE ⟨Marks.nil _, ?_⟩)
          simp only [Vthen, VinBlock, if_true, if_false, Nat.reduceEqDiff, reduceCtorEq]
          refine WpV.cond rfl (fun hb => by cases hb) (fun hb => WpV.skip ?_)
          simp only [Vthen, VinBlock, if_true, if_false, Nat.reduceEqDiff, reduceCtorEq]
          refine WpV.regionE (by simp only [go_sem, reduceCtorEq, Nat.reduceAdd, Nat.reduceMul, Nat.reduceSub, Nat.reduceLT, Nat.reduceLeDiff, Nat.reduceEqDiff, Nat.reduceBEq, Nat.reducePow, hnk]; rfl) (Marks.nil _) ?_
          simp only [Vthen, VinBlock, if_true, if_false, Nat.reduceEqDiff, reduceCtorEq]
          exact ⟨by first | rfl | trivial, hltk', (Sub.cons rfl rfl (Sub.cons rfl rfl (Sub.cons rfl rfl (Sub.cons rfl rfl (Sub.cons rfl rfl (Sub.cons rfl rfl (Sub.cons rfl rfl (Sub.cons rfl rfl (Sub.cons rfl rfl (Sub.cons rfl rfl (Sub.cons rfl rfl (Sub.cons rfl rfl (Sub.nil _))))))))))))), by first | rfl | trivial⟩
      · simp only [Vthen, VinBlock, if_true, if_false, Nat.reduceEqDiff, reduceCtorEq]
        refine WpV.regionE (by simp only [go_sem, reduceCtorEq, Nat.reduceAdd, Nat.reduceMul, Nat.reduceSub, Nat.reduceLT, Nat.reduceLeDiff, Nat.reduceEqDiff, Nat.reduceBEq, Nat.reducePow, hni]; rfl) (Marks.nil _) ?_
        simp only [Vthen, VinBlock, if_true, if_false, Nat.reduceEqDiff, reduceCtorEq]
        refine ⟨by first | rfl | trivial, ⟨(i + 1, o, v, H1), by simp only; omega, hO.stay, hB⟩, by simp only; omega, (Sub.cons rfl rfl (Sub.cons rfl rfl (Sub.cons rfl rfl (Sub.cons rfl rfl (Sub.cons rfl rfl (Sub.cons rfl rfl (Sub.cons rfl rfl (Sub.cons rfl rfl (Sub.cons rfl rfl (Sub.cons rfl rfl (Sub.cons rfl rfl (Sub.nil _)))))))))))), rfl⟩
  · have hge : i = rs.length := by have := of_decide_eq_false ‹_›; omega
    subst hge
    refine WpV.pre (hB.frz (t := 16) rfl) (Marks.nil _) ?_
    refine WpV.pre (Frz.drop _ _ it) (Marks.nil _) (WpV.exit ?_)
    rw [hdrop it ft]
    simp only [Vthen, VinBlock, if_true, if_false, Nat.reduceEqDiff, reduceCtorEq]
    have hkn := known_any H
    have e90 : ((0 : Int) != 0) = false := rfl
    by_cases hlen2 : o.length = rs.length
    · have hok := hO.ok hlen2
      rcases hpE with ⟨rfl, -, hno⟩ | ⟨rfl, hpl2, hbest⟩
      · exact absurd hok (hno o hlen2)
      · obtain ⟨g1, g2⟩ := hbest o hlen2 hok
        have el : ((o.length : Int) == (rs.length : Int)) = true := by rw [hlen2]; simp
        have hnlt : ¬ (pickLen ps o < pickLen ps pk) := by omega
        by_cases heq : pickLen ps o = pickLen ps pk
        · have hqe : (pickLen ps o == pickLen ps pk) = true := by rw [heq]; simp
          have hls := less_any H (false && decide (o.length = 0)) (decide (o.length = 0)) nlp clp o pk (by omega) (by omega)
          rw [g2 heq] at hls
          refine WpV.seq ?_
          refine WpV.seq (WpV.region ?_)
          refine WpOps.take 8 (by simp only [go_sem, reduceCtorEq, Nat.reduceAdd, Nat.reduceMul, Nat.reduceSub, Nat.reduceLT, Nat.reduceLeDiff, Nat.reduceEqDiff, Nat.reduceBEq, Nat.reducePow, el, e90, hnlt, hqe]; rfl) ?_
          refine WpOps.take 8 (by simp only [go_sem, reduceCtorEq, Nat.reduceAdd, Nat.reduceMul, Nat.reduceSub, Nat.reduceLT, Nat.reduceLeDiff, Nat.reduceEqDiff, Nat.reduceBEq, Nat.reducePow, el, e90, hnlt, hqe]; rfl) ?_
          refine WpOps.take 4 (by simp only [go_sem, reduceCtorEq, Nat.reduceAdd, Nat.reduceMul, Nat.reduceSub, Nat.reduceLT, Nat.reduceLeDiff, Nat.reduceEqDiff, Nat.reduceBEq, Nat.reducePow, el, e90, hnlt, hqe]; rfl) ?_
          refine WpOps.step (by rfl) (by rfl) (OpW.callY rfl (by rfl) (by rfl) (by rfl) (enters_of Tryz.func18 (by kernel_rfl) rfl) ((hls).mono ?_))
          rintro _ _ ⟨rfl, hH⟩
          replace hH := hH.symm
          subst hH
          refine WpOps.take 3 (by simp only [go_sem, reduceCtorEq, Nat.reduceAdd, Nat.reduceMul, Nat.reduceSub, Nat.reduceLT, Nat.reduceLeDiff, Nat.reduceEqDiff, Nat.reduceBEq, Nat.reducePow, el, e90, hnlt, hqe]; rfl) (WpOps.nil ⟨Marks.nil _, ?_⟩)
          simp only [Vthen, VinBlock, if_true, if_false, Nat.reduceEqDiff, reduceCtorEq]
          refine WpV.cond rfl (fun hb => by cases hb) (fun hb => WpV.skip ?_)
          simp only [Vthen, VinBlock, if_true, if_false, Nat.reduceEqDiff, reduceCtorEq]
          refine WpV.seq (WpV.region ?_)
          refine WpOps.step (by rfl) (by rfl) (OpW.callY rfl (by rfl) (by rfl) (by rfl) (enters_of Tryz.func17 (by kernel_rfl) rfl) ((hkn).mono ?_))
          rintro _ _ ⟨rfl, hH⟩
          replace hH := hH.symm
          subst hH
          refine WpOps.take 1 (by simp only [go_sem, reduceCtorEq, Nat.reduceAdd, Nat.reduceMul, Nat.reduceSub, Nat.reduceLT, Nat.reduceLeDiff, Nat.reduceEqDiff, Nat.reduceBEq, Nat.reducePow]; rfl) (WpOps.nil ⟨Marks.nil _, ?_⟩)
          simp only [Vthen, VinBlock, if_true, if_false, Nat.reduceEqDiff, reduceCtorEq]
          refine WpV.ret ⟨Marks.nil _, List.nodup_nil, _, by simp only [Tryz.results6]; simp only [go_sem, reduceCtorEq, Nat.reduceAdd, Nat.reduceMul, Nat.reduceSub, Nat.reduceLT, Nat.reduceLeDiff, Nat.reduceEqDiff, Nat.reduceBEq, Nat.reducePow]; rfl, ?_⟩
          exact ⟨rfl, rfl⟩
        · have hqe : (pickLen ps o == pickLen ps pk) = false := by simpa using heq
          refine WpV.seq ?_
          refine WpV.seq (WpV.region ?_)
          refine WpOps.take 8 (by simp only [go_sem, reduceCtorEq, Nat.reduceAdd, Nat.reduceMul, Nat.reduceSub, Nat.reduceLT, Nat.reduceLeDiff, Nat.reduceEqDiff, Nat.reduceBEq, Nat.reducePow, el, e90, hnlt, hqe]; rfl) ?_
          refine WpOps.take 8 (by simp only [go_sem, reduceCtorEq, Nat.reduceAdd, Nat.reduceMul, Nat.reduceSub, Nat.reduceLT, Nat.reduceLeDiff, Nat.reduceEqDiff, Nat.reduceBEq, Nat.reducePow, el, e90, hnlt, hqe]; rfl) ?_
          refine WpOps.take 8 (by simp only [go_sem, reduceCtorEq, Nat.reduceAdd, Nat.reduceMul, Nat.reduceSub, Nat.reduceLT, Nat.reduceLeDiff, Nat.reduceEqDiff, Nat.reduceBEq, Nat.reducePow, el, e90, hnlt, hqe]; rfl) (WpOps.nil ⟨Marks.nil _, ?_⟩)
          simp only [Vthen, VinBlock, if_true, if_false, Nat.reduceEqDiff, reduceCtorEq]
          refine WpV.cond rfl (fun hb => by cases hb) (fun hb => WpV.skip ?_)
          simp only [Vthen, VinBlock, if_true, if_false, Nat.reduceEqDiff, reduceCtorEq]
          refine WpV.seq (WpV.region ?_)
          refine WpOps.step (by rfl) (by rfl) (OpW.callY rfl (by rfl) (by rfl) (by rfl) (enters_of Tryz.func17 (by kernel_rfl) rfl) ((hkn).mono ?_))
          rintro _ _ ⟨rfl, hH⟩
          replace hH := hH.symm
          subst hH
          refine WpOps.take 1 (by simp only [go_sem, reduceCtorEq, Nat.reduceAdd, Nat.reduceMul, Nat.reduceSub, Nat.reduceLT, Nat.reduceLeDiff, Nat.reduceEqDiff, Nat.reduceBEq, Nat.reducePow]; rfl) (WpOps.nil ⟨Marks.nil _, ?_⟩)
          simp only [Vthen, VinBlock, if_true, if_false, Nat.reduceEqDiff, reduceCtorEq]
          refine WpV.ret ⟨Marks.nil _, List.nodup_nil, _, by simp only [Tryz.results6]; simp only [go_sem, reduceCtorEq, Nat.reduceAdd, Nat.reduceMul, Nat.reduceSub, Nat.reduceLT, Nat.reduceLeDiff, Nat.reduceEqDiff, Nat.reduceBEq, Nat.reducePow]; rfl, ?_⟩
          exact ⟨rfl, rfl⟩
    · have el : ((o.length : Int) == (rs.length : Int)) = false := by
        simp; omega
      refine WpV.seq ?_
      refine WpV.seq (WpV.region ?_)
      refine WpOps.take 8 (by simp only [go_sem, reduceCtorEq, Nat.reduceAdd, Nat.reduceMul, Nat.reduceSub, Nat.reduceLT, Nat.reduceLeDiff, Nat.reduceEqDiff, Nat.reduceBEq, Nat.reducePow, el]; rfl) ?_
      refine WpOps.take 8 (by simp only [go_sem, reduceCtorEq, Nat.reduceAdd, Nat.reduceMul, Nat.reduceSub, Nat.reduceLT, Nat.reduceLeDiff, Nat.reduceEqDiff, Nat.reduceBEq, Nat.reducePow, el]; rfl) ?_
      refine WpOps.take 8 (by simp only [go_sem, reduceCtorEq, Nat.reduceAdd, Nat.reduceMul, Nat.reduceSub, Nat.reduceLT, Nat.reduceLeDiff, Nat.reduceEqDiff, Nat.reduceBEq, Nat.reducePow, el]; rfl) (WpOps.nil ⟨Marks.nil _, ?_⟩)
      simp only [Vthen, VinBlock, if_true, if_false, Nat.reduceEqDiff, reduceCtorEq]
      refine WpV.cond rfl (fun hb => by cases hb) (fun hb => WpV.skip ?_)
      simp only [Vthen, VinBlock, if_true, if_false, Nat.reduceEqDiff, reduceCtorEq]
      refine WpV.seq (WpV.region ?_)
      refine WpOps.step (by rfl) (by rfl) (OpW.callY rfl (by rfl) (by rfl) (by rfl) (enters_of Tryz.func17 (by kernel_rfl) rfl) ((hkn).mono ?_))
      rintro _ _ ⟨rfl, hH⟩
      replace hH := hH.symm
      subst hH
      refine WpOps.take 1 (by simp only [go_sem, reduceCtorEq, Nat.reduceAdd, Nat.reduceMul, Nat.reduceSub, Nat.reduceLT, Nat.reduceLeDiff, Nat.reduceEqDiff, Nat.reduceBEq, Nat.reducePow]; rfl) (WpOps.nil ⟨Marks.nil _, ?_⟩)
      simp only [Vthen, VinBlock, if_true, if_false, Nat.reduceEqDiff, reduceCtorEq]
      refine WpV.ret ⟨Marks.nil _, List.nodup_nil, _, by simp only [Tryz.results6]; simp only [go_sem, reduceCtorEq, Nat.reduceAdd, Nat.reduceMul, Nat.reduceSub, Nat.reduceLT, Nat.reduceLeDiff, Nat.reduceEqDiff, Nat.reduceBEq, Nat.reducePow]; rfl, ?_⟩
      exact ⟨rfl, rfl⟩
end Go.Proofs.YtaekibilldjnmaaGreat
namespace Go.Proofs.YtaekibilldjnmaaGreat
open Go.Proofs

theorem combs_sorted : ∀ (l : List Int) (s : Nat) (b : List Int), l.Pairwise (· < ·) → (combs l s b).Pairwise (fun x y => leL x y = true)
  | l, 0, b, _ => by rw [combs_zero]; simp
  | [], s + 1, b, _ => by simp [combs]
  | x :: l, s + 1, b, h => by
    have hp := List.pairwise_cons.1 h
    show (combs l s (b ++ [x]) ++ combs l (s + 1) b).Pairwise _
    rw [List.pairwise_append]
    refine ⟨combs_sorted l s _ hp.2, combs_sorted l (s + 1) b hp.2, fun y hy z hz => ?_⟩
    have hl := combs_len _ _ _ _ hz
    obtain ⟨t, rfl, -⟩ := combs_sub _ _ _ _ hy
    obtain ⟨u, rfl, hu⟩ := combs_sub _ _ _ _ hz
    cases u with
    | nil => simp at hl
    | cons v u =>
      rw [List.append_assoc, leL_app]
      have := hp.1 v (hu.subset (by simp))
      simp [leL, this]

/-- Fewer, or as many and no greater. -/
def RB (x y : List Int) : Prop := x.length ≤ y.length ∧ (x.length = y.length → leL x y = true)
theorem breaks_inv {n : Nat} {b : List Int} (h : b ∈ breaksF n) : ∃ t, b = 0 :: t ∧ t.Sublist (numsF 1 (n - 1)) ∧ 0 < n := by
  unfold breaksF breaksOf at h
  obtain ⟨k, hk, hb⟩ := List.mem_flatMap.1 h
  obtain ⟨t, ht, rfl⟩ := List.mem_map.1 hb
  obtain ⟨u, hu0, hu⟩ := combs_sub _ _ _ _ ht
  have e : t = u := by simpa using hu0
  subst e
  exact ⟨t, rfl, hu, by have := List.mem_range.1 hk; omega⟩
theorem breaks_mem {n : Nat} (hn : 0 < n) {t : List Int} (h : t.Sublist (numsF 1 (n - 1))) : (0 :: t) ∈ breaksF n := by
  unfold breaksF
  have hl := h.length_le
  rw [numsF_len] at hl
  refine List.mem_flatMap.2 ⟨t.length, List.mem_range.2 (by omega), ?_⟩
  unfold breaksOf
  exact List.mem_map.2 ⟨t, by simpa using combs_mem _ [] t h, rfl⟩
theorem breaks_sorted (n : Nat) : (breaksF n).Pairwise RB := by
  have hlen : ∀ m, ∀ x ∈ breaksOf n m, x.length = m + 1 := fun m x hx => by
    unfold breaksOf at hx
    obtain ⟨t, ht, rfl⟩ := List.mem_map.1 hx
    have := combs_len _ _ _ _ ht
    simp only [List.length_nil, Nat.zero_add] at this
    simp [this]
  unfold breaksF
  rw [List.pairwise_flatMap]
  refine ⟨fun m _ => ?_, List.pairwise_lt_range.imp ?_⟩
  · unfold breaksOf
    rw [List.pairwise_map]
    refine (combs_sorted _ m [] (numsF_pair 1 (n - 1))).imp_of_mem ?_
    intro a b ha hb h
    have h1 := combs_len _ _ _ _ ha
    have h2 := combs_len _ _ _ _ hb
    exact ⟨by simp [h1, h2], fun _ => by simpa [leL] using h⟩
  · intro i j hij x hx y hy
    have h1 := hlen i x hx
    have h2 := hlen j y hy
    exact ⟨by omega, fun e => by omega⟩

/-- These lines are no worse than those. -/
def NoWorse (c : Cs) (rs : List Row) (n : Int) (fin x : List Int) : Prop :=
  fin.length ≤ x.length ∧ (x.length = fin.length → c.mostR rs n fin ≤ c.mostR rs n x ∧ (c.mostR rs n x = c.mostR rs n fin → leL fin x = true))
theorem lines_first {c : Cs} {rs : List Row} {n : Int} : ∀ (l : List (List Int)) (best : List Int), (best :: l).Pairwise RB → 0 ≤ c.leastR rs n best →
    ∃ fin, c.linesF rs n l (some (best, c.mostR rs n best)) = some (fin, c.mostR rs n fin) ∧ fin ∈ best :: l ∧ 0 ≤ c.leastR rs n fin ∧ ∀ x ∈ best :: l, 0 ≤ c.leastR rs n x → NoWorse c rs n fin x
  | [], best, _, h0 => ⟨best, rfl, by simp, h0, fun x hx _ => by
      have : x = best := by simpa using hx
      subst this
      exact ⟨Nat.le_refl _, fun _ => ⟨Int.le_refl _, fun _ => leL_refl _⟩⟩⟩
  | y :: l, best, h, h0 => by
    have hp := List.pairwise_cons.1 h
    have hby := hp.1 y (by simp)
    rw [Cs.linesF]
    by_cases hs : (y.length : Int) > (best.length : Int)
    · rw [if_pos (by simp only [stopAt]; exact decide_eq_true hs)]
      refine ⟨best, rfl, by simp, h0, fun x hx _ => ?_⟩
      rcases List.mem_cons.1 hx with rfl | hx
      · exact ⟨Nat.le_refl _, fun _ => ⟨Int.le_refl _, fun _ => leL_refl _⟩⟩
      · have hxy : y.length ≤ x.length := by
          rcases List.mem_cons.1 hx with rfl | hx
          · exact Nat.le_refl _
          · exact ((List.pairwise_cons.1 hp.2).1 x hx).1
        exact ⟨by omega, fun e => by omega⟩
    · rw [if_neg (by simp only [stopAt, decide_eq_false hs]; decide)]
      have hel : y.length = best.length := by have := hby.1; omega
      have hbl : (best :: l).Pairwise RB := List.pairwise_cons.2 ⟨fun x hx => hp.1 x (by simp [hx]), (List.pairwise_cons.1 hp.2).2⟩
      by_cases hge : c.leastR rs n y ≥ 0
      · by_cases hlt : c.mostR rs n y < c.mostR rs n best
        · obtain ⟨fin, e1, e2, e3, e4⟩ := lines_first l y hp.2 hge
          refine ⟨fin, by simp only [Cs.lineStep, if_pos hge, if_pos hlt]; exact e1, List.mem_cons_of_mem _ e2, e3, fun x hx hx0 => ?_⟩
          rcases List.mem_cons.1 hx with rfl | hx
          · obtain ⟨g1, g2⟩ := e4 y (by simp) hge
            refine ⟨by omega, fun e => ?_⟩
            have := (g2 (by omega)).1
            exact ⟨by omega, fun e => by omega⟩
          · exact e4 x hx hx0
        · obtain ⟨fin, e1, e2, e3, e4⟩ := lines_first l best hbl h0
          refine ⟨fin, by simp only [Cs.lineStep, if_pos hge, if_neg hlt]; exact e1, ?_, e3, fun x hx hx0 => ?_⟩
          · rcases List.mem_cons.1 e2 with rfl | h2
            · simp
            · simp [h2]
          · rcases List.mem_cons.1 hx with rfl | hx
            · exact e4 _ (by simp) h0
            · rcases List.mem_cons.1 hx with rfl | hx
              · obtain ⟨g1, g2⟩ := e4 best (by simp) h0
                refine ⟨by omega, fun e => ?_⟩
                obtain ⟨g3, g4⟩ := g2 (by omega)
                refine ⟨by omega, fun e' => ?_⟩
                exact leL_trans _ _ _ (g4 (by omega)) (hby.2 (by omega))
              · exact e4 x (by simp [hx]) hx0
      · obtain ⟨fin, e1, e2, e3, e4⟩ := lines_first l best hbl h0
        refine ⟨fin, by simp only [Cs.lineStep, if_neg hge]; exact e1, ?_, e3, fun x hx hx0 => ?_⟩
        · rcases List.mem_cons.1 e2 with rfl | h2
          · simp
          · simp [h2]
        · rcases List.mem_cons.1 hx with rfl | hx
          · exact e4 _ (by simp) h0
          · rcases List.mem_cons.1 hx with rfl | hx
            · omega
            · exact e4 x (by simp [hx]) hx0
theorem lines_some {c : Cs} {rs : List Row} {n : Int} : ∀ (l : List (List Int)), l.Pairwise RB → ∀ r, c.linesF rs n l none = some r → r.1 ∈ l ∧ r.2 = c.mostR rs n r.1 ∧ 0 ≤ c.leastR rs n r.1 ∧ ∀ x ∈ l, 0 ≤ c.leastR rs n x → NoWorse c rs n r.1 x
  | [], _, r, h => by cases h
  | y :: l, hp, r, h => by
    rw [Cs.linesF, if_neg (by simp [stopAt])] at h
    by_cases hge : c.leastR rs n y ≥ 0
    · obtain ⟨fin, e1, e2, e3, e4⟩ := lines_first l y hp hge
      simp only [Cs.lineStep, if_pos hge] at h
      rw [e1] at h
      cases h
      exact ⟨e2, rfl, e3, e4⟩
    · simp only [Cs.lineStep, if_neg hge] at h
      obtain ⟨g1, g2, g3, g4⟩ := lines_some l (List.pairwise_cons.1 hp).2 r h
      refine ⟨List.mem_cons_of_mem _ g1, g2, g3, fun x hx hx0 => ?_⟩
      rcases List.mem_cons.1 hx with rfl | hx
      · omega
      · exact g4 x hx hx0
theorem lines_none {c : Cs} {rs : List Row} {n : Int} : ∀ (l : List (List Int)), l.Pairwise RB → c.linesF rs n l none = none → ∀ x ∈ l, c.leastR rs n x < 0
  | [], _, _, x, hx => by cases hx
  | y :: l, hp, h, x, hx => by
    rw [Cs.linesF, if_neg (by simp [stopAt])] at h
    by_cases hge : c.leastR rs n y ≥ 0
    · obtain ⟨fin, e1, e2, e3, e4⟩ := lines_first l y hp hge
      simp only [Cs.lineStep, if_pos hge] at h
      rw [e1] at h
      cases h
    · simp only [Cs.lineStep, if_neg hge] at h
      rcases List.mem_cons.1 hx with rfl | hx
      · omega
      · exact lines_none l (List.pairwise_cons.1 hp).2 h x hx
end Go.Proofs.YtaekibilldjnmaaGreat
namespace Go.Proofs.YtaekibilldjnmaaGreat
open Go.Proofs

def mx (a b : Int) : Int := if b > a then b else a
def Cs.greatS (c : Cs) (ws : List (List Int)) (bs : List Int) (n : Int) : Nat → Nat → Int → Int → Int
  | 0, _, most, _ => most
  | f + 1, i, most, line =>
    if (if contB bs (i : Int) = true then 2 * c.rim else line + c.blank) + c.need1 (ws.getD i []) > n then -1
    else c.greatS ws bs n f (i + 1) (if i + 1 = ws.length ∨ contB bs ((i + 1 : Nat) : Int) = true then mx most (n - ((if contB bs (i : Int) = true then 2 * c.rim else line + c.blank) + c.need1 (ws.getD i []))) else most)
      ((if contB bs (i : Int) = true then 2 * c.rim else line + c.blank) + c.need1 (ws.getD i []))
abbrev Cs.greatF (c : Cs) (ws : List (List Int)) (bs : List Int) (n : Int) : Int := c.greatS ws bs n ws.length 0 (-1) 0

theorem need_snoc (c : Cs) (l : List (List Int)) (w : List Int) : c.needF (l ++ [w]) = c.needF l + c.blank + c.need1 w := by
  unfold Cs.needF
  have e : (((l ++ [w]).length : Nat) : Int) - 1 = ((l.length : Int) - 1) + 1 := by simp
  rw [e, Int.add_mul, List.map_append, List.sum_append]
  simp; omega
theorem need_nil (c : Cs) : c.needF [] = 2 * c.rim - c.blank := by
  unfold Cs.needF
  simp; omega

/-- Where lines begin, and the end. -/
def bAt (m : Nat) (bs : List Int) (k : Nat) : Nat := if k < bs.length then (bs.getD k 0).toNat else m
/-- What the words from the beginning of a line on need, up to a word. -/
def Cs.segN (c : Cs) (ws : List (List Int)) (s j : Nat) : Int := c.needF ((ws.drop s).take (j - s))
theorem seg_self (c : Cs) (ws : List (List Int)) (s : Nat) : c.segN ws s s = 2 * c.rim - c.blank := by
  unfold Cs.segN; rw [Nat.sub_self, List.take_zero, need_nil]
theorem seg_succ (c : Cs) (ws : List (List Int)) {s j : Nat} (h : s ≤ j) (hj : j < ws.length) : c.segN ws s (j + 1) = c.segN ws s j + c.blank + c.need1 (ws.getD j []) := by
  unfold Cs.segN
  rw [show j + 1 - s = (j - s) + 1 by omega, List.take_add_one, List.getElem?_drop, show s + (j - s) = j by omega, List.getElem?_eq_getElem hj, Option.toList_some, need_snoc]
  simp [List.getD_eq_getElem?_getD, hj]
theorem seg_mono (c : Cs) (hc : c.Fair) (ws : List (List Int)) (hw : ∀ w ∈ ws, c.Word w) {s : Nat} : ∀ (d j : Nat), s ≤ j → j + d ≤ ws.length → c.segN ws s j ≤ c.segN ws s (j + d)
  | 0, j, _, _ => Int.le_refl _
  | d + 1, j, h, hj => by
    have ih := seg_mono c hc ws hw d j h (by omega)
    have hjl : j + d < ws.length := by omega
    have h1 := (Cs.need1_le hc (hw _ (List.getElem_mem hjl))).1
    have h2 := seg_succ c ws (s := s) (j := j + d) (by omega) hjl
    have hb := hc.blank
    have e : ws.getD (j + d) [] = ws[j + d] := by simp [List.getD_eq_getElem?_getD, hjl]
    rw [e] at h2
    rw [← Nat.add_assoc, h2]
    omega

/-- Beginnings of lines: ascending, from 0 on. -/
structure Begs (m : Nat) (bs : List Int) : Prop where
  pos : 0 < bs.length
  zero : bs.getD 0 0 = 0
  up : bs.Pairwise (· < ·)
  rng : ∀ x ∈ bs, 0 ≤ x ∧ x < m
theorem begs_of {m : Nat} {bs : List Int} (h : bs ∈ breaksF m) : Begs m bs := by
  obtain ⟨t, rfl, ht, hm⟩ := breaks_inv h
  have hmem : ∀ x ∈ t, 1 ≤ x ∧ x < m := fun x hx => by
    have := numsF_mem (ht.subset hx)
    omega
  refine ⟨by simp, rfl, List.pairwise_cons.2 ⟨fun x hx => by have := hmem x hx; omega, (numsF_pair 1 (m - 1)).sublist ht⟩, fun x hx => ?_⟩
  rcases List.mem_cons.1 hx with rfl | hx
  · omega
  · have := hmem x hx; omega
theorem Begs.mem {m : Nat} {bs : List Int} (h : Begs m bs) : bs ∈ breaksF m := by
  obtain ⟨h1, h2, h3, h4⟩ := h
  cases bs with
  | nil => simp at h1
  | cons x t =>
    have hx : x = 0 := by simpa using h2
    subst hx
    have hm : 0 < m := by have := h4 0 (by simp); omega
    refine breaks_mem hm ?_
    have hp := List.pairwise_cons.1 h3
    have key : ∀ (t : List Int) (lo : Int) (n : Nat), t.Pairwise (· < ·) → (∀ x ∈ t, lo ≤ x ∧ x < lo + n) → t.Sublist (numsF lo n) := by
      intro t lo n
      induction n generalizing t lo with
      | zero =>
        intro _ hr
        cases t with
        | nil => exact List.nil_sublist _
        | cons y t => have := hr y (by simp); omega
      | succ n ih =>
        intro hu hr
        have e : numsF lo (n + 1) = lo :: numsF (lo + 1) n := by
          unfold numsF
          rw [List.range_succ_eq_map, List.map_cons, List.map_map]
          congr 1
          · simp
          · refine List.map_congr_left fun i _ => ?_
            simp only [Function.comp]; omega
        rw [e]
        cases t with
        | nil => exact List.nil_sublist _
        | cons y t =>
          have hq := List.pairwise_cons.1 hu
          by_cases hy : y = lo
          · subst hy
            exact (ih t (y + 1) hq.2 fun x hx => by have h1 := hq.1 x hx; have h2 := hr x (by simp [hx]); omega).cons_cons _
          · refine (ih (y :: t) (lo + 1) hu fun x hx => ?_).cons _
            have h1 := hr x hx
            have h2 := hr y (by simp)
            rcases List.mem_cons.1 hx with rfl | hx
            · omega
            · have := hq.1 x hx; omega
    exact key t 1 (m - 1) hp.2 fun x hx => by have h1 := hp.1 x hx; have h2 := h4 x (by simp [hx]); omega
theorem Begs.at {m : Nat} {bs : List Int} (h : Begs m bs) {k : Nat} (hk : k < bs.length) : bs.getD k 0 = ((bAt m bs k : Nat) : Int) ∧ bAt m bs k < bAt m bs (k + 1) ∧ bAt m bs (k + 1) ≤ m ∧ contB bs ((bAt m bs k : Nat) : Int) = true := by
  have e1 : bs.getD k 0 = bs[k] := by simp [List.getD_eq_getElem?_getD, hk]
  have h1 := h.rng _ (List.getElem_mem hk)
  have hb : bAt m bs k = bs[k].toNat := by unfold bAt; rw [if_pos hk, e1]
  refine ⟨by rw [hb, e1]; omega, ?_, ?_, by rw [hb, contB_iff, show ((bs[k].toNat : Nat) : Int) = bs[k] by omega]; exact List.getElem_mem hk⟩
  · by_cases hk1 : k + 1 < bs.length
    · have e2 : bs.getD (k + 1) 0 = bs[k + 1] := by simp [List.getD_eq_getElem?_getD, hk1]
      have h2 := (List.pairwise_iff_getElem.1 h.up) k (k + 1) hk hk1 (by omega)
      rw [hb]; unfold bAt; rw [if_pos hk1, e2]; omega
    · rw [hb]; unfold bAt; rw [if_neg hk1]; omega
  · by_cases hk1 : k + 1 < bs.length
    · have e2 : bs.getD (k + 1) 0 = bs[k + 1] := by simp [List.getD_eq_getElem?_getD, hk1]
      have h2 := h.rng _ (List.getElem_mem hk1)
      unfold bAt; rw [if_pos hk1, e2]; omega
    · unfold bAt; rw [if_neg hk1]; omega
theorem Begs.end' {m : Nat} {bs : List Int} (h : Begs m bs) {k : Nat} (hk : k < bs.length) : bAt m bs (k + 1) = m ∨ contB bs ((bAt m bs (k + 1) : Nat) : Int) = true := by
  by_cases hk1 : k + 1 < bs.length
  · exact .inr (h.at hk1).2.2.2
  · refine .inl ?_
    unfold bAt; rw [if_neg hk1]
theorem Begs.no {m : Nat} {bs : List Int} (h : Begs m bs) {k j : Nat} (hk : k < bs.length) (h1 : bAt m bs k < j) (h2 : j < bAt m bs (k + 1)) : contB bs (j : Int) = false := by
  cases e : contB bs (j : Int) with
  | false => rfl
  | true =>
    exfalso
    rw [contB_iff] at e
    obtain ⟨i, hi, hij⟩ := List.getElem_of_mem e
    have hkv : bAt m bs k = bs[k].toNat := by unfold bAt; rw [if_pos hk]; simp [List.getD_eq_getElem?_getD, hk]
    have hkn := h.rng _ (List.getElem_mem hk)
    have hp := List.pairwise_iff_getElem.1 h.up
    by_cases hik : i ≤ k
    · by_cases e2 : i = k
      · subst e2; omega
      · have := hp i k hi hk (by omega); omega
    · by_cases hk1 : k + 1 < bs.length
      · have hkv1 : bAt m bs (k + 1) = bs[k + 1].toNat := by unfold bAt; rw [if_pos hk1]; simp [List.getD_eq_getElem?_getD, hk1]
        by_cases e2 : i = k + 1
        · subst e2; omega
        · have := hp (k + 1) i hk1 hi (by omega); omega
      · omega
theorem Begs.ends {m : Nat} {bs : List Int} (h : Begs m bs) {k : Nat} (hk : k < bs.length) : (endsF m bs).getD k 0 = ((bAt m bs (k + 1) : Nat) : Int) := by
  unfold endsF
  by_cases hk1 : k + 1 < bs.length
  · rw [← (h.at hk1).1, List.getD_eq_getElem?_getD, List.getD_eq_getElem?_getD, List.getElem?_append_left (by simp; omega), List.getElem?_drop, show 1 + k = k + 1 by omega]
  · have e : k = (bs.drop 1).length := by simp; omega
    have e2 : bAt m bs (k + 1) = m := by unfold bAt; rw [if_neg hk1]
    rw [e2, e, getD_app_at]
theorem rest_seg (c : Cs) (rs : List Row) {bs : List Int} (n : Int) (h : Begs rs.length bs) {k : Nat} (hk : k < bs.length) :
    c.restAt rs bs n k = n - c.segN (rs.map (·.2.2)) (bAt rs.length bs k) (bAt rs.length bs (k + 1)) := by
  unfold Cs.restAt lineAt Cs.segN
  rw [h.ends hk, (h.at hk).1]
  simp [List.map_take, List.map_drop]

theorem great_line (c : Cs) (hc : c.Fair) (ws : List (List Int)) (hw : ∀ w ∈ ws, c.Word w) {bs : List Int} (n : Int) (h : Begs ws.length bs) {k : Nat} (hk : k < bs.length) :
    ∀ (d j : Nat) (most line : Int), j + d + 1 = bAt ws.length bs (k + 1) → bAt ws.length bs k ≤ j → (j = bAt ws.length bs k ∨ line = c.segN ws (bAt ws.length bs k) j) →
      c.greatS ws bs n (ws.length - j) j most line = if c.segN ws (bAt ws.length bs k) (bAt ws.length bs (k + 1)) > n then -1 else
        c.greatS ws bs n (ws.length - bAt ws.length bs (k + 1)) (bAt ws.length bs (k + 1)) (mx most (n - c.segN ws (bAt ws.length bs k) (bAt ws.length bs (k + 1)))) (c.segN ws (bAt ws.length bs k) (bAt ws.length bs (k + 1))) := by
  obtain ⟨h1, h2, h3, h4⟩ := h.at hk
  have hen := h.end' hk
  have hno := fun j => h.no (j := j) hk
  generalize bAt ws.length bs k = s at *
  generalize bAt ws.length bs (k + 1) = e at *
  intro d
  induction d with
  | zero =>
    intro j most line hj hsj hl
    have hjl : j < ws.length := by omega
    have hnew : (if contB bs (j : Int) = true then 2 * c.rim else line + c.blank) + c.need1 (ws.getD j []) = c.segN ws s (j + 1) := by
      rw [seg_succ c ws hsj hjl]
      rcases hl with rfl | rfl
      · rw [if_pos h4, seg_self]; omega
      · by_cases e2 : j = s
        · subst e2; rw [if_pos h4, seg_self]; omega
        · rw [hno j (by omega) (by omega)]; simp
    rw [show ws.length - j = (ws.length - (j + 1)) + 1 by omega, Cs.greatS, hnew]
    have hje : j + 1 = e := by omega
    subst hje
    rw [if_pos hen]
  | succ d ih =>
    intro j most line hj hsj hl
    have hjl : j < ws.length := by omega
    have hnew : (if contB bs (j : Int) = true then 2 * c.rim else line + c.blank) + c.need1 (ws.getD j []) = c.segN ws s (j + 1) := by
      rw [seg_succ c ws hsj hjl]
      rcases hl with rfl | rfl
      · rw [if_pos h4, seg_self]; omega
      · by_cases e2 : j = s
        · subst e2; rw [if_pos h4, seg_self]; omega
        · rw [hno j (by omega) (by omega)]; simp
    rw [show ws.length - j = (ws.length - (j + 1)) + 1 by omega, Cs.greatS, hnew]
    have hm := seg_mono c hc ws hw (s := s) (e - (j + 1)) (j + 1) (by omega) (by omega)
    rw [show j + 1 + (e - (j + 1)) = e by omega] at hm
    by_cases hg : c.segN ws s (j + 1) > n
    · rw [if_pos hg, if_pos (by omega)]
    · rw [if_neg hg]
      have hnb : ¬ (j + 1 = ws.length ∨ contB bs ((j + 1 : Nat) : Int) = true) := by
        rintro (h5 | h5)
        · omega
        · rw [hno (j + 1) (by omega) (by omega)] at h5; cases h5
      rw [if_neg hnb]
      exact ih (j + 1) most _ (by omega) (by omega) (.inr rfl)

theorem great_all (c : Cs) (hc : c.Fair) (rs : List Row) (hw : ∀ r ∈ rs, c.Word r.2.2) {bs : List Int} (n : Int) (h : Begs rs.length bs) :
    ∀ (d k : Nat) (most line : Int), k + d = bs.length → c.greatS (rs.map (·.2.2)) bs n (rs.length - bAt rs.length bs k) (bAt rs.length bs k) most line =
      if ∀ x ∈ (c.restN rs bs n bs.length).drop k, 0 ≤ x then ((c.restN rs bs n bs.length).drop k).foldl mx most else -1 := by
  have hlen : (rs.map (·.2.2)).length = rs.length := List.length_map ..
  have hws : ∀ w ∈ rs.map (·.2.2), c.Word w := fun w hw' => by obtain ⟨r, hr, rfl⟩ := List.mem_map.1 hw'; exact hw r hr
  have hrl := Cs.restN_len c rs bs n bs.length
  intro d
  induction d with
  | zero =>
    intro k most line hk
    have e1 : bAt rs.length bs k = rs.length := by unfold bAt; rw [if_neg (by omega)]
    rw [e1, Nat.sub_self, List.drop_of_length_le (by omega)]
    simp [Cs.greatS]
  | succ d ih =>
    intro k most line hk
    have hkl : k < bs.length := by omega
    obtain ⟨h1, h2, h3, h4⟩ := h.at hkl
    have hb' : Begs (rs.map (·.2.2)).length bs := by rw [hlen]; exact h
    have hg := great_line c hc (rs.map (·.2.2)) hws n hb' hkl (bAt rs.length bs (k + 1) - bAt rs.length bs k - 1) (bAt rs.length bs k) most line (by rw [hlen]; omega) (by rw [hlen]; omega) (.inl (by rw [hlen]))
    rw [hlen] at hg
    rw [hg]
    have hr := rest_seg c rs n h hkl
    have hd : (c.restN rs bs n bs.length).drop k = c.restAt rs bs n k :: (c.restN rs bs n bs.length).drop (k + 1) := by
      rw [List.drop_eq_getElem_cons (by omega)]
      congr 1
      simp [Cs.restN]
    rw [hd, ih (k + 1) _ _ (by omega)]
    have hseg : c.segN (rs.map (·.2.2)) (bAt rs.length bs k) (bAt rs.length bs (k + 1)) = n - c.restAt rs bs n k := by omega
    rw [hseg, show n - (n - c.restAt rs bs n k) = c.restAt rs bs n k by omega]
    by_cases h0 : 0 ≤ c.restAt rs bs n k
    · rw [if_neg (by omega)]
      by_cases hall : ∀ x ∈ (c.restN rs bs n bs.length).drop (k + 1), 0 ≤ x
      · rw [if_pos hall, if_pos (by
          intro x hx
          rcases List.mem_cons.1 hx with rfl | hx
          · exact h0
          · exact hall x hx)]
        rfl
      · rw [if_neg hall, if_neg (fun hx => hall fun x hx' => hx x (List.mem_cons_of_mem _ hx'))]
    · rw [if_pos (by omega), if_neg (fun hx => h0 (hx _ (by simp)))]

theorem minL_ge {xs : List Int} (hp : 0 < xs.length) : 0 ≤ minL xs xs.length ↔ ∀ x ∈ xs, 0 ≤ x := by
  cases xs with
  | nil => simp at hp
  | cons a l =>
    have e : minL (a :: l) (a :: l).length = l.foldl (fun a b => if b < a then b else a) a := by simp [minL]
    rw [e]
    have key : ∀ (l : List Int) (a : Int), 0 ≤ l.foldl (fun a b => if b < a then b else a) a ↔ 0 ≤ a ∧ ∀ x ∈ l, 0 ≤ x := by
      intro l
      induction l with
      | nil => intro a; simp
      | cons b l ih =>
        intro a
        rw [List.foldl_cons, ih]
        by_cases hb : b < a
        · rw [if_pos hb]
          constructor
          · rintro ⟨h1, h2⟩
            exact ⟨by omega, fun x hx => by rcases List.mem_cons.1 hx with rfl | hx; exact h1; exact h2 x hx⟩
          · rintro ⟨h1, h2⟩
            exact ⟨h2 b (by simp), fun x hx => h2 x (by simp [hx])⟩
        · rw [if_neg hb]
          constructor
          · rintro ⟨h1, h2⟩
            exact ⟨h1, fun x hx => by rcases List.mem_cons.1 hx with rfl | hx; omega; exact h2 x hx⟩
          · rintro ⟨h1, h2⟩
            exact ⟨h1, fun x hx => h2 x (by simp [hx])⟩
    rw [key]
    constructor
    · rintro ⟨h1, h2⟩ x hx
      rcases List.mem_cons.1 hx with rfl | hx
      · exact h1
      · exact h2 x hx
    · intro h
      exact ⟨h a (by simp), fun x hx => h x (by simp [hx])⟩

/-- What 'greatest' returns of beginnings of lines. -/
theorem great_is (c : Cs) (hc : c.Fair) (rs : List Row) (hw : ∀ r ∈ rs, c.Word r.2.2) {bs : List Int} (n : Int) (h : Begs rs.length bs) :
    c.greatF (rs.map (·.2.2)) bs n = if 0 ≤ c.leastR rs n bs then c.mostR rs n bs else -1 := by
  have hb0 : bAt rs.length bs 0 = 0 := by unfold bAt; rw [if_pos h.pos, h.zero]; rfl
  have hg := great_all c hc rs hw n h bs.length 0 (-1) 0 (by omega)
  rw [hb0, Nat.sub_zero, List.drop_zero] at hg
  unfold Cs.greatF
  rw [List.length_map, hg]
  have hrl := Cs.restN_len c rs bs n bs.length
  have hpos := h.pos
  have hmin := minL_ge (xs := c.restN rs bs n bs.length) (by omega)
  rw [hrl] at hmin
  unfold Cs.leastR Cs.mostR
  by_cases h0 : ∀ x ∈ c.restN rs bs n bs.length, 0 ≤ x
  · rw [if_pos h0, if_pos (hmin.2 h0)]
    generalize c.restN rs bs n bs.length = xs at *
    cases xs with
    | nil => simp at hrl; omega
    | cons a l =>
      rw [← hrl]
      have ha := h0 a (by simp)
      simp only [maxL, List.take_length, List.drop_succ_cons, List.drop_zero, List.getD_cons_zero, List.foldl_cons]
      have : mx (-1) a = a := by unfold mx; rw [if_pos (by omega)]
      rw [this]; rfl
  · rw [if_neg h0, if_neg (fun h1 => h0 (hmin.1 h1))]
end Go.Proofs.YtaekibilldjnmaaGreat
