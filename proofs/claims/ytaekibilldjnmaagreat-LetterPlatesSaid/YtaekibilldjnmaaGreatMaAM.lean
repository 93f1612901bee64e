/- LetterPlates: for every case in bytes, every list of words in bytes and every two lists of bytes the function returns true, and what it was handed reads as it did. No conditions. -/
import Derived.Test.YtaekibilldjnmaaGreatMaAL
import Derived.Test.YtaekibilldjnmaaGreatRows
import Derived.WalkKit
import Derived.ProofKit
import Derived.OpenShut
import Derived.ShutString
import Derived.ChangeOld
import Derived.Below
set_option linter.unusedVariables false
set_option linter.unusedSimpArgs false
set_option linter.unusedSectionVars false
namespace Go.Proofs.YtaekibilldjnmaaGreat
open Go.Proofs

/-- As 'seqS', with the objects at the end. -/
theorem WpV.seqT {P : Program} {r : Option Nat} {N : Nat} {x y : Code} {Q : Exit → Fr → List Nat → Hp → Prop} {fr : Fr} {D : List Nat} {H : Hp} (S : Fr) (H2 : Hp) (hx : WpV P r N x (Vthen (fun fr' D' H' => D' = D ∧ H' = H2 ∧ Sub S fr') Q) fr D H) (hy : WpV P r N y Q S D H2) : WpV P r N (.seq x y) Q fr D H := by
  refine WpV.seq (hx.mono fun e fr' D' H' h => ?_)
  cases e with
  | normal => obtain ⟨rfl, rfl, hs⟩ := h; exact hy.weaken hs
  | _ => exact h
/-- As 'seqT', whatever the objects are at the end. -/
theorem WpV.seqE {P : Program} {r : Option Nat} {N : Nat} {x y : Code} {Q : Exit → Fr → List Nat → Hp → Prop} {fr : Fr} {D : List Nat} {H : Hp} (K : Fr → Hp → Prop) (hx : WpV P r N x (Vthen (fun fr' D' H' => D' = D ∧ ∃ S, K S H' ∧ Sub S fr') Q) fr D H) (hy : ∀ S H', K S H' → WpV P r N y Q S D H') : WpV P r N (.seq x y) Q fr D H := by
  refine WpV.seq (hx.mono fun e fr' D' H' h => ?_)
  cases e with
  | normal => obtain ⟨rfl, S, hk, hs⟩ := h; exact (hy S H' hk).weaken hs
  | _ => exact h
theorem Bld.get {H0 H : Hp} {e : TypeId} {s m : Nat} {nl : Bool} {xs : List AV} {v : AV} (h : Bld H0 e s nl m xs v H) {k : Nat} {o : Ob} (hk : H0 k = some o) : H k = some o := by
  obtain ⟨-, ⟨-, -, -, rfl⟩ | ⟨-, id, ver, hid, -, rfl⟩⟩ := h
  · exact hk
  · rw [Hp.set_ne _ _ (fun e => by rw [e, hid] at hk; cases hk)]; exact hk
theorem Bld.under {H0 H : Hp} {e : TypeId} {s m : Nat} {nl : Bool} {xs : List AV} {v : AV} (h : Bld H0 e s nl m xs v H) {k : Nat} {o : Ob} (hk : H0 k = some o) (o' : Ob) : Bld (H0.set k (some o')) e s nl m xs v (H.set k (some o')) := by
  obtain ⟨h1, ⟨h2, h3, h4, rfl⟩ | ⟨h2, id, ver, hid, h3, rfl⟩⟩ := h
  · exact ⟨h1, .inl ⟨h2, h3, h4, rfl⟩⟩
  · have hne : id ≠ k := fun e => by rw [e, hk] at hid; cases hid
    exact ⟨h1, .inr ⟨h2, id, ver, by rw [Hp.set_ne _ _ hne]; exact hid, h3, Hp.set_comm _ _ _ hne⟩⟩

def usedC (o : List Int) : List AV := (List.range 6).map fun (p : Nat) => .bool (contB o (p : Int))
theorem usedC_len (o : List Int) : (usedC o).length = 6 := by simp [usedC]
theorem usedC_nil : usedC [] = [.bool false, .bool false, .bool false, .bool false, .bool false, .bool false] := by rfl
theorem usedC_at {o : List Int} {y : Int} (h0 : 0 ≤ y) (h6 : y < 6) : (usedC o)[y.toNat]? = some (.bool (contB o y)) := by
  have h : y.toNat < 6 := by omega
  have e : ((y.toNat : Nat) : Int) = y := by omega
  unfold usedC
  rw [List.getElem?_map, List.getElem?_range h]
  simp [e]
theorem usedC_set {o : List Int} {y : Int} (h0 : 0 ≤ y) (h6 : y < 6) : putC (usedC o) y.toNat [.bool true] = usedC (o ++ [y]) := by
  rw [putC_set _ _ _ (by rw [usedC_len]; omega)]
  refine List.ext_getElem? fun k => ?_
  by_cases hk : k < 6
  · rw [List.getElem?_set]
    have hl := usedC_len o
    by_cases e : y.toNat = k
    · subst e
      rw [if_pos rfl, if_pos (by omega), usedC_at h0 h6]
      rw [contB_iff.2 (by simp)]
    · rw [if_neg e]
      have h1 := usedC_at (o := o) (y := (k : Int)) (by omega) (by omega)
      have h2 := usedC_at (o := o ++ [y]) (y := (k : Int)) (by omega) (by omega)
      rw [Int.toNat_natCast] at h1 h2
      rw [h1, h2]
      have : contB o (k : Int) = contB (o ++ [y]) (k : Int) := by
        rw [Bool.eq_iff_iff, contB_iff, contB_iff]
        simp only [List.mem_append, List.mem_singleton]
        constructor
        · exact .inl
        · rintro (h | h)
          · exact h
          · omega
      rw [this]
  · rw [List.getElem?_eq_none (by rw [List.length_set, usedC_len]; omega), List.getElem?_eq_none (by rw [usedC_len]; omega)]

theorem many_words {c : Cs} (hc6 : c.ws.length = 6) {l : List RX} (hr : ∀ r ∈ l, r.ok) (k : Nat) : ∀ r ∈ manyN l k, c.Word r.2.2 := by
  intro r hr'
  unfold manyN at hr'
  obtain ⟨x, hx, rfl⟩ := List.mem_map.1 hr'
  have hx' := List.mem_of_mem_take hx
  cases x with
  | none => exact ⟨by decide, by decide, fun y hy => by
      have : y = 0 := by simpa [rowOf, wordX] using hy
      omega⟩
  | some p => exact wordF_word (hr _ hx' p rfl).1 hc6

def platesN (l0 : List Int) (k : Nat) : List Int := (l0.take k).map fun n => 1 + n
theorem platesN_succ (l0 : List Int) {k : Nat} (hk : k < l0.length) : platesN l0 (k + 1) = platesN l0 k ++ [1 + l0[k]] := by
  unfold platesN; rw [List.take_add_one, List.getElem?_eq_getElem hk, List.map_append]; rfl
theorem platesN_len (l0 : List Int) {k : Nat} (hk : k ≤ l0.length) : (platesN l0 k).length = k := by simp [platesN]; omega

theorem picks_own (c : Cs) (ws : List (List Int)) (ps : List Int) : ∀ (n : Nat) (b : List Int), picksN c.own ws ps n b = picksN c ws ps n b
  | 0, _ => rfl
  | n + 1, b => by
    rw [picksN, picksN]
    congr 1
    funext i
    rw [picks_own c ws ps n]
    rfl

/-- Plates that were taken, word by word. -/
structure Oth (c : Cs) (ws : List (List Int)) (ps : List Int) (i : Nat) (o : List Int) : Prop where
  len : o.length ≤ i
  rng : ∀ y ∈ o, 0 ≤ y ∧ y < ps.length
  nodup : o.Nodup
  ok : o.length = i → PickOk c ws ps o
theorem Oth.stay {c : Cs} {ws : List (List Int)} {ps : List Int} {i : Nat} {o : List Int} (h : Oth c ws ps i o) : Oth c ws ps (i + 1) o := ⟨by have := h.len; omega, h.rng, h.nodup, fun e => by have := h.len; omega⟩
theorem Oth.take {c : Cs} {ws : List (List Int)} {ps : List Int} {i : Nat} {o : List Int} (h : Oth c ws ps i o) {p : Nat} (hp : p < ps.length) (hn : contB o (p : Int) = false) (hf : c.needF [ws.getD i []] ≤ plateOf ps p) : Oth c ws ps (i + 1) (o ++ [(p : Int)]) := by
  have hn' : (p : Int) ∉ o := fun hm => by rw [contB_iff.2 hm] at hn; cases hn
  refine ⟨by have := h.len; simp; omega, fun y hy => ?_, ?_, fun e => ?_⟩
  · rcases List.mem_append.1 hy with hy | hy
    · exact h.rng y hy
    · have : y = (p : Int) := by simpa using hy
      omega
  · rw [List.nodup_append]
    exact ⟨h.nodup, by simp, fun x hx y hy e => by
      have : y = (p : Int) := by simpa using hy
      subst this; subst e; exact hn' hx⟩
  · have hol : o.length = i := by simpa using e
    refine (h.ok hol).snoc hp ?_
    unfold Cs.fits
    rw [hn, hol]
    simpa [plateOf] using hf
theorem plate_in {ps : List Int} (h : ∀ x ∈ ps, 1 ≤ x ∧ x ≤ 256) {y : Int} (h0 : 0 ≤ y) (h1 : y < ps.length) : 1 ≤ plateOf ps y ∧ plateOf ps y ≤ 256 ∧ (ps.map vint)[y.toNat]? = some (vint (plateOf ps y)) := by
  have hl : y.toNat < ps.length := by omega
  have e : plateOf ps y = ps[y.toNat] := by simp [plateOf, List.getD_eq_getElem?_getD, hl]
  have := h _ (List.getElem_mem hl)
  rw [e]
  exact ⟨this.1, this.2, by simp [hl]⟩
theorem pickLen_snoc (ps b : List Int) (y : Int) : pickLen ps (b ++ [y]) = pickLen ps b + plateOf ps y := by
  unfold pickLen; rw [List.map_append, List.sum_append]; simp
theorem pickLen_in {ps : List Int} (h : ∀ x ∈ ps, 1 ≤ x ∧ x ≤ 256) : ∀ {b : List Int}, (∀ y ∈ b, 0 ≤ y ∧ y < ps.length) → 0 ≤ pickLen ps b ∧ pickLen ps b ≤ 256 * (b.length : Int)
  | [], _ => by simp [pickLen]
  | y :: b, hb => by
    have h1 := plate_in h (hb y (by simp)).1 (hb y (by simp)).2
    have h2 := pickLen_in h (b := b) (fun z hz => hb z (by simp [hz]))
    have e : pickLen ps (y :: b) = plateOf ps y + pickLen ps b := by simp [pickLen]
    rw [e]
    simp only [List.length_cons]
    omega

set_option maxRecDepth 100000 in
set_option maxHeartbeats 16000000 in
theorem Plates_any (H : Hp) (x : TyA) (hx : x.Ok) (nl clip : Bool) (l : List RX) (hl : l.length ≤ 9223372036854775807) (hr : ∀ r ∈ l, r.ok) (nl0 cl0 nl1 cl1 : Bool) (l0 l1 : List Int) (hl0m : l0.length ≤ 9223372036854775807) (hl1m : l1.length ≤ 9223372036854775807) (hb0 : ∀ n ∈ l0, Byte n) (hb1 : ∀ n ∈ l1, Byte n) :
    CallV Tryz.prog 6 [.agg x.cells, .sl nl clip l.length (l.map rowX), .agg [.sl nl0 cl0 l0.length (l0.map vbyte), .sl nl1 cl1 l1.length (l1.map vbyte)]] H (fun r H' => r = .bool true ∧ H' = H) := by
  have hone : (x.cells.all AV.one) = true := by
    unfold TyA.cells
    rw [List.all_append]
    simp [AV.one]
  have hone2 : (([.sl nl0 cl0 l0.length (l0.map vbyte), .sl nl1 cl1 l1.length (l1.map vbyte)] : List AV).all AV.one) = true := by simp [AV.one]
  have hmk := made_any H x hx
  have hcV := made_valid hx
  have hc6 := made_len hx
  have htk : x.cells.take 10 = x.cells := List.take_of_length_le (by unfold TyA.cells; simp [hx.wd])
  have hlen : x.cells.length = 10 := by unfold TyA.cells; simp [hx.wd]
  generalize x.made = c at hmk hcV hc6
  have hF := hcV.fair
  have hmany := many_any H nl clip l hl hr
  have hrs : ∀ r ∈ manyF l, c.Word r.2.2 := many_words hc6 hr _
  have hr5 : (manyF l).length ≤ 5 := by
    have := manyN_len l (Nat.min_le_left l.length 5)
    show (manyN l _).length ≤ 5
    omega
  generalize manyF l = rs at hmany hrs hr5
  generalize hfl : decide (rs.length = 0) = fl at hmany
  have hv0 : ([.sl nl0 cl0 l0.length (l0.map vbyte), .sl nl1 cl1 l1.length (l1.map vbyte)] : List AV)[0]? = some (.sl nl0 cl0 l0.length (l0.map vbyte)) := rfl
  have hv1 : ([.sl nl0 cl0 l0.length (l0.map vbyte), .sl nl1 cl1 l1.length (l1.map vbyte)] : List AV)[1]? = some (.sl nl1 cl1 l1.length (l1.map vbyte)) := rfl
  have hvl : ([.sl nl0 cl0 l0.length (l0.map vbyte), .sl nl1 cl1 l1.length (l1.map vbyte)] : List AV).length = 2 := rfl
  generalize ([.sl nl0 cl0 l0.length (l0.map vbyte), .sl nl1 cl1 l1.length (l1.map vbyte)] : List AV) = vc at *
  have z0 : (0 : Int) ≤ 0 ∧ (0 : Int) < ((2 : Nat) : Int) := by decide
  have z1 : (0 : Int) ≤ 1 ∧ (1 : Int) < ((2 : Nat) : Int) := by decide
  have t0 : Int.toNat 0 = 0 := rfl
  have t1 : Int.toNat 1 = 1 := rfl
  have hm6 : min l0.length 6 ≤ 6 := Nat.min_le_right _ _
  have hml : min l0.length 6 ≤ l0.length := Nat.min_le_left _ _
  refine CallV.body Tryz.func6 rfl Tryz.ntmps6 (by rfl) ?_
  refine WpV.seq (WpV.regionE (by simp only [go_sem, reduceCtorEq, Nat.reduceAdd, Nat.reduceMul, Nat.reduceSub, Nat.reduceLT, Nat.reduceLeDiff, Nat.reduceEqDiff, Nat.reduceBEq, Nat.reducePow, hone, hone2]; rfl) (Marks.nil _) ?_)
  simp only [Vthen, VinBlock, if_true, if_false, Nat.reduceEqDiff, reduceCtorEq]
  refine WpV.seq (WpV.region ?_)
  refine WpOps.take 1 (by simp only [go_sem, reduceCtorEq, Nat.reduceAdd, Nat.reduceMul, Nat.reduceSub, Nat.reduceLT, Nat.reduceLeDiff, Nat.reduceEqDiff, Nat.reduceBEq, Nat.reducePow, htk, hlen]; rfl) ?_
  refine WpOps.step (by rfl) (by rfl) (OpW.callY rfl (by rfl) (by rfl) (by rfl) (enters_of Tryz.func8 (by kernel_rfl) rfl) ((hmk).mono ?_))
  rintro _ _ ⟨rfl, hH⟩
  replace hH := hH.symm
  subst hH
  refine WpOps.take 1 (by simp only [go_sem, reduceCtorEq, Nat.reduceAdd, Nat.reduceMul, Nat.reduceSub, Nat.reduceLT, Nat.reduceLeDiff, Nat.reduceEqDiff, Nat.reduceBEq, Nat.reducePow]; rfl) ?_
  refine WpOps.step (by rfl) (by rfl) (OpW.callY rfl (by rfl) (by rfl) (by rfl) (enters_of Tryz.func28 (by kernel_rfl) rfl) ((hmany).mono ?_))
  rintro _ _ ⟨rfl, hH⟩
  replace hH := hH.symm
  subst hH
  refine WpOps.take 1 (by simp only [go_sem, reduceCtorEq, Nat.reduceAdd, Nat.reduceMul, Nat.reduceSub, Nat.reduceLT, Nat.reduceLeDiff, Nat.reduceEqDiff, Nat.reduceBEq, Nat.reducePow]; rfl) ?_
  refine WpOps.step (by rfl) (by rfl) (OpW.alloc rfl (Tryz.ze32) (fun i7 f7 => ?_))
  refine WpOps.step (by rfl) (by rfl) (OpW.store (ty := 32) (id := i7) (ver := 0) (off := 0) rfl (by simp only [go_sem, reduceCtorEq, Nat.reduceAdd, Nat.reduceMul, Nat.reduceSub, Nat.reduceLT, Nat.reduceLeDiff, Nat.reduceEqDiff, Nat.reduceBEq, Nat.reducePow]; try rfl) (by simp only [go_sem, reduceCtorEq, Nat.reduceAdd, Nat.reduceMul, Nat.reduceSub, Nat.reduceLT, Nat.reduceLeDiff, Nat.reduceEqDiff, Nat.reduceBEq, Nat.reducePow]; try rfl) (Hp.set_eq _ _ _) (by simp only [go_sem, reduceCtorEq, Nat.reduceAdd, Nat.reduceMul, Nat.reduceSub, Nat.reduceLT, Nat.reduceLeDiff, Nat.reduceEqDiff, Nat.reduceBEq, Nat.reducePow]; try rfl) (by exact Tryz.sz32) (by simp) ?_)
  rw [Hp.set_set]
  refine WpOps.take 2 (by simp only [go_sem, reduceCtorEq, Nat.reduceAdd, Nat.reduceMul, Nat.reduceSub, Nat.reduceLT, Nat.reduceLeDiff, Nat.reduceEqDiff, Nat.reduceBEq, Nat.reducePow]; rfl) (WpOps.nil ⟨Marks.nil _, ?_⟩)
  simp only [Vthen, VinBlock, if_true, if_false, Nat.reduceEqDiff, reduceCtorEq]
  refine WpV.pre (Frz.ptr (t := 7) (id := i7) rfl (Hp.set_eq _ _ _)) (Marks.nil _) ?_
  rw [Hp.set_set, Hp.set_same _ _ _ f7]
  -- the plates
  refine WpV.seqS [(5, .cp vc 0), (7, .cp c.cells 0), (8, vrows false fl rs), (9, vints false (decide ((platesN l0 (min l0.length 6)).length = 0)) (platesN l0 (min l0.length 6)))] ?_ ?_
  · refine WpV.seq (WpV.regionE (by simp only [go_sem, reduceCtorEq, Nat.reduceAdd, Nat.reduceMul, Nat.reduceSub, Nat.reduceLT, Nat.reduceLeDiff, Nat.reduceEqDiff, Nat.reduceBEq, Nat.reducePow]; rfl) (Marks.nil _) ?_)
    simp only [Vthen, VinBlock, if_true, if_false, Nat.reduceEqDiff, reduceCtorEq]
    refine WpV.block (WpV.loopB 3 1 false (min l0.length 6) (fun _ => True) (fun k => k) (fun k => (platesN l0 k).map vint) (fun k v => [(5, .cp vc 0), (7, .cp c.cells 0), (8, vrows false fl rs), (9, v), (10, vint k)]) trivial (Bld.nil H 3 1 false) ?_ ?_)
    · exact .cons rfl rfl (.cons rfl rfl (.cons rfl rfl (.cons rfl rfl (.cons rfl rfl (.nil _)))))
    · intro k hk _ v H1 hB
      have hk' : k ≤ l0.length := by omega
      have hend : k = min l0.length 6 → (v = v) → Frz [(5, .cp vc 0), (7, .cp c.cells 0), (8, vrows false fl rs), (9, v), (10, vint k)] H1 ((9, vints false (decide ((platesN l0 (min l0.length 6)).length = 0)) (platesN l0 (min l0.length 6))) :: [(5, .cp vc 0), (7, .cp c.cells 0), (8, vrows false fl rs), (9, v), (10, vint k)]) H := by
        intro e _
        have := hB.frz (fr := [(5, .cp vc 0), (7, .cp c.cells 0), (8, vrows false fl rs), (9, v), (10, vint k)]) (t := 9) rfl
        have hkl := platesN_len l0 hk'
        rw [← e]
        show Frz _ _ ((9, AV.sl false (decide ((platesN l0 k).length = 0)) (platesN l0 k).length _) :: _) _
        rw [hkl]
        exact this
      refine WpV.seq ?_
      by_cases h1 : (k : Int) < (l0.length : Int)
      · by_cases h6 : (k : Int) < 6
        · have hlt' : k < l0.length := by omega
          have hg : (l0.map vbyte)[k]? = some (vbyte l0[k]) := by simp [hlt']
          have hbb := hb0 l0[k] (List.getElem_mem _)
          unfold Byte at hbb
          have hwr : IntKind.i64.wrap l0[k] = l0[k] := wrap64 (by omega)
          have hws : IntKind.i64.wrap (1 + l0[k]) = 1 + l0[k] := wrap64 (by omega)
          refine WpV.seq (WpV.regionE (by simp only [go_sem, reduceCtorEq, Nat.reduceAdd, Nat.reduceMul, Nat.reduceSub, Nat.reduceLT, Nat.reduceLeDiff, Nat.reduceEqDiff, Nat.reduceBEq, Nat.reducePow, z0, t0, hv0, hvl, h1, h6]; rfl) (Marks.nil _) ?_)
          simp only [Vthen, VinBlock, if_true, if_false, Nat.reduceEqDiff, reduceCtorEq]
          refine WpV.cond rfl (fun hb => WpV.skip ?_) (fun hb => by cases hb)
          simp only [Vthen, VinBlock, if_true, if_false, Nat.reduceEqDiff, reduceCtorEq]
          refine WpV.seq (WpV.block ?_)
          refine WpV.region ?_
          refine WpOps.take 9 (by simp only [go_sem, reduceCtorEq, Nat.reduceAdd, Nat.reduceMul, Nat.reduceSub, Nat.reduceLT, Nat.reduceLeDiff, Nat.reduceEqDiff, Nat.reduceBEq, Nat.reducePow, z0, t0, hv0, hvl, h1, hg, hwr, hws]; rfl) ?_
          refine WpOps.step (by rfl) (by rfl) (OpW.appendB (m := 1) (ys := [vint (1 + l0[k])]) rfl hB rfl rfl rfl (Tryz.el29 (by omega)) Tryz.underlying29 rfl rfl (by decide) (fun v' H' hB' => ?_))
          refine WpOps.take 1 (by simp only [go_sem, reduceCtorEq, Nat.reduceAdd, Nat.reduceMul, Nat.reduceSub, Nat.reduceLT, Nat.reduceLeDiff, Nat.reduceEqDiff, Nat.reduceBEq, Nat.reducePow]; rfl) (WpOps.nil ⟨Marks.nil _, ?_⟩)
          simp only [Vthen, VinBlock, if_true, if_false, Nat.reduceEqDiff, reduceCtorEq]
          refine WpV.regionE (by simp only [go_sem, reduceCtorEq, Nat.reduceAdd, Nat.reduceMul, Nat.reduceSub, Nat.reduceLT, Nat.reduceLeDiff, Nat.reduceEqDiff, Nat.reduceBEq, Nat.reducePow]; rfl) (Marks.nil _) ?_
          simp only [Vthen, VinBlock, if_true, if_false, Nat.reduceEqDiff, reduceCtorEq]
          refine ⟨by first | rfl | trivial, by omega, trivial, v', ?_, .cons rfl rfl (.cons rfl rfl (.cons rfl rfl (.cons rfl rfl (.cons rfl ?_ (.nil _)))))⟩
          · rw [platesN_succ l0 hlt', List.map_append]; exact hB'
          · rw [wrap64 (by omega)]; rfl
        · refine WpV.seq (WpV.regionE (by simp only [go_sem, reduceCtorEq, Nat.reduceAdd, Nat.reduceMul, Nat.reduceSub, Nat.reduceLT, Nat.reduceLeDiff, Nat.reduceEqDiff, Nat.reduceBEq, Nat.reducePow, z0, t0, hv0, hvl, h1, h6]; rfl) (Marks.nil _) ?_)
          simp only [Vthen, VinBlock, if_true, if_false, Nat.reduceEqDiff, reduceCtorEq]
          refine WpV.cond rfl (fun hb => by cases hb) (fun hb => ?_)
          refine WpV.weaken (fr' := [(5, .cp vc 0), (7, .cp c.cells 0), (8, vrows false fl rs), (9, v), (10, vint k)]) ?_ (Sub.cons rfl rfl (Sub.cons rfl rfl (Sub.cons rfl rfl (Sub.cons rfl rfl (Sub.cons rfl rfl (Sub.nil _))))))
          refine WpV.pre (hend (by omega) rfl) (Marks.nil _) (WpV.exit ?_)
          simp only [Vthen, VinBlock, if_true, if_false, Nat.reduceEqDiff, reduceCtorEq]
          exact ⟨by first | rfl | trivial, by first | rfl | trivial, Sub.cons rfl rfl (Sub.cons rfl rfl (Sub.cons rfl rfl (Sub.cons rfl rfl (Sub.nil _))))⟩
      · refine WpV.seq (WpV.regionE (by simp only [go_sem, reduceCtorEq, Nat.reduceAdd, Nat.reduceMul, Nat.reduceSub, Nat.reduceLT, Nat.reduceLeDiff, Nat.reduceEqDiff, Nat.reduceBEq, Nat.reducePow, z0, t0, hv0, hvl, h1]; rfl) (Marks.nil _) ?_)
        simp only [Vthen, VinBlock, if_true, if_false, Nat.reduceEqDiff, reduceCtorEq]
        refine WpV.cond rfl (fun hb => by cases hb) (fun hb => ?_)
        refine WpV.weaken (fr' := [(5, .cp vc 0), (7, .cp c.cells 0), (8, vrows false fl rs), (9, v), (10, vint k)]) ?_ (Sub.cons rfl rfl (Sub.cons rfl rfl (Sub.cons rfl rfl (Sub.cons rfl rfl (Sub.cons rfl rfl (Sub.nil _))))))
        refine WpV.pre (hend (by omega) rfl) (Marks.nil _) (WpV.exit ?_)
        simp only [Vthen, VinBlock, if_true, if_false, Nat.reduceEqDiff, reduceCtorEq]
        exact ⟨by first | rfl | trivial, by first | rfl | trivial, Sub.cons rfl rfl (Sub.cons rfl rfl (Sub.cons rfl rfl (Sub.cons rfl rfl (Sub.nil _))))⟩
  have hp6 : (platesN l0 (min l0.length 6)).length ≤ 6 := by rw [platesN_len l0 hml]; exact hm6
  have hpx : ∀ y ∈ platesN l0 (min l0.length 6), 1 ≤ y ∧ y ≤ 256 := fun y hy => by
    unfold platesN at hy
    obtain ⟨n, hn, rfl⟩ := List.mem_map.1 hy
    have := hb0 n (List.mem_of_mem_take hn)
    unfold Byte at this
    omega
  generalize platesN l0 (min l0.length 6) = ps at hp6 hpx ⊢
  generalize hpc : decide (ps.length = 0) = pc
  -- what is picked
  have hdn := own_any H c hcV.ok
  have hli := lists_copy H false fl rs (by omega) (fun r hr => by have := (hrs r hr).2.1; omega)
  have hip := ints_any H false pc ps (by omega)
  have hcl : (rs.map copyR).length = rs.length := List.length_map ..
  have hws' : (rs.map copyR).map (·.2.2) = rs.map (·.2.2) := by rw [List.map_map]; rfl
  have hPk := Pick_any H c.own (own_valid hcV) false (decide (rs.length = 0)) false (decide (ps.length = 0)) (rs.map copyR) ps (by omega) hp6 (by
    rw [Cs.wordsB, List.all_eq_true]
    intro r hr
    obtain ⟨r', hr', rfl⟩ := List.mem_map.1 hr
    exact Cs.word_iff.2 (hrs r' hr')) (fun y hy => by have := hpx y hy; omega)
  rw [hws', hcl, picks_own] at hPk
  have hPk' : CallV Tryz.prog 32 [.agg c.own.cells, vrows false (decide (rs.length = 0)) (rs.map copyR), vints false (decide (ps.length = 0)) ps] H (fun r H' => r = pickV (pickF ps (picksN c (rs.map (·.2.2)) ps rs.length [])) ∧ H' = H) := hPk
  clear hPk
  generalize hws : rs.map (·.2.2) = ws at hPk'
  have hgd : ∀ i, (hi : i < rs.length) → ws.getD i [] = rs[i].2.2 := fun i hi => by rw [← hws]; simp [List.getD_eq_getElem?_getD, hi]
  obtain ⟨pk, nlp, clp, e, hpV, hpL, hpP, hpE⟩ : ∃ (pk : List Int) (nlp clp : Bool) (e : Int), pickV (pickF ps (picksN c ws ps rs.length [])) = .tup [vints nlp clp pk, vint e] ∧ pk.length ≤ rs.length ∧ PickOk c ws ps pk ∧
      ((e = 9 ∧ pk = [] ∧ ∀ x : List Int, x.length = rs.length → ¬ PickOk c ws ps x) ∨
       (e = 0 ∧ pk.length = rs.length ∧ ∀ x : List Int, x.length = rs.length → PickOk c ws ps x → pickLen ps pk ≤ pickLen ps x ∧ (pickLen ps x = pickLen ps pk → lessF x pk = false))) := by
    cases hp : pickF ps (picksN c ws ps rs.length []) with
    | none => exact ⟨[], true, true, 9, rfl, Nat.zero_le _, PickOk.nil _ _ _, .inl ⟨rfl, rfl, pick_lost hp⟩⟩
    | some r =>
      obtain ⟨h1, h2, -, h4⟩ := pick_found hp
      exact ⟨r.1, r.1.isEmpty, r.1.isEmpty, 0, rfl, by omega, h2, .inr ⟨rfl, h1, h4⟩⟩
  rw [hpV] at hPk'
  refine WpV.seq (WpV.region ?_)
  refine WpOps.take 1 (by simp only [go_sem, reduceCtorEq, Nat.reduceAdd, Nat.reduceMul, Nat.reduceSub, Nat.reduceLT, Nat.reduceLeDiff, Nat.reduceEqDiff, Nat.reduceBEq, Nat.reducePow]; rfl) ?_
  refine WpOps.step (by rfl) (by rfl) (OpW.callY rfl (by rfl) (by rfl) (by rfl) (enters_of Tryz.func11 (by kernel_rfl) rfl) ((hdn).mono ?_))
  rintro _ _ ⟨rfl, hH⟩
  replace hH := hH.symm
  subst hH
  refine WpOps.take 1 (by simp only [go_sem, reduceCtorEq, Nat.reduceAdd, Nat.reduceMul, Nat.reduceSub, Nat.reduceLT, Nat.reduceLeDiff, Nat.reduceEqDiff, Nat.reduceBEq, Nat.reducePow]; rfl) ?_
  refine WpOps.step (by rfl) (by rfl) (OpW.callY rfl (by rfl) (by rfl) (by rfl) (enters_of Tryz.func30 (by kernel_rfl) rfl) ((hli).mono ?_))
  rintro _ _ ⟨rfl, hH⟩
  replace hH := hH.symm
  subst hH
  refine WpOps.take 1 (by simp only [go_sem, reduceCtorEq, Nat.reduceAdd, Nat.reduceMul, Nat.reduceSub, Nat.reduceLT, Nat.reduceLeDiff, Nat.reduceEqDiff, Nat.reduceBEq, Nat.reducePow]; rfl) ?_
  refine WpOps.step (by rfl) (by rfl) (OpW.callY rfl (by rfl) (by rfl) (by rfl) (enters_of Tryz.func12 (by kernel_rfl) rfl) ((hip).mono ?_))
  rintro _ _ ⟨rfl, hH⟩
  replace hH := hH.symm
  subst hH
  refine WpOps.step (by rfl) (by rfl) (OpW.callY rfl (by rfl) (by rfl) (by rfl) (enters_of Tryz.func32 (by kernel_rfl) rfl) ((hPk').mono ?_))
  rintro _ _ ⟨rfl, hH⟩
  replace hH := hH.symm
  subst hH
  refine WpOps.take 5 (by simp only [go_sem, reduceCtorEq, Nat.reduceAdd, Nat.reduceMul, Nat.reduceSub, Nat.reduceLT, Nat.reduceLeDiff, Nat.reduceEqDiff, Nat.reduceBEq, Nat.reducePow]; rfl) (WpOps.nil ⟨Marks.nil _, ?_⟩)
  simp only [Vthen, VinBlock, if_true, if_false, Nat.reduceEqDiff, reduceCtorEq]
  have hpk5 : pk.length ≤ 5 := by omega
  refine WpV.seqS [(5, .cp vc 0), (7, .cp c.cells 0), (8, vrows false fl rs), (9, vints false pc ps), (11, vints nlp clp pk), (12, vint e)] ?_ ?_
  · have n99 : ((9 : Int) != 0) = true := rfl
    have n9 : ((9 : Int) != 9) = false := rfl
    have n00 : ((0 : Int) != 0) = false := rfl
    have e90 : ((9 : Int) == 0) = false := rfl
    have e00 : ((0 : Int) == 0) = true := rfl
    rcases hpE with ⟨rfl, rfl, -⟩ | ⟨rfl, h2, -⟩
    · have l0' : (((([] : List Int).length : Nat) : Int) != 0) = false := rfl
      refine WpV.seq (WpV.region ?_)
      refine WpOps.take 8 (by simp only [go_sem, reduceCtorEq, Nat.reduceAdd, Nat.reduceMul, Nat.reduceSub, Nat.reduceLT, Nat.reduceLeDiff, Nat.reduceEqDiff, Nat.reduceBEq, Nat.reducePow, n99, n9, e90, l0']; rfl) ?_
      refine WpOps.take 8 (by simp only [go_sem, reduceCtorEq, Nat.reduceAdd, Nat.reduceMul, Nat.reduceSub, Nat.reduceLT, Nat.reduceLeDiff, Nat.reduceEqDiff, Nat.reduceBEq, Nat.reducePow, n99, n9, e90, l0']; rfl) ?_
      refine WpOps.take 6 (by simp only [go_sem, reduceCtorEq, Nat.reduceAdd, Nat.reduceMul, Nat.reduceSub, Nat.reduceLT, Nat.reduceLeDiff, Nat.reduceEqDiff, Nat.reduceBEq, Nat.reducePow, n99, n9, e90, l0']; rfl) (WpOps.nil ⟨Marks.nil _, ?_⟩)
      simp only [Vthen, VinBlock, if_true, if_false, Nat.reduceEqDiff, reduceCtorEq]
      refine WpV.cond rfl (fun hb => by cases hb) (fun hb => WpV.skip ?_)
      simp only [Vthen, VinBlock, if_true, if_false, Nat.reduceEqDiff, reduceCtorEq]
      exact ⟨by first | rfl | trivial, by first | rfl | trivial, Sub.cons rfl rfl (Sub.cons rfl rfl (Sub.cons rfl rfl (Sub.cons rfl rfl (Sub.cons rfl rfl (Sub.cons rfl rfl (Sub.nil _))))))⟩
    · have nn : ((pk.length : Int) != (rs.length : Int)) = false := by rw [h2]; simp
      refine WpV.seq (WpV.region ?_)
      refine WpOps.take 8 (by simp only [go_sem, reduceCtorEq, Nat.reduceAdd, Nat.reduceMul, Nat.reduceSub, Nat.reduceLT, Nat.reduceLeDiff, Nat.reduceEqDiff, Nat.reduceBEq, Nat.reducePow, n00, e00, nn]; rfl) ?_
      refine WpOps.take 8 (by simp only [go_sem, reduceCtorEq, Nat.reduceAdd, Nat.reduceMul, Nat.reduceSub, Nat.reduceLT, Nat.reduceLeDiff, Nat.reduceEqDiff, Nat.reduceBEq, Nat.reducePow, n00, e00, nn]; rfl) ?_
      refine WpOps.take 6 (by simp only [go_sem, reduceCtorEq, Nat.reduceAdd, Nat.reduceMul, Nat.reduceSub, Nat.reduceLT, Nat.reduceLeDiff, Nat.reduceEqDiff, Nat.reduceBEq, Nat.reducePow, n00, e00, nn]; rfl) (WpOps.nil ⟨Marks.nil _, ?_⟩)
      simp only [Vthen, VinBlock, if_true, if_false, Nat.reduceEqDiff, reduceCtorEq]
      refine WpV.cond rfl (fun hb => by cases hb) (fun hb => WpV.skip ?_)
      simp only [Vthen, VinBlock, if_true, if_false, Nat.reduceEqDiff, reduceCtorEq]
      exact ⟨by first | rfl | trivial, by first | rfl | trivial, Sub.cons rfl rfl (Sub.cons rfl rfl (Sub.cons rfl rfl (Sub.cons rfl rfl (Sub.cons rfl rfl (Sub.cons rfl rfl (Sub.nil _))))))⟩
  have hpr := hpP.rng
  -- each plate is used once
  have hdrop : ∀ (iu : Nat), H iu = none → ∀ o, (H.set iu o).set iu none = H := fun iu h o => by rw [Hp.set_set, Hp.set_same _ _ _ h]
  have hnd : ∀ (H : Hp) (i : Nat) (hi : i < rs.length), CallV Tryz.prog 13 [.agg c.cells, vints rs[i].1 rs[i].2.1 rs[i].2.2] H (fun r H' => r = vint (c.needF [ws.getD i []]) ∧ H' = H) := fun H i hi => by
    rw [hgd i hi]; exact needs_any H c hcV _ _ _ (hrs _ (List.getElem_mem _))
  have hgr : ∀ (i : Nat) (hi : i < rs.length), (rs.map rowV)[i]? = some (vints rs[i].1 rs[i].2.1 rs[i].2.2) := fun i hi => by simp [hi, rowV]
  refine WpV.seq (WpV.region ?_)
  refine WpOps.take 1 (by simp only [go_sem, reduceCtorEq, Nat.reduceAdd, Nat.reduceMul, Nat.reduceSub, Nat.reduceLT, Nat.reduceLeDiff, Nat.reduceEqDiff, Nat.reduceBEq, Nat.reducePow]; rfl) ?_
  refine WpOps.step (by rfl) (by rfl) (OpW.alloc rfl (Tryz.ze68) (fun iu fu => ?_))
  refine WpOps.take 1 (by simp only [go_sem, reduceCtorEq, Nat.reduceAdd, Nat.reduceMul, Nat.reduceSub, Nat.reduceLT, Nat.reduceLeDiff, Nat.reduceEqDiff, Nat.reduceBEq, Nat.reducePow]; rfl) ?_
  refine WpOps.step (by rfl) (by rfl) (OpW.store (ty := 68) (id := iu) (ver := 0) (off := 0) rfl (by simp only [go_sem, reduceCtorEq, Nat.reduceAdd, Nat.reduceMul, Nat.reduceSub, Nat.reduceLT, Nat.reduceLeDiff, Nat.reduceEqDiff, Nat.reduceBEq, Nat.reducePow]; try rfl) (by simp only [go_sem, reduceCtorEq, Nat.reduceAdd, Nat.reduceMul, Nat.reduceSub, Nat.reduceLT, Nat.reduceLeDiff, Nat.reduceEqDiff, Nat.reduceBEq, Nat.reducePow]; try rfl) (Hp.set_eq _ _ _) (by simp only [go_sem, reduceCtorEq, Nat.reduceAdd, Nat.reduceMul, Nat.reduceSub, Nat.reduceLT, Nat.reduceLeDiff, Nat.reduceEqDiff, Nat.reduceBEq, Nat.reducePow]; try rfl) (by exact Tryz.sz68) (by simp) ?_)
  refine WpOps.nil ⟨Marks.nil _, ?_⟩
  rw [Hp.set_set]
  simp only [putC, List.take_zero, List.nil_append, List.length_cons, List.length_nil, Nat.zero_add, List.drop_succ_cons, List.drop_zero, List.append_nil]
  rw [← usedC_nil]
  simp only [Vthen, VinBlock, if_true, if_false, Nat.reduceEqDiff, reduceCtorEq]
  refine WpV.seqT [(5, .cp vc 0), (7, .cp c.cells 0), (8, vrows false fl rs), (9, vints false pc ps), (11, vints nlp clp pk), (12, vint e), (13, vint (pickLen ps pk))] H ?_ ?_
  · refine WpV.seq (WpV.regionE (by simp only [go_sem, reduceCtorEq, Nat.reduceAdd, Nat.reduceMul, Nat.reduceSub, Nat.reduceLT, Nat.reduceLeDiff, Nat.reduceEqDiff, Nat.reduceBEq, Nat.reducePow]; rfl) (Marks.nil _) ?_)
    simp only [Vthen, VinBlock, if_true, if_false, Nat.reduceEqDiff, reduceCtorEq]
    refine WpV.block (WpV.loopN pk.length (fun k => [(5, .cp vc 0), (7, .cp c.cells 0), (8, vrows false fl rs), (9, vints false pc ps), (11, vints nlp clp pk), (12, vint e), (13, vint (pickLen ps (pk.take k))), (14, .rp iu 0 0), (15, vint k)]) (fun k => H.set iu (some (.cells 68 0 (usedC (pk.take k))))) ?_ ?_ ?_)
    · exact .cons rfl rfl (.cons rfl rfl (.cons rfl rfl (.cons rfl rfl (.cons rfl rfl (.cons rfl rfl (.cons rfl rfl (.cons rfl rfl (.cons rfl rfl (.nil _)))))))))
    · rfl
    · intro k hk
      refine WpV.seq ?_
      refine WpV.seq (WpV.regionE (by simp only [go_sem, reduceCtorEq, Nat.reduceAdd, Nat.reduceMul, Nat.reduceSub, Nat.reduceLT, Nat.reduceLeDiff, Nat.reduceEqDiff, Nat.reduceBEq, Nat.reducePow]; rfl) (Marks.nil _) ?_)
      simp only [Vthen, VinBlock, if_true, if_false, Nat.reduceEqDiff, reduceCtorEq]
      refine WpV.cond rfl (fun hb => WpV.skip ?_) (fun hb => ?_)
      · have hlt : (k : Int) < (pk.length : Int) := of_decide_eq_true ‹_›
        have hlt' : k < pk.length := by omega
        have hkr : (k : Int) < (rs.length : Int) := by omega
        have hgy := ints_get pk hlt'
        have hyr := hpr pk[k] (List.getElem_mem _)
        have hgdy : pk.getD k 0 = pk[k] := by simp [List.getD_eq_getElem?_getD, hlt']
        have hfit := hpP.fit k hlt'
        rw [hgdy] at hfit
        have htk1 : pk.take (k + 1) = pk.take k ++ [pk[k]] := by rw [List.take_add_one, List.getElem?_eq_getElem hlt']; rfl
        have hnot : contB (pk.take k) pk[k] = false := by
          cases ec : contB (pk.take k) pk[k] with
          | false => rfl
          | true =>
            exfalso
            have hm := contB_iff.1 ec
            have hnd2 : (pk.take k ++ [pk[k]]).Nodup := by rw [← htk1]; exact hpP.nodup.sublist (List.take_sublist _ _)
            exact (List.nodup_append.1 hnd2).2.2 _ hm _ (by simp) rfl
        obtain ⟨q1, q2, q3⟩ := plate_in hpx hyr.1 hyr.2
        have hpl := pickLen_in hpx (b := pk.take k) (fun z hz => hpr z (List.mem_of_mem_take hz))
        have hpl5 : (pk.take k).length ≤ 5 := by simp; omega
        rw [htk1, pickLen_snoc]
        obtain ⟨hy0, hyl⟩ := hyr
        have hy6 : pk[k] < 6 := by omega
        have hset := usedC_set (o := pk.take k) hy0 hy6
        have hat := usedC_at (o := pk.take k) hy0 hy6
        rw [hnot] at hat
        have hul := usedC_len (pk.take k)
        generalize usedC (pk.take k) = U at *
        generalize hs1 : pickLen ps (pk.take k) = s1 at *
        generalize pk[k] = y at *
        generalize hn1 : (pk.take k).length = n1 at *
        have hy0' : ¬ (y < 0) := by omega
        have hyl' : ¬ (y ≥ (ps.length : Int)) := by omega
        have hy6' : y < ((6 : Nat) : Int) := by omega
        have hgt : ¬ (c.needF [ws.getD k []] > plateOf ps y) := by omega
        have hwr : IntKind.i64.wrap (s1 + plateOf ps y) = s1 + plateOf ps y := wrap64 (by omega)
        have hgrk := hgr k (by omega)
        have hndk := hnd (H.set iu (some (.cells 68 0 U))) k (by omega)
        simp only [Vthen, VinBlock, if_true, if_false, Nat.reduceEqDiff, reduceCtorEq]
        refine WpV.seq (WpV.block ?_)
        refine WpV.seq ?_
        refine WpV.seq (WpV.regionD Tryz.mixed (by kernel_rfl) (by kernel_rfl) ?_)
        refine LexD.take 8 (by rfl) (by simp only [go_sem, reduceCtorEq, Nat.reduceAdd, Nat.reduceMul, Nat.reduceSub, Nat.reduceLT, Nat.reduceLeDiff, Nat.reduceEqDiff, Nat.reduceBEq, Nat.reducePow, hlt, hgy, hy0, hy0', hyl, hyl', hy6', hat, hkr, hgrk, q3, hgt]; rfl) ?_
        refine LexD.take 8 (by rfl) (by simp only [go_sem, reduceCtorEq, Nat.reduceAdd, Nat.reduceMul, Nat.reduceSub, Nat.reduceLT, Nat.reduceLeDiff, Nat.reduceEqDiff, Nat.reduceBEq, Nat.reducePow, hlt, hgy, hy0, hy0', hyl, hyl', hy6', hat, hkr, hgrk, q3, hgt]; rfl) ?_
        refine LexD.take 8 (by rfl) (by simp only [go_sem, reduceCtorEq, Nat.reduceAdd, Nat.reduceMul, Nat.reduceSub, Nat.reduceLT, Nat.reduceLeDiff, Nat.reduceEqDiff, Nat.reduceBEq, Nat.reducePow, hlt, hgy, hy0, hy0', hyl, hyl', hy6', hat, hkr, hgrk, q3, hgt]; rfl) ?_
        refine LexD.take 4 (by rfl) (by simp only [go_sem, reduceCtorEq, Nat.reduceAdd, Nat.reduceMul, Nat.reduceSub, Nat.reduceLT, Nat.reduceLeDiff, Nat.reduceEqDiff, Nat.reduceBEq, Nat.reducePow, hlt, hgy, hy0, hy0', hyl, hyl', hy6', hat, hkr, hgrk, q3, hgt]; rfl) ?_
        refine LexD.step (by rfl) (by rfl) (OpW.callY rfl (by rfl) (by rfl) (by rfl) (enters_of Tryz.func13 (by kernel_rfl) rfl) (hndk)) ?_
        refine LexD.take 8 (by rfl) (by simp only [go_sem, reduceCtorEq, Nat.reduceAdd, Nat.reduceMul, Nat.reduceSub, Nat.reduceLT, Nat.reduceLeDiff, Nat.reduceEqDiff, Nat.reduceBEq, Nat.reducePow, hlt, hgy, hy0, hy0', hyl, hyl', hy6', hat, hkr, hgrk, q3, hgt]; rfl) ?_
        refine LexD.take 1 (by rfl) (by simp only [go_sem, reduceCtorEq, Nat.reduceAdd, Nat.reduceMul, Nat.reduceSub, Nat.reduceLT, Nat.reduceLeDiff, Nat.reduceEqDiff, Nat.reduceBEq, Nat.reducePow, hlt, hgy, hy0, hy0', hyl, hyl', hy6', hat, hkr, hgrk, q3, hgt]; rfl) (LexD.nilE ⟨Marks.nil _, ?_⟩)
        simp only [Vthen, VinBlock, if_true, if_false, Nat.reduceEqDiff, reduceCtorEq]
        refine WpV.cond rfl (fun hb => by cases hb) (fun hb => WpV.skip ?_)
        simp only [Vthen, VinBlock, if_true, if_false, Nat.reduceEqDiff, reduceCtorEq]
        refine WpV.seq (WpV.region ?_)
        refine WpOps.take 5 (by simp only [go_sem, reduceCtorEq, Nat.reduceAdd, Nat.reduceMul, Nat.reduceSub, Nat.reduceLT, Nat.reduceLeDiff, Nat.reduceEqDiff, Nat.reduceBEq, Nat.reducePow, hlt, hgy, hy0, hy6']; rfl) ?_
        refine WpOps.step (by rfl) (by rfl) (OpW.store (ty := 68) (id := iu) (ver := 0) (off := y.toNat) (cs := U) rfl (by simp only [go_sem, reduceCtorEq, Nat.reduceAdd, Nat.reduceMul, Nat.reduceSub, Nat.reduceLT, Nat.reduceLeDiff, Nat.reduceEqDiff, Nat.reduceBEq, Nat.reducePow]; try rfl) (by simp only [go_sem, reduceCtorEq, Nat.reduceAdd, Nat.reduceMul, Nat.reduceSub, Nat.reduceLT, Nat.reduceLeDiff, Nat.reduceEqDiff, Nat.reduceBEq, Nat.reducePow]; try rfl) (Hp.set_eq _ _ _) (by simp only [go_sem, reduceCtorEq, Nat.reduceAdd, Nat.reduceMul, Nat.reduceSub, Nat.reduceLT, Nat.reduceLeDiff, Nat.reduceEqDiff, Nat.reduceBEq, Nat.reducePow]; try rfl) (by exact Tryz.sz4) (by simp; omega) ?_)
        refine WpOps.nil ⟨Marks.nil _, ?_⟩
        rw [Hp.set_set, hset]
        simp only [Vthen, VinBlock, if_true, if_false, Nat.reduceEqDiff, reduceCtorEq]
        refine WpV.regionE (by simp only [go_sem, reduceCtorEq, Nat.reduceAdd, Nat.reduceMul, Nat.reduceSub, Nat.reduceLT, Nat.reduceLeDiff, Nat.reduceEqDiff, Nat.reduceBEq, Nat.reducePow, hlt, hgy, hy0, hyl, q3, hwr]; rfl) (Marks.nil _) ?_
        simp only [Vthen, VinBlock, if_true, if_false, Nat.reduceEqDiff, reduceCtorEq]
        refine WpV.regionE (by simp only [go_sem, reduceCtorEq, Nat.reduceAdd, Nat.reduceMul, Nat.reduceSub, Nat.reduceLT, Nat.reduceLeDiff, Nat.reduceEqDiff, Nat.reduceBEq, Nat.reducePow]; rfl) (Marks.nil _) ?_
        simp only [Vthen, VinBlock, if_true, if_false, Nat.reduceEqDiff, reduceCtorEq]
        refine ⟨by first | rfl | trivial, hlt', .cons rfl rfl (.cons rfl rfl (.cons rfl rfl (.cons rfl rfl (.cons rfl rfl (.cons rfl rfl (.cons rfl rfl (.cons rfl rfl (.cons rfl ?_ (.nil _))))))))), by first | rfl | trivial⟩
        rw [wrap64 (by omega)]; rfl
      · have hge : k = pk.length := by have := of_decide_eq_false ‹_›; omega
        subst hge
        rw [List.take_length]
        refine WpV.pre (Frz.drop _ _ iu) (Marks.nil _) (WpV.exit ?_)
        rw [hdrop iu fu]
        simp only [Vthen, VinBlock, if_true, if_false, Nat.reduceEqDiff, reduceCtorEq]
        exact ⟨by first | rfl | trivial, by first | rfl | trivial, Sub.cons rfl rfl (Sub.cons rfl rfl (Sub.cons rfl rfl (Sub.cons rfl rfl (Sub.cons rfl rfl (Sub.cons rfl rfl (Sub.cons rfl rfl (Sub.nil _)))))))⟩
  -- plates by bytes
  refine WpV.seq (WpV.region ?_)
  refine WpOps.take 2 (by simp only [go_sem, reduceCtorEq, Nat.reduceAdd, Nat.reduceMul, Nat.reduceSub, Nat.reduceLT, Nat.reduceLeDiff, Nat.reduceEqDiff, Nat.reduceBEq, Nat.reducePow]; rfl) ?_
  refine WpOps.step (by rfl) (by rfl) (OpW.alloc rfl (Tryz.ze68) (fun it ft => ?_))
  refine WpOps.take 2 (by simp only [go_sem, reduceCtorEq, Nat.reduceAdd, Nat.reduceMul, Nat.reduceSub, Nat.reduceLT, Nat.reduceLeDiff, Nat.reduceEqDiff, Nat.reduceBEq, Nat.reducePow]; rfl) ?_
  refine WpOps.step (by rfl) (by rfl) (OpW.store (ty := 68) (id := it) (ver := 0) (off := 0) rfl (by simp only [go_sem, reduceCtorEq, Nat.reduceAdd, Nat.reduceMul, Nat.reduceSub, Nat.reduceLT, Nat.reduceLeDiff, Nat.reduceEqDiff, Nat.reduceBEq, Nat.reducePow]; try rfl) (by simp only [go_sem, reduceCtorEq, Nat.reduceAdd, Nat.reduceMul, Nat.reduceSub, Nat.reduceLT, Nat.reduceLeDiff, Nat.reduceEqDiff, Nat.reduceBEq, Nat.reducePow]; try rfl) (Hp.set_eq _ _ _) (by simp only [go_sem, reduceCtorEq, Nat.reduceAdd, Nat.reduceMul, Nat.reduceSub, Nat.reduceLT, Nat.reduceLeDiff, Nat.reduceEqDiff, Nat.reduceBEq, Nat.reducePow]; try rfl) (by exact Tryz.sz68) (by simp) ?_)
  refine WpOps.nil ⟨Marks.nil _, ?_⟩
  rw [Hp.set_set]
  simp only [putC, List.take_zero, List.nil_append, List.length_cons, List.length_nil, Nat.zero_add, List.drop_succ_cons, List.drop_zero, List.append_nil]
  rw [← usedC_nil]
  simp only [Vthen, VinBlock, if_true, if_false, Nat.reduceEqDiff, reduceCtorEq]
  refine WpV.seq ?_
  refine WpV.seq (WpV.regionE (by simp only [go_sem, reduceCtorEq, Nat.reduceAdd, Nat.reduceMul, Nat.reduceSub, Nat.reduceLT, Nat.reduceLeDiff, Nat.reduceEqDiff, Nat.reduceBEq, Nat.reducePow]; rfl) (Marks.nil _) ?_)
  simp only [Vthen, VinBlock, if_true, if_false, Nat.reduceEqDiff, reduceCtorEq]
  refine WpV.block (WpV.loop (ι := { q : Nat × List Int × AV × Hp // q.1 ≤ rs.length ∧ Oth c ws ps q.1 q.2.1 ∧ Bld (H.set it (some (.cells 68 0 (usedC q.2.1)))) 3 1 false q.2.1.length (q.2.1.map vint) q.2.2.1 q.2.2.2 })
    (fun q => [(5, .cp vc 0), (7, .cp c.cells 0), (8, vrows false fl rs), (9, vints false pc ps), (11, vints nlp clp pk), (12, vint e), (13, vint (pickLen ps pk)), (16, q.1.2.2.1), (17, vint (pickLen ps q.1.2.1)), (18, .rp it 0 0), (19, vint q.1.1)]) (fun q => q.1.2.2.2) (fun q => rs.length - q.1.1)
    ⟨(0, [], .sl false true 0 [], H.set it (some (.cells 68 0 (usedC [])))), Nat.zero_le _, ⟨Nat.le_refl _, fun y hy => (by cases hy), List.nodup_nil, fun _ => PickOk.nil _ _ _⟩, Bld.nil _ 3 1 false⟩ ?_ rfl ?_)
  · exact (Sub.cons rfl rfl (Sub.cons rfl rfl (Sub.cons rfl rfl (Sub.cons rfl rfl (Sub.cons rfl rfl (Sub.cons rfl rfl (Sub.cons rfl rfl (Sub.cons rfl rfl (Sub.cons rfl rfl (Sub.cons rfl rfl (Sub.cons rfl rfl (Sub.nil _))))))))))))
  rintro ⟨⟨i, o, v, H1⟩, hi, hO, hB⟩
  simp only at hi hO hB ⊢
  have hit : H1 it = some (.cells 68 0 (usedC o)) := hB.get (Hp.set_eq _ _ _)
  have hol := hO.len
  refine WpV.seq ?_
  refine WpV.seq (WpV.regionE (by simp only [go_sem, reduceCtorEq, Nat.reduceAdd, Nat.reduceMul, Nat.reduceSub, Nat.reduceLT, Nat.reduceLeDiff, Nat.reduceEqDiff, Nat.reduceBEq, Nat.reducePow]; rfl) (Marks.nil _) ?_)
  simp only [Vthen, VinBlock, if_true, if_false, Nat.reduceEqDiff, reduceCtorEq]
  refine WpV.cond rfl (fun hb => WpV.skip ?_) (fun hb => ?_)
  · have hltI : (i : Int) < (rs.length : Int) := of_decide_eq_true ‹_›
    have hlti : i < rs.length := by omega
    have hni : IntKind.i64.wrap ((i : Int) + 1) = ((i + 1 : Nat) : Int) := by rw [wrap64 (by omega)]; rfl
    have hgri := hgr i hlti
    simp only [Vthen, VinBlock, if_true, if_false, Nat.reduceEqDiff, reduceCtorEq]
    refine WpV.seq (WpV.block ?_)
    refine WpV.seq (WpV.regionE (by simp only [go_sem, reduceCtorEq, Nat.reduceAdd, Nat.reduceMul, Nat.reduceSub, Nat.reduceLT, Nat.reduceLeDiff, Nat.reduceEqDiff, Nat.reduceBEq, Nat.reducePow]; rfl) (Marks.nil _) ?_)
    simp only [Vthen, VinBlock, if_true, if_false, Nat.reduceEqDiff, reduceCtorEq]
    refine WpV.block (WpV.loopN ps.length (fun k => [(5, .cp vc 0), (7, .cp c.cells 0), (8, vrows false fl rs), (9, vints false pc ps), (11, vints nlp clp pk), (12, vint e), (13, vint (pickLen ps pk)), (16, v), (17, vint (pickLen ps o)), (18, .rp it 0 0), (19, vint i), (20, vint k)]) (fun _ => H1) ?_ rfl ?_)
    · exact (Sub.cons rfl rfl (Sub.cons rfl rfl (Sub.cons rfl rfl (Sub.cons rfl rfl (Sub.cons rfl rfl (Sub.cons rfl rfl (Sub.cons rfl rfl (Sub.cons rfl rfl (Sub.cons rfl rfl (Sub.cons rfl rfl (Sub.cons rfl rfl (Sub.cons rfl rfl (Sub.nil _)))))))))))))
    · intro k hk
      refine WpV.seq ?_
      refine WpV.seq (WpV.regionE (by simp only [go_sem, reduceCtorEq, Nat.reduceAdd, Nat.reduceMul, Nat.reduceSub, Nat.reduceLT, Nat.reduceLeDiff, Nat.reduceEqDiff, Nat.reduceBEq, Nat.reducePow]; rfl) (Marks.nil _) ?_)
      simp only [Vthen, VinBlock, if_true, if_false, Nat.reduceEqDiff, reduceCtorEq]
      refine WpV.cond rfl (fun hb => WpV.skip ?_) (fun hb => WpV.exit ?_)
      · have hltk : (k : Int) < (ps.length : Int) := of_decide_eq_true ‹_›
        have hltk' : k < ps.length := by omega
        have hnk : IntKind.i64.wrap ((k : Int) + 1) = ((k + 1 : Nat) : Int) := by rw [wrap64 (by omega)]; rfl
        obtain ⟨p, hp, hpE'⟩ : ∃ p : Nat, p < ps.length ∧ (if i < l1.length then ((k : Int) + l1.getD i 0).tmod (ps.length : Int) else (k : Int)) = (p : Int) := by
          split
          · rename_i h1
            have hbb := hb1 _ (getD_mem (xs := l1) h1)
            unfold Byte at hbb
            have e1 := Int.tmod_eq_emod_of_nonneg (a := (k : Int) + l1.getD i 0) (b := (ps.length : Int)) (by omega)
            have h2 := Int.emod_nonneg ((k : Int) + l1.getD i 0) (b := (ps.length : Int)) (by omega)
            have h3 := Int.emod_lt_of_pos ((k : Int) + l1.getD i 0) (b := (ps.length : Int)) (by omega)
            exact ⟨(((k : Int) + l1.getD i 0).tmod (ps.length : Int)).toNat, by omega, by omega⟩
          · exact ⟨k, hltk', rfl⟩
        simp only [Vthen, VinBlock, if_true, if_false, Nat.reduceEqDiff, reduceCtorEq]
        refine WpV.seq (WpV.block ?_)
        refine WpV.seq (WpV.regionE (by simp only [go_sem, reduceCtorEq, Nat.reduceAdd, Nat.reduceMul, Nat.reduceSub, Nat.reduceLT, Nat.reduceLeDiff, Nat.reduceEqDiff, Nat.reduceBEq, Nat.reducePow]; rfl) (Marks.nil _) ?_)
        simp only [Vthen, VinBlock, if_true, if_false, Nat.reduceEqDiff, reduceCtorEq]
        refine WpV.seqS [(5, .cp vc 0), (7, .cp c.cells 0), (8, vrows false fl rs), (9, vints false pc ps), (11, vints nlp clp pk), (12, vint e), (13, vint (pickLen ps pk)), (16, v), (17, vint (pickLen ps o)), (18, .rp it 0 0), (19, vint i), (20, vint k), (21, vint (p : Int))] ?_ ?_
        · by_cases h1 : i < l1.length
          · rw [if_pos h1] at hpE'
            have hi1 : (i : Int) < (l1.length : Int) := by omega
            have hgb : (l1.map vbyte)[i]? = some (vbyte (l1.getD i 0)) := by simp [List.getD_eq_getElem?_getD, h1]
            have hbb := hb1 _ (getD_mem (xs := l1) h1)
            unfold Byte at hbb
            generalize l1.getD i 0 = bb at hgb hpE' hbb
            have hwb : IntKind.i64.wrap bb = bb := wrap64 (by omega)
            have hwk : IntKind.i64.wrap ((k : Int) + bb) = (k : Int) + bb := wrap64 (by omega)
            have hne : ¬ ((ps.length : Int) = 0) := by omega
            refine WpV.seq (WpV.regionE (by simp only [go_sem, reduceCtorEq, Nat.reduceAdd, Nat.reduceMul, Nat.reduceSub, Nat.reduceLT, Nat.reduceLeDiff, Nat.reduceEqDiff, Nat.reduceBEq, Nat.reducePow, z1, t1, hv1, hvl, hi1]; rfl) (Marks.nil _) ?_)
            simp only [Vthen, VinBlock, if_true, if_false, Nat.reduceEqDiff, reduceCtorEq]
            refine WpV.cond rfl (fun hb => ?_) (fun hb => by cases hb)
            refine WpV.regionE (by simp only [go_sem, reduceCtorEq, Nat.reduceAdd, Nat.reduceMul, Nat.reduceSub, Nat.reduceLT, Nat.reduceLeDiff, Nat.reduceEqDiff, Nat.reduceBEq, Nat.reducePow, z1, t1, hv1, hvl, hi1, hgb, hwb, hwk, hne, hpE']; rfl) (Marks.nil _) ?_
            simp only [Vthen, VinBlock, if_true, if_false, Nat.reduceEqDiff, reduceCtorEq]
            exact ⟨by first | rfl | trivial, by first | rfl | trivial, (Sub.cons rfl rfl (Sub.cons rfl rfl (Sub.cons rfl rfl (Sub.cons rfl rfl (Sub.cons rfl rfl (Sub.cons rfl rfl (Sub.cons rfl rfl (Sub.cons rfl rfl (Sub.cons rfl rfl (Sub.cons rfl rfl (Sub.cons rfl rfl (Sub.cons rfl rfl (Sub.cons rfl rfl (Sub.nil _))))))))))))))⟩
          · rw [if_neg h1] at hpE'
            have hi1 : ¬ ((i : Int) < (l1.length : Int)) := by omega
            refine WpV.seq (WpV.regionE (by simp only [go_sem, reduceCtorEq, Nat.reduceAdd, Nat.reduceMul, Nat.reduceSub, Nat.reduceLT, Nat.reduceLeDiff, Nat.reduceEqDiff, Nat.reduceBEq, Nat.reducePow, z1, t1, hv1, hvl, hi1]; rfl) (Marks.nil _) ?_)
            simp only [Vthen, VinBlock, if_true, if_false, Nat.reduceEqDiff, reduceCtorEq]
            refine WpV.cond rfl (fun hb => by cases hb) (fun hb => WpV.skip ?_)
            simp only [Vthen, VinBlock, if_true, if_false, Nat.reduceEqDiff, reduceCtorEq]
            exact ⟨by first | rfl | trivial, by first | rfl | trivial, (Sub.cons rfl rfl (Sub.cons rfl rfl (Sub.cons rfl rfl (Sub.cons rfl rfl (Sub.cons rfl rfl (Sub.cons rfl rfl (Sub.cons rfl rfl (Sub.cons rfl rfl (Sub.cons rfl rfl (Sub.cons rfl rfl (Sub.cons rfl rfl (Sub.cons rfl rfl (Sub.cons rfl (by rw [hpE']) (Sub.nil _))))))))))))))⟩
        have hpI : (p : Int) < (ps.length : Int) := by omega
        have hp6' : (p : Int) < ((6 : Nat) : Int) := by omega
        have hatp := usedC_at (o := o) (y := (p : Int)) (by omega) (by omega)
        rw [Int.toNat_natCast] at hatp
        obtain ⟨q1, q2, q3⟩ := plate_in hpx (y := (p : Int)) (by omega) hpI
        rw [Int.toNat_natCast] at q3
        cases hct : contB o (p : Int)
        · rw [hct] at hatp
          by_cases hf : c.needF [ws.getD i []] ≤ plateOf ps p
          · refine WpV.seq (WpV.regionD Tryz.mixed (by kernel_rfl) (by kernel_rfl) ?_)
            refine LexD.take 8 (by rfl) (by simp only [go_sem, reduceCtorEq, Nat.reduceAdd, Nat.reduceMul, Nat.reduceSub, Nat.reduceLT, Nat.reduceLeDiff, Nat.reduceEqDiff, Nat.reduceBEq, Nat.reducePow, hit, hp6', hatp, hltI, hgri, hpI, q3, hf]; rfl) ?_
            refine LexD.take 2 (by rfl) (by simp only [go_sem, reduceCtorEq, Nat.reduceAdd, Nat.reduceMul, Nat.reduceSub, Nat.reduceLT, Nat.reduceLeDiff, Nat.reduceEqDiff, Nat.reduceBEq, Nat.reducePow, hit, hp6', hatp, hltI, hgri, hpI, q3, hf]; rfl) ?_
            refine LexD.step (by rfl) (by rfl) (OpW.callY rfl (by rfl) (by rfl) (by rfl) (enters_of Tryz.func13 (by kernel_rfl) rfl) (hnd H1 i hlti)) ?_
            refine LexD.take 6 (by rfl) (by simp only [go_sem, reduceCtorEq, Nat.reduceAdd, Nat.reduceMul, Nat.reduceSub, Nat.reduceLT, Nat.reduceLeDiff, Nat.reduceEqDiff, Nat.reduceBEq, Nat.reducePow, hit, hp6', hatp, hltI, hgri, hpI, q3, hf]; rfl) (LexD.nilE ⟨Marks.nil _, ?_⟩)
            simp only [Vthen, VinBlock, if_true, if_false, Nat.reduceEqDiff, reduceCtorEq]
            refine WpV.cond rfl (fun hb => ?_) (fun hb => by cases hb)
            have hset := usedC_set (o := o) (y := (p : Int)) (by omega) (by omega)
            rw [Int.toNat_natCast] at hset
            refine WpV.seq (WpV.region ?_)
            refine WpOps.take 2 (by simp only [go_sem, reduceCtorEq, Nat.reduceAdd, Nat.reduceMul, Nat.reduceSub, Nat.reduceLT, Nat.reduceLeDiff, Nat.reduceEqDiff, Nat.reduceBEq, Nat.reducePow, hit, hp6']; rfl) ?_
            refine WpOps.step (by rfl) (by rfl) (OpW.store (ty := 68) (id := it) (ver := 0) (off := p) (cs := usedC o) rfl (by simp only [go_sem, reduceCtorEq, Nat.reduceAdd, Nat.reduceMul, Nat.reduceSub, Nat.reduceLT, Nat.reduceLeDiff, Nat.reduceEqDiff, Nat.reduceBEq, Nat.reducePow]; try rfl) (by simp only [go_sem, reduceCtorEq, Nat.reduceAdd, Nat.reduceMul, Nat.reduceSub, Nat.reduceLT, Nat.reduceLeDiff, Nat.reduceEqDiff, Nat.reduceBEq, Nat.reducePow]; try rfl) hit (by simp only [go_sem, reduceCtorEq, Nat.reduceAdd, Nat.reduceMul, Nat.reduceSub, Nat.reduceLT, Nat.reduceLeDiff, Nat.reduceEqDiff, Nat.reduceBEq, Nat.reducePow]; try rfl) (by exact Tryz.sz4) (by rw [usedC_len]; simp only [List.length_singleton]; omega) ?_)
            refine WpOps.nil ⟨Marks.nil _, ?_⟩
            rw [hset]
            have hB2 := hB.under (k := it) (Hp.set_eq _ _ _) (.cells 68 0 (usedC (o ++ [(p : Int)])))
            rw [Hp.set_set] at hB2
            have hO2 := hO.take hp hct hf
            have hpl := pickLen_in hpx (b := o) hO.rng
            have hwL : IntKind.i64.wrap (pickLen ps o + plateOf ps p) = pickLen ps (o ++ [(p : Int)]) := by rw [pickLen_snoc]; exact wrap64 (by omega)
            generalize hH2 : H1.set it _ = H2 at hB2 ⊢
            generalize hBs : H.set it (some (.cells 68 0 (usedC (o ++ [(p : Int)])))) = Bs at hB2
            simp only [Vthen, VinBlock, if_true, if_false, Nat.reduceEqDiff, reduceCtorEq]
            refine WpV.seqE (fun S H' => ∃ v', S = [(5, .cp vc 0), (7, .cp c.cells 0), (8, vrows false fl rs), (9, vints false pc ps), (11, vints nlp clp pk), (12, vint e), (13, vint (pickLen ps pk)), (16, v'), (17, vint (pickLen ps (o ++ [(p : Int)]))), (18, .rp it 0 0), (19, vint i)] ∧ Bld Bs 3 1 false (o ++ [(p : Int)]).length ((o ++ [(p : Int)]).map vint) v' H') ?_ ?_
            · obtain ⟨hb1', ⟨hm, ho, rfl, rfl⟩ | ⟨hm, id, ver, hid, rfl, rfl⟩⟩ := hB2
              · have ho' : o = [] := List.eq_nil_of_length_eq_zero hm
                subst ho'
                refine WpV.regionC (H := H2) Tryz.mixed (by kernel_rfl) (by kernel_rfl) (fun j => decide (j = 3)) (fun ids b => if b 3 = true then H2.set (ids 3) (some (.cells 3 0 [vint (p : Int)])) else H2) (fun ids => by simp) (fun ids ids' b hb => by
                  by_cases h : b 3 = true
                  · simp only [h, if_true, hb 3 (by simp) h]
                  · simp only [if_neg h]) (fun ids b j hj hb => by
                  have : j = 3 := of_decide_eq_true hj
                  subst this
                  simp [hb, Hp.set]) (fun ids b id _ hn => by
                  by_cases h : b 3 = true
                  · simp only [h, if_true, Hp.set] at hn
                    split at hn
                    · cases hn
                    · exact hn
                  · simpa only [if_neg h] using hn) ?_
                refine LexC.pure (by rfl) (by rfl) (fun _ => rfl) (fun ids b _ => by simp [upd]) (fun ids b _ => OpW.evX (by simp only [go_sem, reduceCtorEq, Nat.reduceAdd, Nat.reduceMul, Nat.reduceSub, Nat.reduceLT, Nat.reduceLeDiff, Nat.reduceEqDiff, Nat.reduceBEq, Nat.reducePow]; rfl)) ?_
                refine LexC.pure (by rfl) (by rfl) (fun _ => rfl) (fun ids b _ => by simp [upd]) (fun ids b _ => OpW.evX (by simp only [go_sem, reduceCtorEq, Nat.reduceAdd, Nat.reduceMul, Nat.reduceSub, Nat.reduceLT, Nat.reduceLeDiff, Nat.reduceEqDiff, Nat.reduceBEq, Nat.reducePow]; rfl)) ?_
                refine LexC.pure (by rfl) (by rfl) (fun _ => rfl) (fun ids b _ => by simp [upd]) (fun ids b _ => OpW.evX (by simp only [go_sem, reduceCtorEq, Nat.reduceAdd, Nat.reduceMul, Nat.reduceSub, Nat.reduceLT, Nat.reduceLeDiff, Nat.reduceEqDiff, Nat.reduceBEq, Nat.reducePow]; rfl)) ?_
                refine LexC.new (fun id => .rs id 0 1 0 1 false) (.cells 3 0 [vint (p : Int)]) rfl (by rfl) (by rfl) (fun _ => rfl) (fun ids b g => OpW.append (nl := false) (len := 0) (cells := []) (m := 1) (ys := [vint (p : Int)]) rfl rfl rfl rfl (Tryz.el29 (by omega)) Tryz.underlying29 (by simp) rfl rfl (by decide) (fun id hid => ⟨id, hid, rfl, rfl⟩)) (fun ids b g hn => by have := g.not; simp [upd, this]) ?_
                refine LexC.pure (by rfl) (by rfl) (fun _ => rfl) (fun ids b _ => by simp [upd]) (fun ids b _ => OpW.evX (by simp only [go_sem, reduceCtorEq, Nat.reduceAdd, Nat.reduceMul, Nat.reduceSub, Nat.reduceLT, Nat.reduceLeDiff, Nat.reduceEqDiff, Nat.reduceBEq, Nat.reducePow]; rfl)) ?_
                refine LexC.pure (by rfl) (by rfl) (fun _ => rfl) (fun ids b _ => by simp [upd]) (fun ids b _ => OpW.evX (by simp only [go_sem, reduceCtorEq, Nat.reduceAdd, Nat.reduceMul, Nat.reduceSub, Nat.reduceLT, Nat.reduceLeDiff, Nat.reduceEqDiff, Nat.reduceBEq, Nat.reducePow]; rfl)) ?_
                refine LexC.pure (by rfl) (by rfl) (fun _ => rfl) (fun ids b _ => by simp [upd]) (fun ids b _ => OpW.evX (by simp only [go_sem, reduceCtorEq, Nat.reduceAdd, Nat.reduceMul, Nat.reduceSub, Nat.reduceLT, Nat.reduceLeDiff, Nat.reduceEqDiff, Nat.reduceBEq, Nat.reducePow]; rfl)) ?_
                refine LexC.pure (by rfl) (by rfl) (fun _ => rfl) (fun ids b _ => by simp [upd]) (fun ids b _ => OpW.evX (by simp only [go_sem, reduceCtorEq, Nat.reduceAdd, Nat.reduceMul, Nat.reduceSub, Nat.reduceLT, Nat.reduceLeDiff, Nat.reduceEqDiff, Nat.reduceBEq, Nat.reducePow, hpI]; rfl)) ?_
                refine LexC.pure (by rfl) (by rfl) (fun _ => rfl) (fun ids b _ => by simp [upd]) (fun ids b _ => OpW.evX (by simp only [go_sem, reduceCtorEq, Nat.reduceAdd, Nat.reduceMul, Nat.reduceSub, Nat.reduceLT, Nat.reduceLeDiff, Nat.reduceEqDiff, Nat.reduceBEq, Nat.reducePow, q3]; rfl)) ?_
                refine LexC.pure (by rfl) (by rfl) (fun _ => rfl) (fun ids b _ => by simp [upd]) (fun ids b _ => OpW.evX (by simp only [go_sem, reduceCtorEq, Nat.reduceAdd, Nat.reduceMul, Nat.reduceSub, Nat.reduceLT, Nat.reduceLeDiff, Nat.reduceEqDiff, Nat.reduceBEq, Nat.reducePow, hwL]; rfl)) ?_
                refine LexC.idsP (fun id => .rs id 0 1 0 1 false) 3 (by rfl) (by rfl) (fun _ => rfl) (by decide) (fun ids b _ => by simp [upd]) (fun ids b _ => OpW.evX (by simp only [go_sem, reduceCtorEq, Nat.reduceAdd, Nat.reduceMul, Nat.reduceSub, Nat.reduceLT, Nat.reduceLeDiff, Nat.reduceEqDiff, Nat.reduceBEq, Nat.reducePow])) ?_
                refine LexC.pure (by rfl) (by rfl) (fun _ => rfl) (fun ids b _ => by simp [upd]) (fun ids b _ => OpW.evX (by simp only [go_sem, reduceCtorEq, Nat.reduceAdd, Nat.reduceMul, Nat.reduceSub, Nat.reduceLT, Nat.reduceLeDiff, Nat.reduceEqDiff, Nat.reduceBEq, Nat.reducePow]; rfl)) ?_
                refine LexC.nilE fun ids hfr => ⟨Marks.nil _, ?_⟩
                simp only [Vthen, VinBlock, if_true, if_false, Nat.reduceEqDiff, reduceCtorEq]
                refine ⟨by first | rfl | trivial, _, ⟨.rs (ids 3) 0 1 0 1 false, rfl, ?_⟩, (Sub.cons rfl rfl (Sub.cons rfl rfl (Sub.cons rfl rfl (Sub.cons rfl rfl (Sub.cons rfl rfl (Sub.cons rfl rfl (Sub.cons rfl rfl (Sub.cons rfl rfl (Sub.cons rfl rfl (Sub.cons rfl rfl (Sub.cons rfl rfl (Sub.nil _))))))))))))⟩
                exact ⟨by simp, .inr ⟨by simp, ids 3, 0, hfr 3, by simp, by simp⟩⟩
              · refine WpV.regionC Tryz.mixed (by kernel_rfl) (by kernel_rfl) (fun _ => false) (fun _ b => if b 3 = true then Bs.set id (some (.cells 3 (ver + 1) ((o ++ [(p : Int)]).map vint))) else Bs.set id (some (.cells 3 ver (o.map vint)))) (fun ids => by simp) (fun ids ids' b hb => rfl) (fun ids b j hj hb => by cases hj) (fun ids b id' _ hn => by
                  by_cases h : b 3 = true
                  · simp only [h, if_true, Hp.set] at hn ⊢
                    split at hn
                    · cases hn
                    · rename_i hne; rw [if_neg hne]; exact hn
                  · simpa only [if_neg h] using hn) ?_
                refine LexC.pure (by rfl) (by rfl) (fun _ => rfl) (fun ids b _ => by simp [upd]) (fun ids b _ => OpW.evX (by simp only [go_sem, reduceCtorEq, Nat.reduceAdd, Nat.reduceMul, Nat.reduceSub, Nat.reduceLT, Nat.reduceLeDiff, Nat.reduceEqDiff, Nat.reduceBEq, Nat.reducePow]; rfl)) ?_
                refine LexC.pure (by rfl) (by rfl) (fun _ => rfl) (fun ids b _ => by simp [upd]) (fun ids b _ => OpW.evX (by simp only [go_sem, reduceCtorEq, Nat.reduceAdd, Nat.reduceMul, Nat.reduceSub, Nat.reduceLT, Nat.reduceLeDiff, Nat.reduceEqDiff, Nat.reduceBEq, Nat.reducePow]; rfl)) ?_
                refine LexC.pure (by rfl) (by rfl) (fun _ => rfl) (fun ids b _ => by simp [upd]) (fun ids b _ => OpW.evX (by simp only [go_sem, reduceCtorEq, Nat.reduceAdd, Nat.reduceMul, Nat.reduceSub, Nat.reduceLT, Nat.reduceLeDiff, Nat.reduceEqDiff, Nat.reduceBEq, Nat.reducePow]; rfl)) ?_
                refine LexC.eff (x := .rs id (ver + 1) 1 0 (o.length + 1) false) (by rfl) (by rfl) (fun _ => rfl) (fun ids b g => ?_) ?_
                · have hn := g.not
                  have e1 : (if b 3 = true then Bs.set id (some (.cells 3 (ver + 1) ((o ++ [(p : Int)]).map vint))) else Bs.set id (some (.cells 3 ver (o.map vint)))) = Bs.set id (some (.cells 3 ver (o.map vint))) := by rw [hn]; rfl
                  simp only [e1]
                  refine OpW.appendO (m := 1) (ys := [vint (p : Int)]) rfl rfl (Hp.set_eq _ _ _) rfl rfl (Tryz.el29 (by omega)) Tryz.underlying29 (by simp) rfl rfl ⟨rfl, ?_⟩
                  rw [Hp.set_set]
                  simp [upd, List.take_of_length_le]
                refine LexC.pure (by rfl) (by rfl) (fun _ => rfl) (fun ids b _ => by simp [upd]) (fun ids b _ => OpW.evX (by simp only [go_sem, reduceCtorEq, Nat.reduceAdd, Nat.reduceMul, Nat.reduceSub, Nat.reduceLT, Nat.reduceLeDiff, Nat.reduceEqDiff, Nat.reduceBEq, Nat.reducePow]; rfl)) ?_
                refine LexC.pure (by rfl) (by rfl) (fun _ => rfl) (fun ids b _ => by simp [upd]) (fun ids b _ => OpW.evX (by simp only [go_sem, reduceCtorEq, Nat.reduceAdd, Nat.reduceMul, Nat.reduceSub, Nat.reduceLT, Nat.reduceLeDiff, Nat.reduceEqDiff, Nat.reduceBEq, Nat.reducePow]; rfl)) ?_
                refine LexC.pure (by rfl) (by rfl) (fun _ => rfl) (fun ids b _ => by simp [upd]) (fun ids b _ => OpW.evX (by simp only [go_sem, reduceCtorEq, Nat.reduceAdd, Nat.reduceMul, Nat.reduceSub, Nat.reduceLT, Nat.reduceLeDiff, Nat.reduceEqDiff, Nat.reduceBEq, Nat.reducePow]; rfl)) ?_
                refine LexC.pure (by rfl) (by rfl) (fun _ => rfl) (fun ids b _ => by simp [upd]) (fun ids b _ => OpW.evX (by simp only [go_sem, reduceCtorEq, Nat.reduceAdd, Nat.reduceMul, Nat.reduceSub, Nat.reduceLT, Nat.reduceLeDiff, Nat.reduceEqDiff, Nat.reduceBEq, Nat.reducePow, hpI]; rfl)) ?_
                refine LexC.pure (by rfl) (by rfl) (fun _ => rfl) (fun ids b _ => by simp [upd]) (fun ids b _ => OpW.evX (by simp only [go_sem, reduceCtorEq, Nat.reduceAdd, Nat.reduceMul, Nat.reduceSub, Nat.reduceLT, Nat.reduceLeDiff, Nat.reduceEqDiff, Nat.reduceBEq, Nat.reducePow, q3]; rfl)) ?_
                refine LexC.pure (by rfl) (by rfl) (fun _ => rfl) (fun ids b _ => by simp [upd]) (fun ids b _ => OpW.evX (by simp only [go_sem, reduceCtorEq, Nat.reduceAdd, Nat.reduceMul, Nat.reduceSub, Nat.reduceLT, Nat.reduceLeDiff, Nat.reduceEqDiff, Nat.reduceBEq, Nat.reducePow, hwL]; rfl)) ?_
                refine LexC.pure (by rfl) (by rfl) (fun _ => rfl) (fun ids b _ => by simp [upd]) (fun ids b _ => OpW.evX (by simp only [go_sem, reduceCtorEq, Nat.reduceAdd, Nat.reduceMul, Nat.reduceSub, Nat.reduceLT, Nat.reduceLeDiff, Nat.reduceEqDiff, Nat.reduceBEq, Nat.reducePow]; rfl)) ?_
                refine LexC.pure (by rfl) (by rfl) (fun _ => rfl) (fun ids b _ => by simp [upd]) (fun ids b _ => OpW.evX (by simp only [go_sem, reduceCtorEq, Nat.reduceAdd, Nat.reduceMul, Nat.reduceSub, Nat.reduceLT, Nat.reduceLeDiff, Nat.reduceEqDiff, Nat.reduceBEq, Nat.reducePow]; rfl)) ?_
                refine LexC.nilE fun ids hfr => ⟨Marks.nil _, ?_⟩
                simp only [Vthen, VinBlock, if_true, if_false, Nat.reduceEqDiff, reduceCtorEq]
                refine ⟨by first | rfl | trivial, _, ⟨.rs id (ver + 1) 1 0 (o.length + 1) false, rfl, ?_⟩, (Sub.cons rfl rfl (Sub.cons rfl rfl (Sub.cons rfl rfl (Sub.cons rfl rfl (Sub.cons rfl rfl (Sub.cons rfl rfl (Sub.cons rfl rfl (Sub.cons rfl rfl (Sub.cons rfl rfl (Sub.cons rfl rfl (Sub.cons rfl rfl (Sub.nil _))))))))))))⟩
                exact ⟨by simp, .inr ⟨by simp, id, ver + 1, hid, by simp, by simp⟩⟩
            · rintro S H' ⟨v', rfl, hB3⟩
              refine WpV.exit ?_
              simp only [Vthen, VinBlock, if_true, if_false, Nat.reduceEqDiff, reduceCtorEq]
              refine WpV.regionE (by simp only [go_sem, reduceCtorEq, Nat.reduceAdd, Nat.reduceMul, Nat.reduceSub, Nat.reduceLT, Nat.reduceLeDiff, Nat.reduceEqDiff, Nat.reduceBEq, Nat.reducePow, hni]; rfl) (Marks.nil _) ?_
              simp only [Vthen, VinBlock, if_true, if_false, Nat.reduceEqDiff, reduceCtorEq]
              refine ⟨by first | rfl | trivial, ⟨(i + 1, o ++ [(p : Int)], v', H'), by simp only; omega, hO2, by simp only [hBs]; exact hB3⟩, by simp only; omega, (Sub.cons rfl rfl (Sub.cons rfl rfl (Sub.cons rfl rfl (Sub.cons rfl rfl (Sub.cons rfl rfl (Sub.cons rfl rfl (Sub.cons rfl rfl (Sub.cons rfl rfl (Sub.cons rfl rfl (Sub.cons rfl rfl (Sub.cons rfl rfl (Sub.nil _)))))))))))), rfl⟩
          · refine WpV.seq (WpV.regionD Tryz.mixed (by kernel_rfl) (by kernel_rfl) ?_)
            refine LexD.take 8 (by rfl) (by simp only [go_sem, reduceCtorEq, Nat.reduceAdd, Nat.reduceMul, Nat.reduceSub, Nat.reduceLT, Nat.reduceLeDiff, Nat.reduceEqDiff, Nat.reduceBEq, Nat.reducePow, hit, hp6', hatp, hltI, hgri, hpI, q3, hf]; rfl) ?_
            refine LexD.take 2 (by rfl) (by simp only [go_sem, reduceCtorEq, Nat.reduceAdd, Nat.reduceMul, Nat.reduceSub, Nat.reduceLT, Nat.reduceLeDiff, Nat.reduceEqDiff, Nat.reduceBEq, Nat.reducePow, hit, hp6', hatp, hltI, hgri, hpI, q3, hf]; rfl) ?_
            refine LexD.step (by rfl) (by rfl) (OpW.callY rfl (by rfl) (by rfl) (by rfl) (enters_of Tryz.func13 (by kernel_rfl) rfl) (hnd H1 i hlti)) ?_
            refine LexD.take 6 (by rfl) (by simp only [go_sem, reduceCtorEq, Nat.reduceAdd, Nat.reduceMul, Nat.reduceSub, Nat.reduceLT, Nat.reduceLeDiff, Nat.reduceEqDiff, Nat.reduceBEq, Nat.reducePow, hit, hp6', hatp, hltI, hgri, hpI, q3, hf]; rfl) (LexD.nilE ⟨Marks.nil _, ?_⟩)
            simp only [Vthen, VinBlock, if_true, if_false, Nat.reduceEqDiff, reduceCtorEq]
            refine WpV.cond rfl (fun hb => by cases hb) (fun hb => WpV.skip ?_)
            simp only [Vthen, VinBlock, if_true, if_false, Nat.reduceEqDiff, reduceCtorEq]
            refine WpV.regionE (by simp only [go_sem, reduceCtorEq, Nat.reduceAdd, Nat.reduceMul, Nat.reduceSub, Nat.reduceLT, Nat.reduceLeDiff, Nat.reduceEqDiff, Nat.reduceBEq, Nat.reducePow, hnk]; rfl) (Marks.nil _) ?_
            simp only [Vthen, VinBlock, if_true, if_false, Nat.reduceEqDiff, reduceCtorEq]
            exact ⟨by first | rfl | trivial, hltk', (Sub.cons rfl rfl (Sub.cons rfl rfl (Sub.cons rfl rfl (Sub.cons rfl rfl (Sub.cons rfl rfl (Sub.cons rfl rfl (Sub.cons rfl rfl (Sub.cons rfl rfl (Sub.cons rfl rfl (Sub.cons rfl rfl (Sub.cons rfl rfl (Sub.cons rfl rfl (Sub.nil _))))))))))))), by first | rfl | trivial⟩
        · rw [hct] at hatp
          refine WpV.seq (WpV.regionD Tryz.mixed (by kernel_rfl) (by kernel_rfl) ?_)
          refine LexD.take 8 (by rfl) (by simp only [go_sem, reduceCtorEq, Nat.reduceAdd, Nat.reduceMul, Nat.reduceSub, Nat.reduceLT, Nat.reduceLeDiff, Nat.reduceEqDiff, Nat.reduceBEq, Nat.reducePow, hit, hp6', hatp]; rfl) ?_
          refine LexD.take 8 (by rfl) (by simp only [go_sem, reduceCtorEq, Nat.reduceAdd, Nat.reduceMul, Nat.reduceSub, Nat.reduceLT, Nat.reduceLeDiff, Nat.reduceEqDiff, Nat.reduceBEq, Nat.reducePow, hit, hp6', hatp]; rfl) ?_
          refine LexD.take 1 (by rfl) (by simp only [go_sem, reduceCtorEq, Nat.reduceAdd, Nat.reduceMul, Nat.reduceSub, Nat.reduceLT, Nat.reduceLeDiff, Nat.reduceEqDiff, Nat.reduceBEq, Nat.reducePow, hit, hp6', hatp]; rfl) (LexD.nilE ⟨Marks.nil _, ?_⟩)
          simp only [Vthen, VinBlock, if_true, if_false, Nat.reduceEqDiff, reduceCtorEq]
          refine WpV.cond rfl (fun hb => by cases hb) (fun hb => WpV.skip ?_)
          simp only [Vthen, VinBlock, if_true, if_false, Nat.reduceEqDiff, reduceCtorEq]
          refine WpV.regionE (by simp only [go_sem, reduceCtorEq, Nat.reduceAdd, Nat.reduceMul, Nat.reduceSub, Nat.reduceLT, Nat.reduceLeDiff, Nat.reduceEqDiff, Nat.reduceBEq, Nat.reducePow, hnk]; rfl) (Marks.nil _) ?_
          simp only [Vthen, VinBlock, if_true, if_false, Nat.reduceEqDiff, reduceCtorEq]
          exact ⟨by first | rfl | trivial, hltk', (Sub.cons rfl rfl (Sub.cons rfl rfl (Sub.cons rfl rfl (Sub.cons rfl rfl (Sub.cons rfl rfl (Sub.cons rfl rfl (Sub.cons rfl rfl (Sub.cons rfl rfl (Sub.cons rfl rfl (Sub.cons rfl rfl (Sub.cons rfl rfl (Sub.cons rfl rfl (Sub.nil _))))))))))))), by first | rfl | trivial⟩
      · simp only [Vthen, VinBlock, if_true, if_false, Nat.reduceEqDiff, reduceCtorEq]
        refine WpV.regionE (by simp only [go_sem, reduceCtorEq, Nat.reduceAdd, Nat.reduceMul, Nat.reduceSub, Nat.reduceLT, Nat.reduceLeDiff, Nat.reduceEqDiff, Nat.reduceBEq, Nat.reducePow, hni]; rfl) (Marks.nil _) ?_
        simp only [Vthen, VinBlock, if_true, if_false, Nat.reduceEqDiff, reduceCtorEq]
        refine ⟨by first | rfl | trivial, ⟨(i + 1, o, v, H1), by simp only; omega, hO.stay, hB⟩, by simp only; omega, (Sub.cons rfl rfl (Sub.cons rfl rfl (Sub.cons rfl rfl (Sub.cons rfl rfl (Sub.cons rfl rfl (Sub.cons rfl rfl (Sub.cons rfl rfl (Sub.cons rfl rfl (Sub.cons rfl rfl (Sub.cons rfl rfl (Sub.cons rfl rfl (Sub.nil _)))))))))))), rfl⟩
  · have hge : i = rs.length := by have := of_decide_eq_false ‹_›; omega
    subst hge
    refine WpV.pre (hB.frz (t := 16) rfl) (Marks.nil _) ?_
    refine WpV.pre (Frz.drop _ _ it) (Marks.nil _) (WpV.exit ?_)
    rw [hdrop it ft]
    simp only [Vthen, VinBlock, if_true, if_false, Nat.reduceEqDiff, reduceCtorEq]
    have hkn := known_any H
    have e90 : ((0 : Int) != 0) = false := rfl
    by_cases hlen2 : o.length = rs.length
    · have hok := hO.ok hlen2
      rcases hpE with ⟨rfl, -, hno⟩ | ⟨rfl, hpl2, hbest⟩
      · exact absurd hok (hno o hlen2)
      · obtain ⟨g1, g2⟩ := hbest o hlen2 hok
        have el : ((o.length : Int) == (rs.length : Int)) = true := by rw [hlen2]; simp
        have hnlt : ¬ (pickLen ps o < pickLen ps pk) := by omega
        by_cases heq : pickLen ps o = pickLen ps pk
        · have hqe : (pickLen ps o == pickLen ps pk) = true := by rw [heq]; simp
          have hls := less_any H (false && decide (o.length = 0)) (decide (o.length = 0)) nlp clp o pk (by omega) (by omega)
          rw [g2 heq] at hls
          refine WpV.seq ?_
          refine WpV.seq (WpV.region ?_)
          refine WpOps.take 8 (by simp only [go_sem, reduceCtorEq, Nat.reduceAdd, Nat.reduceMul, Nat.reduceSub, Nat.reduceLT, Nat.reduceLeDiff, Nat.reduceEqDiff, Nat.reduceBEq, Nat.reducePow, el, e90, hnlt, hqe]; rfl) ?_
          refine WpOps.take 8 (by simp only [go_sem, reduceCtorEq, Nat.reduceAdd, Nat.reduceMul, Nat.reduceSub, Nat.reduceLT, Nat.reduceLeDiff, Nat.reduceEqDiff, Nat.reduceBEq, Nat.reducePow, el, e90, hnlt, hqe]; rfl) ?_
          refine WpOps.take 4 (by simp only [go_sem, reduceCtorEq, Nat.reduceAdd, Nat.reduceMul, Nat.reduceSub, Nat.reduceLT, Nat.reduceLeDiff, Nat.reduceEqDiff, Nat.reduceBEq, Nat.reducePow, el, e90, hnlt, hqe]; rfl) ?_
          refine WpOps.step (by rfl) (by rfl) (OpW.callY rfl (by rfl) (by rfl) (by rfl) (enters_of Tryz.func18 (by kernel_rfl) rfl) ((hls).mono ?_))
          rintro _ _ ⟨rfl, hH⟩
          replace hH := hH.symm
          subst hH
          refine WpOps.take 3 (by simp only [go_sem, reduceCtorEq, Nat.reduceAdd, Nat.reduceMul, Nat.reduceSub, Nat.reduceLT, Nat.reduceLeDiff, Nat.reduceEqDiff, Nat.reduceBEq, Nat.reducePow, el, e90, hnlt, hqe]; rfl) (WpOps.nil ⟨Marks.nil _, ?_⟩)
          simp only [Vthen, VinBlock, if_true, if_false, Nat.reduceEqDiff, reduceCtorEq]
          refine WpV.cond rfl (fun hb => by cases hb) (fun hb => WpV.skip ?_)
          simp only [Vthen, VinBlock, if_true, if_false, Nat.reduceEqDiff, reduceCtorEq]
          refine WpV.seq (WpV.region ?_)
          refine WpOps.step (by rfl) (by rfl) (OpW.callY rfl (by rfl) (by rfl) (by rfl) (enters_of Tryz.func17 (by kernel_rfl) rfl) ((hkn).mono ?_))
          rintro _ _ ⟨rfl, hH⟩
          replace hH := hH.symm
          subst hH
          refine WpOps.take 1 (by simp only [go_sem, reduceCtorEq, Nat.reduceAdd, Nat.reduceMul, Nat.reduceSub, Nat.reduceLT, Nat.reduceLeDiff, Nat.reduceEqDiff, Nat.reduceBEq, Nat.reducePow]; rfl) (WpOps.nil ⟨Marks.nil _, ?_⟩)
          simp only [Vthen, VinBlock, if_true, if_false, Nat.reduceEqDiff, reduceCtorEq]
          refine WpV.ret ⟨Marks.nil _, List.nodup_nil, _, by simp only [Tryz.results6]; simp only [go_sem, reduceCtorEq, Nat.reduceAdd, Nat.reduceMul, Nat.reduceSub, Nat.reduceLT, Nat.reduceLeDiff, Nat.reduceEqDiff, Nat.reduceBEq, Nat.reducePow]; rfl, ?_⟩
          exact ⟨rfl, rfl⟩
        · have hqe : (pickLen ps o == pickLen ps pk) = false := by simpa using heq
          refine WpV.seq ?_
          refine WpV.seq (WpV.region ?_)
          refine WpOps.take 8 (by simp only [go_sem, reduceCtorEq, Nat.reduceAdd, Nat.reduceMul, Nat.reduceSub, Nat.reduceLT, Nat.reduceLeDiff, Nat.reduceEqDiff, Nat.reduceBEq, Nat.reducePow, el, e90, hnlt, hqe]; rfl) ?_
          refine WpOps.take 8 (by simp only [go_sem, reduceCtorEq, Nat.reduceAdd, Nat.reduceMul, Nat.reduceSub, Nat.reduceLT, Nat.reduceLeDiff, Nat.reduceEqDiff, Nat.reduceBEq, Nat.reducePow, el, e90, hnlt, hqe]; rfl) ?_
          refine WpOps.take 8 (by simp only [go_sem, reduceCtorEq, Nat.reduceAdd, Nat.reduceMul, Nat.reduceSub, Nat.reduceLT, Nat.reduceLeDiff, Nat.reduceEqDiff, Nat.reduceBEq, Nat.reducePow, el, e90, hnlt, hqe]; rfl) (WpOps.nil ⟨Marks.nil _, ?_⟩)
          simp only [Vthen, VinBlock, if_true, if_false, Nat.reduceEqDiff, reduceCtorEq]
          refine WpV.cond rfl (fun hb => by cases hb) (fun hb => WpV.skip ?_)
          simp only [Vthen, VinBlock, if_true, if_false, Nat.reduceEqDiff, reduceCtorEq]
          refine WpV.seq (WpV.region ?_)
          refine WpOps.step (by rfl) (by rfl) (OpW.callY rfl (by rfl) (by rfl) (by rfl) (enters_of Tryz.func17 (by kernel_rfl) rfl) ((hkn).mono ?_))
          rintro _ _ ⟨rfl, hH⟩
          replace hH := hH.symm
          subst hH
          refine WpOps.take 1 (by simp only [go_sem, reduceCtorEq, Nat.reduceAdd, Nat.reduceMul, Nat.reduceSub, Nat.reduceLT, Nat.reduceLeDiff, Nat.reduceEqDiff, Nat.reduceBEq, Nat.reducePow]; rfl) (WpOps.nil ⟨Marks.nil _, ?_⟩)
          simp only [Vthen, VinBlock, if_true, if_false, Nat.reduceEqDiff, reduceCtorEq]
          refine WpV.ret ⟨Marks.nil _, List.nodup_nil, _, by simp only [Tryz.results6]; simp only [go_sem, reduceCtorEq, Nat.reduceAdd, Nat.reduceMul, Nat.reduceSub, Nat.reduceLT, Nat.reduceLeDiff, Nat.reduceEqDiff, Nat.reduceBEq, Nat.reducePow]; rfl, ?_⟩
          exact ⟨rfl, rfl⟩
    · have el : ((o.length : Int) == (rs.length : Int)) = false := by
        simp; omega
      refine WpV.seq ?_
      refine WpV.seq (WpV.region ?_)
      refine WpOps.take 8 (by simp only [go_sem, reduceCtorEq, Nat.reduceAdd, Nat.reduceMul, Nat.reduceSub, Nat.reduceLT, Nat.reduceLeDiff, Nat.reduceEqDiff, Nat.reduceBEq, Nat.reducePow, el]; rfl) ?_
      refine WpOps.take 8 (by simp only [go_sem, reduceCtorEq, Nat.reduceAdd, Nat.reduceMul, Nat.reduceSub, Nat.reduceLT, Nat.reduceLeDiff, Nat.reduceEqDiff, Nat.reduceBEq, Nat.reducePow, el]; rfl) ?_
      refine WpOps.take 8 (by simp only [go_sem, reduceCtorEq, Nat.reduceAdd, Nat.reduceMul, Nat.reduceSub, Nat.reduceLT, Nat.reduceLeDiff, Nat.reduceEqDiff, Nat.reduceBEq, Nat.reducePow, el]; rfl) (WpOps.nil ⟨Marks.nil _, ?_⟩)
      simp only [Vthen, VinBlock, if_true, if_false, Nat.reduceEqDiff, reduceCtorEq]
      refine WpV.cond rfl (fun hb => by cases hb) (fun hb => WpV.skip ?_)
      simp only [Vthen, VinBlock, if_true, if_false, Nat.reduceEqDiff, reduceCtorEq]
      refine WpV.seq (WpV.region ?_)
      refine WpOps.step (by rfl) (by rfl) (OpW.callY rfl (by rfl) (by rfl) (by rfl) (enters_of Tryz.func17 (by kernel_rfl) rfl) ((hkn).mono ?_))
      rintro _ _ ⟨rfl, hH⟩
      replace hH := hH.symm
      subst hH
      refine WpOps.take 1 (by simp only [go_sem, reduceCtorEq, Nat.reduceAdd, Nat.reduceMul, Nat.reduceSub, Nat.reduceLT, Nat.reduceLeDiff, Nat.reduceEqDiff, Nat.reduceBEq, Nat.reducePow]; rfl) (WpOps.nil ⟨Marks.nil _, ?_⟩)
      simp only [Vthen, VinBlock, if_true, if_false, Nat.reduceEqDiff, reduceCtorEq]
      refine WpV.ret ⟨Marks.nil _, List.nodup_nil, _, by simp only [Tryz.results6]; simp only [go_sem, reduceCtorEq, Nat.reduceAdd, Nat.reduceMul, Nat.reduceSub, Nat.reduceLT, Nat.reduceLeDiff, Nat.reduceEqDiff, Nat.reduceBEq, Nat.reducePow]; rfl, ?_⟩
      exact ⟨rfl, rfl⟩
end Go.Proofs.YtaekibilldjnmaaGreat
namespace Go.Proofs.YtaekibilldjnmaaGreat
open Go.ChangeShapes Go.WideShapes Go.ChangeAt Go.RowKit Go.Deep

theorem Tryz.ownKnob : ownKnob Tryz.prog.godebug = none := by kernel_rfl
theorem Tryz.laidOut : laidOutB Tryz.prog = true := by kernel_rfl
theorem Tryz.cells5 : Tryz.prog.cellsOf 5 = 1 := by kernel_rfl
theorem Tryz.cells22 : Tryz.prog.cellsOf 22 = 6 * 1 := by kernel_rfl
theorem Tryz.cells24 : Tryz.prog.cellsOf 24 = 3 * 1 := by kernel_rfl
theorem Tryz.cells59 : Tryz.prog.cellsOf 59 = 2 * 1 := by kernel_rfl
theorem Tryz.cells23 : Tryz.prog.cellsOf 23 = 1 := by kernel_rfl
theorem Tryz.cells26 : Tryz.prog.cellsOf 26 = 10 := by kernel_rfl
theorem Tryz.cellTypes26 : Tryz.prog.cellTypes Tryz.prog.depth 26 = some [5, 5, 5, 5, 5, 5, 23, 5, 5, 5] := by kernel_rfl

section
variable {Hh : Type} {enc : TypeId × Value → Hh} {w : World} {base : Nat} {spare : Nat → Bool} {held : Bool}
theorem byte_wf {n : Int} (h : Lit.wf (.int .u8 n) = true) : Byte n := by
  simp only [Lit.wf, Bool.and_eq_true, decide_eq_true_eq] at h
  have h1 : IntKind.u8.min = 0 := rfl
  have h2 : IntKind.u8.max = 255 := rfl
  rw [h1, h2] at h
  unfold Byte
  omega
theorem flat_bytes : ∀ l : List Int, l.flatMap (fun n => [vbyte n]) = l.map vbyte
  | [] => rfl
  | n :: l => by rw [List.flatMap_cons, flat_bytes l]; rfl
theorem rd_byte : Rd Tryz.prog Hh enc w base spare held 5 (fun n : Int => [vbyte n]) Byte := fun fuel cs x h => by
  obtain ⟨n, h1, h2⟩ := rd_int Tryz.underlying5 fuel cs x h
  exact ⟨n, byte_wf h1, h2⟩
/-- An array of bytes. -/
theorem rd_bytes {t : TypeId} {n : Nat} (ht : Tryz.prog.underlying t = some (.array n 5)) (hc : Tryz.prog.cellsOf t = n * 1) : Rd Tryz.prog Hh enc w base spare held t (fun l : List Int => l.map vbyte) (fun l => l.length = n ∧ ∀ b ∈ l, Byte b) := fun fuel cs x h => by
  obtain ⟨l, h1, h2⟩ := rd_array ht hc Tryz.cells5 (by decide) (fun _ => rfl) rd_byte fuel cs x h
  have h3 : CellsD w (l.flatMap fun n => [vbyte n]) cs := h2
  rw [flat_bytes] at h3
  exact ⟨l, h1, h3⟩
/-- Two bytes. -/
theorem rd_two : Rd Tryz.prog Hh enc w base spare held 59 prC (fun p => Byte p.1 ∧ Byte p.2) := fun fuel cs x h => by
  obtain ⟨l, ⟨h1, h2⟩, h3⟩ := rd_bytes Tryz.underlying59 Tryz.cells59 fuel cs x h
  rcases l with _ | ⟨a, _ | ⟨b, _ | ⟨c, r⟩⟩⟩ <;> simp at h1
  exact ⟨(a, b), ⟨h2 a (by simp), h2 b (by simp)⟩, h3⟩
end

set_option maxRecDepth 100000 in
/-- What the first argument reads as. -/
theorem type_read {Hh : Type} {enc : TypeId × Value → Hh} {w : World} {base : Nat} {spare : Nat → Bool} {held : Bool} {r : Reach} {b0 : Nat} {v : Value} {d : DataW Hh} {p : List MemPlace} (hv : Value.okWide Tryz.prog w r b0 26 v) (h : DataW.Trod enc Tryz.prog w base spare held 26 v d p) :
    ∃ x : TyA, x.Ok ∧ Den ρ0 w (.agg x.cells) v := by
  simp only [Value.okWide, Tryz.underlying26] at hv
  obtain ⟨cs, rfl, hsz, ts, hts, -, hcell⟩ := hv
  rw [Tryz.cellTypes26] at hts
  cases hts
  rw [Tryz.cells26] at hsz
  obtain ⟨fuel, hf⟩ := h
  obtain ⟨xs, n, _, _, hl, hxl, hel⟩ := DataW.trod_struct Tryz.underlying26 hf
  have hxl' : xs.length = 3 := hxl
  have f0 : DataW.trod enc Tryz.prog w base spare held n 22 ((cs.toList.drop 0).take (Tryz.prog.cellsOf 22)) = xs[0]? := hel 0 _ rfl
  have f1 : DataW.trod enc Tryz.prog w base spare held n 23 ((cs.toList.drop 6).take (Tryz.prog.cellsOf 23)) = xs[1]? := hel 1 _ rfl
  have f2 : DataW.trod enc Tryz.prog w base spare held n 24 ((cs.toList.drop 7).take (Tryz.prog.cellsOf 24)) = xs[2]? := hel 2 _ rfl
  rw [Tryz.cells22, List.getElem?_eq_getElem (by omega)] at f0
  rw [Tryz.cells23, List.getElem?_eq_getElem (by omega)] at f1
  rw [Tryz.cells24, List.getElem?_eq_getElem (by omega)] at f2
  obtain ⟨wd, ⟨a1, a2⟩, a3⟩ := rd_bytes Tryz.underlying22 Tryz.cells22 _ _ _ f0
  obtain ⟨nl, prs, b1, b2, b3⟩ := rd_slice Tryz.underlying23 Tryz.cells59 (by decide) (fun _ => rfl) rd_two (fun a len cap e => by
    have h6 : cs[6]? = some (.slice (some a) len cap) := by
      have : ((cs.toList.drop 6).take 1)[0]? = some (.slice (some a) len cap) := by rw [e]; rfl
      simpa using this
    obtain ⟨u, hu, hk⟩ := hcell 6 _ h6
    have hu' : u = 23 := by simpa using hu.symm
    subst hu'
    exact slice_spot Tryz.underlying23 hk) f1
  obtain ⟨fr, ⟨c1, c2⟩, c3⟩ := rd_bytes Tryz.underlying24 Tryz.cells24 _ _ _ f2
  rcases fr with _ | ⟨g0, _ | ⟨g1, _ | ⟨g2, _ | ⟨g3, r⟩⟩⟩⟩ <;> simp at c1
  refine ⟨⟨wd, nl, false, prs, g0, g1, g2⟩, ⟨a1, a2, by unfold maxLen at b2; simp only; omega, b1, c2 _ (by simp), c2 _ (by simp), c2 _ (by simp)⟩, CellsD.agg ?_⟩
  unfold TyA.cells
  refine CellsD.append ?_ (CellsD.append (a := [.sl nl false prs.length (prs.flatMap prC)]) (b := [vbyte g0, vbyte g1, vbyte g2]) ?_ ?_)
  · rw [List.length_map, a1]; exact a3
  · rw [List.length_map, a1]; exact b3
  · rw [List.length_map, a1, List.drop_drop, show 6 + [AV.sl nl false prs.length (prs.flatMap prC)].length = 7 from rfl]
    have : (cs.toList.drop 7).take 3 = cs.toList.drop 7 := List.take_of_length_le (by simp; omega)
    rw [← this]; exact c3
set_option maxRecDepth 100000 in
theorem slice_arg {P : Program} {w : World} {r : Reach} {b0 : Nat} {t e : TypeId} {v : Value} (ht : P.underlying t = some (.slice e)) (h : Value.okWide P w r b0 t v) : v.cells.toList = [v] ∧ ∀ a len cap, v = .slice (some a) len cap → a.spot = none := by
  simp only [Value.okWide, ht] at h
  refine ⟨?_, fun a len cap e => slice_spot ht (e ▸ h)⟩
  simp only [Cell.okWide, Cell.ok, ht] at h
  cases v <;> first | rfl | (simp at h)
set_option maxRecDepth 100000 in
theorem bytes_arg {Hh : Type} {enc : TypeId × Value → Hh} {w : World} {base : Nat} {spare : Nat → Bool} {held : Bool} {r : Reach} {b0 : Nat} {v : Value} {d : DataW Hh} {p : List MemPlace} (hv : Value.okWide Tryz.prog w r b0 27 v) (h : DataW.Trod enc Tryz.prog w base spare held 27 v d p) :
    ∃ (nl : Bool) (l : List Int), (∀ n ∈ l, Byte n) ∧ l.length ≤ 9223372036854775807 ∧ Den ρ0 w (.sl nl false l.length (l.map vbyte)) v := by
  obtain ⟨h1, h2⟩ := slice_arg Tryz.underlying27 hv
  obtain ⟨fuel, hf⟩ := h
  rw [h1] at hf
  obtain ⟨nl, l, b1, b2, b3⟩ := rd_slice Tryz.underlying27 Tryz.cells5 (by decide) (fun _ => rfl) rd_byte (fun a len cap e => h2 a len cap (by simpa using e)) hf
  obtain ⟨y, hy, hd⟩ := b3.2.at (i := 0) rfl
  simp only [List.getElem?_cons_zero, Option.some.injEq] at hy
  subst hy
  rw [flat_bytes] at hd
  exact ⟨nl, l, b1, by unfold maxLen at b2; omega, hd⟩
set_option maxRecDepth 100000 in
theorem six_arg {Hh : Type} {enc : TypeId × Value → Hh} {w : World} {base : Nat} {spare : Nat → Bool} {held : Bool} {r : Reach} {b0 : Nat} {v : Value} {d : DataW Hh} {p : List MemPlace} (hv : Value.okWide Tryz.prog w r b0 22 v) (h : DataW.Trod enc Tryz.prog w base spare held 22 v d p) :
    ∃ l : List Int, l.length = 6 ∧ (∀ n ∈ l, Byte n) ∧ Den ρ0 w (.agg (l.map vbyte)) v := by
  simp only [Value.okWide, Tryz.underlying22] at hv
  obtain ⟨cs, rfl, -⟩ := hv
  obtain ⟨fuel, hf⟩ := h
  obtain ⟨l, ⟨a1, a2⟩, a3⟩ := rd_bytes Tryz.underlying22 Tryz.cells22 _ _ _ hf
  exact ⟨l, a1, a2, CellsD.agg a3⟩

end Go.Proofs.YtaekibilldjnmaaGreat
namespace Go.Proofs.YtaekibilldjnmaaGreat
open Go.ChangeShapes Go.WideShapes Go.ChangeAt Go.RowKit Go.Deep

theorem Tryz.cells27 : Tryz.prog.cellsOf 27 = 1 := by kernel_rfl
theorem Tryz.cells28 : Tryz.prog.cellsOf 28 = 2 * 1 := by kernel_rfl
theorem Tryz.cellTypes28 : Tryz.prog.cellTypes Tryz.prog.depth 28 = some [27, 27] := by kernel_rfl
set_option maxRecDepth 100000 in
theorem slices_arg {Hh : Type} {enc : TypeId × Value → Hh} {w : World} {base : Nat} {spare : Nat → Bool} {held : Bool} {r : Reach} {b0 : Nat} {v : Value} {d : DataW Hh} {p : List MemPlace} (hv : Value.okWide Tryz.prog w r b0 28 v) (h : DataW.Trod enc Tryz.prog w base spare held 28 v d p) :
    ∃ (nl0 nl1 : Bool) (l0 l1 : List Int), (∀ n ∈ l0, Byte n) ∧ (∀ n ∈ l1, Byte n) ∧ l0.length ≤ 9223372036854775807 ∧ l1.length ≤ 9223372036854775807 ∧ Den ρ0 w (.agg [.sl nl0 false l0.length (l0.map vbyte), .sl nl1 false l1.length (l1.map vbyte)]) v := by
  simp only [Value.okWide, Tryz.underlying28] at hv
  obtain ⟨cs, rfl, hsz, ts, hts, -, hcell⟩ := hv
  rw [Tryz.cellTypes28] at hts
  cases hts
  rw [Tryz.cells28] at hsz
  obtain ⟨fuel, hf⟩ := h
  obtain ⟨xs, n, _, _, hl, hxl, hel⟩ := DataW.trod_array Tryz.underlying28 hf
  have f0 := hel 0 (by omega)
  have f1 := hel 1 (by omega)
  rw [Tryz.cells27, List.getElem?_eq_getElem (by omega)] at f0 f1
  have hsp : ∀ i, i < 2 → ∀ a len cap, ((cs.toList.drop (i * 1)).take 1) = [.slice (some a) len cap] → a.spot = none := fun i hi a len cap e => by
    have h6 : cs[i]? = some (.slice (some a) len cap) := by
      have : ((cs.toList.drop (i * 1)).take 1)[0]? = some (.slice (some a) len cap) := by rw [e]; rfl
      simpa using this
    obtain ⟨u, hu, hk⟩ := hcell i _ h6
    have hu' : u = 27 := by
      rcases (show i = 0 ∨ i = 1 by omega) with rfl | rfl <;> simpa using hu.symm
    subst hu'
    exact slice_spot Tryz.underlying27 hk
  obtain ⟨nl0, l0, a1, a2, a3⟩ := rd_slice Tryz.underlying27 Tryz.cells5 (by decide) (fun _ => rfl) rd_byte (hsp 0 (by omega)) f0
  obtain ⟨nl1, l1, b1, b2, b3⟩ := rd_slice Tryz.underlying27 Tryz.cells5 (by decide) (fun _ => rfl) rd_byte (hsp 1 (by omega)) f1
  rw [flat_bytes] at a3 b3
  refine ⟨nl0, nl1, l0, l1, a1, b1, by unfold maxLen at a2; omega, by unfold maxLen at b2; omega, CellsD.agg ?_⟩
  refine CellsD.append (a := [.sl nl0 false l0.length (l0.map vbyte)]) (b := [.sl nl1 false l1.length (l1.map vbyte)]) ?_ ?_
  · simpa using a3
  · have : (cs.toList.drop 1).take 1 = cs.toList.drop 1 := List.take_of_length_le (by simp; omega)
    rw [show 1 * 1 = 1 from rfl, this] at b3; exact b3


section
variable {Hh : Type} {enc : TypeId × Value → Hh} {w : World} {base : Nat} {spare : Nat → Bool} {held : Bool}
set_option maxRecDepth 100000 in
/-- A slice of bytes within a slice: it lies in cells, or has none. -/
theorem rd_rowX : Rd Tryz.prog Hh enc w base spare held 27 (fun r : RX => [rowX r]) RX.ok := by
  intro fuel cs x h
  have h' := h
  rcases open_slice Tryz.underlying27 h with ⟨rfl, -⟩ | ⟨a, len, cap, m, n, D, Pl, rfl, _, hl, hcm, hmm, _, hi⟩
  · refine ⟨some (true, []), fun p hp => by cases hp; exact ⟨fun n hn => (by cases hn), Nat.zero_le _⟩, CellsD.one ?_⟩
    show Den ρ0 w (.sl true false 0 []) _
    rw [Den]
    exact ⟨none, 0, rfl, Nat.le_refl _, nofun, fun _ => ⟨rfl, rfl, rfl⟩, nofun⟩
  · by_cases hs : a.spot = none
    · obtain ⟨nl, ls, h1, h2, h3⟩ := rd_slice Tryz.underlying27 Tryz.cells5 (by decide) (fun _ => rfl) rd_byte (fun a' l' c' e => by cases e; exact hs) h'
      rw [flat_bytes] at h3
      exact ⟨some (nl, ls), fun p hp => by cases hp; exact ⟨fun n hn => by have := h1 n hn; unfold Byte at this; omega, by unfold maxLen at h2; omega⟩, h3⟩
    · have hlm : len ≤ m := by rw [hmm]; split <;> omega
      have h0 : len = 0 := by
        by_cases e : len = 0
        · exact e
        · exfalso
          obtain ⟨cs', hc, -⟩ := hi 0 (by omega)
          rw [Tryz.cells5, Nat.zero_mul] at hc
          obtain ⟨-, hcl, hat⟩ := World.cells?_some hc
          have h1 := hat 0 (by decide)
          have h2 : w.cell? a = none := by
            unfold World.cell?
            have : a.spot.isSome = true := by
              cases hsp : a.spot with
              | none => exact absurd hsp hs
              | some _ => rfl
            split
            · rw [this]; rfl
            · rfl
          rw [show (a.add 0).add 0 = a from rfl, h2, List.getElem?_eq_getElem (by omega)] at h1
          cases h1
      subst h0
      exact ⟨none, fun p hp => (by cases hp), CellsD.one (by show Den ρ0 w .em _; rw [Den]; exact ⟨some a, cap, rfl⟩)⟩
theorem flat_rows : ∀ l : List RX, l.flatMap (fun r => [rowX r]) = l.map rowX
  | [] => rfl
  | r :: l => by rw [List.flatMap_cons, flat_rows l]; rfl
set_option maxRecDepth 100000 in
theorem rows_arg {r : Reach} {b0 : Nat} {v : Value} {d : DataW Hh} {p : List MemPlace} (hv : Value.okWide Tryz.prog w r b0 58 v) (h : DataW.Trod enc Tryz.prog w base spare held 58 v d p) :
    ∃ (nl : Bool) (l : List RX), (∀ r ∈ l, r.ok) ∧ l.length ≤ 9223372036854775807 ∧ Den ρ0 w (.sl nl false l.length (l.map rowX)) v := by
  obtain ⟨h1, h2⟩ := slice_arg Tryz.underlying58 hv
  obtain ⟨fuel, hf⟩ := h
  rw [h1] at hf
  obtain ⟨nl, l, b1, b2, b3⟩ := rd_slice Tryz.underlying58 Tryz.cells27 (by decide) (fun _ => rfl) rd_rowX (fun a len cap e => h2 a len cap (by simpa using e)) hf
  obtain ⟨y, hy, hd⟩ := b3.2.at (i := 0) rfl
  simp only [List.getElem?_cons_zero, Option.some.injEq] at hy
  subst hy
  rw [flat_rows] at hd
  exact ⟨nl, l, b1, by unfold maxLen at b2; omega, hd⟩
end
end Go.Proofs.YtaekibilldjnmaaGreat
namespace Go.Proofs.YtaekibilldjnmaaGreat
open Go.ChangeShapes Go.WideShapes Go.ChangeAt Go.RowKit Go.Deep

theorem Tryz.params6 : Tryz.f6.params = #[26, 58, 28] := by kernel_rfl
set_option maxRecDepth 100000 in
theorem letterPlates_lifted (os : Os) (started : os.Started) (H : Type) (enc : TypeId × Value → H) :
    ReturnsInHanded {} Tryz.checked os 6 .any (Rows.letterPlatesSpec.pre6 enc Tryz.prog Tryz.f6 Rows.letterPlatesRow.domain false) (Rows.letterPlatesSpec.post enc Tryz.prog Tryz.f6 false true false false) := by
  refine returnsInHanded_of_change (C := Tryz.checked) Tryz.ownKnob started (by kernel_rfl) Tryz.func6
    (ChangeSpec.witness6 (enc := enc) (C := Tryz.checked) false ⟨#[], #[.agg #[.int .u8 0, .int .u8 0, .int .u8 0, .int .u8 0, .int .u8 0, .int .u8 0, .slice none 0 0, .int .u8 0, .int .u8 0, .int .u8 0], .slice none 0 0, .agg #[.slice none 0 0, .slice none 0 0]], []⟩ 8 (by kernel_rfl) (by kernel_rfl) (by kernel_rfl) (by kernel_rfl)) ?_
  intro W base args ds gs before hval0 hW hcnd _
  have hval : ∀ (j : Nat) t v, Tryz.f6.params[j]? = some t → args[j]? = some v → Value.okWide Tryz.prog W .any base t v := hval0
  have hW' := hW
  obtain ⟨p, q, hA0, hV, rfl, hfz, hnd⟩ := hW
  have hA : DataW.TrodAll enc Tryz.prog W 0 (fun _ => true) true Tryz.f6.params.toList args.toList ds p := hA0
  rw [Tryz.params6] at hA hval
  obtain ⟨v0, vs0, d0, ds0, p0, q0, hargs, rfl, rfl, h0, r0⟩ := trodAll_cons hA
  obtain ⟨v1, vs1, d1, ds1, p1, q1, rfl, rfl, rfl, h1, r1⟩ := trodAll_cons r0
  obtain ⟨v2, vs2, d2, ds2, p2, q2, rfl, rfl, rfl, h2, r2⟩ := trodAll_cons r1
  obtain ⟨rfl, rfl, rfl⟩ := trodAll_nil r2
  obtain rfl : args = #[v0, v1, v2] := by cases args; simp_all
  obtain ⟨rfl, rfl⟩ := trodVars_none hV
  have lt0 : ∀ x ∈ p0, x.block < W.heap.size := by obtain ⟨m, hm⟩ := h0; exact DataW.trod_lt m _ _ _ hm
  have lt1 : ∀ x ∈ p1, x.block < W.heap.size := by obtain ⟨m, hm⟩ := h1; exact DataW.trod_lt m _ _ _ hm
  have lt2 : ∀ x ∈ p2, x.block < W.heap.size := by obtain ⟨m, hm⟩ := h2; exact DataW.trod_lt m _ _ _ hm
  obtain ⟨x, hx, hd0⟩ := type_read (hval 0 26 v0 rfl rfl) h0
  obtain ⟨nl, l, hlb, hll, hd1⟩ := rows_arg (hval 1 58 v1 rfl rfl) h1
  obtain ⟨nl0, nl1, l0, l1, hb0, hb1, hm0, hm1, hd2⟩ := slices_arg (hval 2 28 v2 rfl rfl) h2
  clear hA0 hval0
  refine Calls.mono (Plates_any (fun _ => none) x hx nl false l hll hlb nl0 false nl1 false l0 l1 hm0 hm1 hb0 hb1 ρ0 W #[v0, v1, v2] rfl ?_ (ρ0_hd W)) ?_
  · rw [DenL]
    refine ⟨⟨v0, rfl, hd0⟩, ?_⟩
    rw [DenL]
    refine ⟨⟨v1, rfl, hd1⟩, ?_⟩
    rw [DenL]
    refine ⟨⟨v2, rfl, hd2⟩, ?_⟩
    rw [DenL]; trivial
  rintro e W' ⟨v, ρ', x', H', rfl, qx, hvd, -, rfl, -⟩
  rw [Den] at hvd
  subst hvd
  have bel' : Below W.heap.size W W' := ⟨qx.io.1, qx.io.2.2, qx.io.2.1, qx.size, fun k hk => (qx.free k hk (ρ0_free k)).2⟩
  exact ⟨_, rfl, _, _, _, [], _, [], hW', trodAll_mk1 (shut_bool Tryz.underlying4 _), (trodAll_cons_mk (Below.trod Tryz.laidOut (by kernel_rfl) (of_decide_eq_true (by kernel_rfl)) h0 bel' lt0) (trodAll_cons_mk (Below.trod Tryz.laidOut (by kernel_rfl) (of_decide_eq_true (by kernel_rfl)) h1 bel' lt1) (trodAll_cons_mk (Below.trod Tryz.laidOut (by kernel_rfl) (of_decide_eq_true (by kernel_rfl)) h2 bel' lt2) trodAll_mk0))), rfl, bel'.frame _, fun h => by cases h⟩

theorem letterPlates_over : Rows.letterPlatesRow.holds Tryz.pinned (OpenSpec.ofChange Rows.letterPlatesSpec) :=
  OpenClaim.holds_of_wide 6 Tryz.f6 rfl rfl rfl rfl rfl rfl rfl ⟨rfl, rfl, rfl, rfl, rfl⟩ rfl rfl rfl rfl rfl (by kernel_rfl) Tryz.func6 (by kernel_rfl)
    (of_decide_eq_true (by kernel_rfl)) (by unfold Func.isWrapper; first | (rw [if_pos (by decide +kernel)]; kernel_rfl) | (rw [if_neg (by decide +kernel)]; exact ⟨rfl, rfl⟩))
    (fun os started H enc _ => letterPlates_lifted os started H enc)

/-- The statement. -/
theorem letterPlates_holds : Rows.LetterPlatesSaid := letterPlates_over
#print axioms letterPlates_holds
end Go.Proofs.YtaekibilldjnmaaGreat
