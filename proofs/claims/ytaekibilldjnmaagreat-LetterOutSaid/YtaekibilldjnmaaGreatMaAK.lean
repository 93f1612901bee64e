/- What blotted words can have been. What is made is valid; a copy of one's own. The statement's own 'look', 'least', 'needs'. What laid gaps are; the fewest that must be wrong. The fewest places: no fewer serve; the least and the greatest of a list. -/
import Derived.Test.YtaekibilldjnmaaGreatMaAJ
set_option linter.unusedVariables false
set_option linter.unusedSimpArgs false
set_option linter.unusedSectionVars false
namespace Go.Proofs.YtaekibilldjnmaaGreat
open Go.Proofs

theorem getD_set {w : List Int} {k : Nat} (hk : k < w.length) (x : Int) (j : Nat) : (w.set k x).getD j 0 = if j = k then x else w.getD j 0 := by
  rw [List.getD_eq_getElem?_getD, List.getD_eq_getElem?_getD, List.getElem?_set]
  by_cases e : k = j
  · subst e; simp [hk]
  · rw [if_neg e, if_neg (Ne.symm e)]
/-- f has letters where w has blots. -/
structure Fills (c : Cs) (f w : List Int) : Prop where
  len : f.length = w.length
  letters : c.Letters f
  agr : ∀ k, k < w.length → w.getD k 0 = -1 ∨ f.getD k 0 = w.getD k 0
theorem agrees_iff (c : Cs) (gs : List Int) (lo hi : Int) : ∀ (n : Nat) (w : List Int), c.Blotted w → w.count (-1) = n → (agreesF c gs lo hi n w = true ↔ ∃ f, Fills c f w ∧ inB lo hi (2 * c.rim + c.longF f gs) = true)
  | 0, w, hw, h0 => by
    have hl := hw.letters h0
    constructor
    · intro h; exact ⟨w, ⟨rfl, hl, fun k _ => .inr rfl⟩, h⟩
    · rintro ⟨f, hf, h⟩
      have : f = w := eq_getD hf.len fun j hj => by
        have hj' : j < w.length := by rw [← hf.len]; exact hj
        refine (hf.agr j hj').resolve_left fun e => ?_
        have := hl _ (getD_mem hj')
        omega
      rw [this] at h; exact h
  | n + 1, w, hw, h0 => by
    obtain ⟨k, hk, hb, hwk⟩ := blotAt_some (w := w) (by omega)
    have ih := fun (l : Nat) (hl : l < c.ws.length) => agrees_iff c gs lo hi n (w.set k (l : Int)) (hw.set (by omega)) (by have := count_set_blot hk (l := (l : Int)) hwk (by omega); omega)
    rw [agreesF, List.any_eq_true, hb, Int.toNat_natCast]
    constructor
    · rintro ⟨l, hl, h⟩
      obtain ⟨f, hf, h2⟩ := (ih l (List.mem_range.1 hl)).1 h
      refine ⟨f, ⟨by rw [hf.len]; simp, hf.letters, fun j hj => ?_⟩, h2⟩
      have := hf.agr j (by simpa using hj)
      rw [getD_set hk] at this
      by_cases e : j = k
      · left; subst e; rw [List.getD_eq_getElem?_getD, List.getElem?_eq_getElem hk]; exact hwk
      · rw [if_neg e] at this; exact this
    · rintro ⟨f, hf, h⟩
      have hfk := hf.letters _ (getD_mem (xs := f) (k := k) (by rw [hf.len]; exact hk))
      refine ⟨(f.getD k 0).toNat, List.mem_range.2 (by omega), (ih _ (by omega)).2 ⟨f, ⟨by rw [hf.len]; simp, hf.letters, fun j hj => ?_⟩, h⟩⟩
      rw [getD_set hk]
      by_cases e : j = k
      · right; rw [if_pos e, e]; omega
      · rw [if_neg e]; exact hf.agr j (by simpa using hj)

theorem lettersN_mem {c : Cs} {gs : List Int} {lo hi : Int} {n : Nat} {w : List Int} {p m : Nat} {x : Int} : x ∈ lettersN c gs lo hi n w p m ↔ ∃ l : Nat, l < m ∧ agreesF c gs lo hi n (w.set p (l : Int)) = true ∧ x = (l : Int) := by
  unfold lettersN
  rw [List.mem_map]
  constructor
  · rintro ⟨l, h, rfl⟩
    rw [List.mem_filter, List.mem_range] at h
    exact ⟨l, h.1, h.2, rfl⟩
  · rintro ⟨l, h1, h2, rfl⟩
    exact ⟨l, by rw [List.mem_filter, List.mem_range]; exact ⟨h1, h2⟩, rfl⟩
theorem lettersN_up (c : Cs) (gs : List Int) (lo hi : Int) (n : Nat) (w : List Int) (p m : Nat) : (lettersN c gs lo hi n w p m).Pairwise (· < ·) := by
  unfold lettersN
  rw [List.pairwise_map]
  refine List.Pairwise.filter _ ?_
  exact List.pairwise_lt_range.imp (fun h => by omega)
theorem up_at {L : List Int} (h : L.Pairwise (· < ·)) {i : Nat} (hi : i + 1 < L.length) : L.getD i 0 < L.getD (i + 1) 0 := by
  rw [List.getD_eq_getElem?_getD, List.getD_eq_getElem?_getD, List.getElem?_eq_getElem hi, List.getElem?_eq_getElem (by omega)]
  exact List.pairwise_iff_getElem.1 h i (i + 1) (by omega) hi (by omega)

/-! ### A word, of which two letters are blotted -/
section
variable {c : Cs} {w : List Int} (hw : c.Word w) {a b : Nat} (ha : a < w.length) (hb : b < w.length)
include hw ha
theorem one_blotted : c.Blotted (w.set a (-1)) := fun x hx => by
  rcases List.mem_or_eq_of_mem_set hx with h | rfl
  · exact .inr (hw.2.2 x h)
  · exact .inl rfl
theorem word_count : w.count (-1) = 0 := List.count_eq_zero.2 fun h => by have := hw.2.2 _ h; omega
theorem one_count : (w.set a (-1)).count (-1) = 1 := by
  have h := count_set_blot (w := w.set a (-1)) (k := a) (by simpa using ha) (l := w[a]) (by simp) (hw.2.2 _ (List.getElem_mem _)).1
  rw [List.set_set, List.set_getElem_self, word_count hw ha] at h
  omega
include hb
theorem two_blotted : c.Blotted ((w.set a (-1)).set b (-1)) := fun x hx => by
  rcases List.mem_or_eq_of_mem_set hx with h | rfl
  · exact one_blotted hw ha x h
  · exact .inl rfl
theorem two_count (h : a ≠ b) : ((w.set a (-1)).set b (-1)).count (-1) = 2 := by
  have h1 : ((w.set a (-1)).set b (-1)).length = w.length := by simp
  have hbl : b < ((w.set a (-1)).set b (-1)).length := by omega
  have h2 := count_set_blot (w := (w.set a (-1)).set b (-1)) (k := b) hbl (l := w[b]) (by simp) (hw.2.2 _ (List.getElem_mem _)).1
  rw [List.set_set] at h2
  have h3 : (w.set a (-1)).set b w[b] = w.set a (-1) := by
    refine eq_getD (by simp) fun j hj => ?_
    rw [getD_set (by simpa using hb)]
    by_cases e : j = b
    · subst e; rw [if_pos rfl, getD_set ha, if_neg (Ne.symm h), List.getD_eq_getElem?_getD, List.getElem?_eq_getElem hb]; rfl
    · rw [if_neg e]
  rw [h3, one_count hw ha] at h2
  omega
end
theorem blots_fin : ∀ n : Fin 8, ∀ a b : Fin 8, b.val < n.val → ((List.range n.val).filter fun i => i == b.val) = [b.val] ∧ (a.val < b.val → ((List.range n.val).filter fun i => i == a.val || i == b.val) = [a.val, b.val]) := by decide
theorem two_getD {c : Cs} {w : List Int} (hw : c.Word w) {a b : Nat} (ha : a < w.length) (hb : b < w.length) {j : Nat} (hj : j < w.length) : (((w.set a (-1)).set b (-1)).getD j 0 == -1) = (j == a || j == b) := by
  rw [getD_set (by simpa using hb), getD_set ha]
  have := hw.2.2 _ (getD_mem hj)
  by_cases e1 : j = b
  · subst e1; simp
  · by_cases e2 : j = a
    · subst e2; simp
    · rw [if_neg e1, if_neg e2]
      have h1 : (j == a) = false := by simpa using e2
      have h2 : (j == b) = false := by simpa using e1
      have h3 : (w.getD j 0 == -1) = false := by rw [beq_eq_false_iff_ne]; omega
      rw [h1, h2, h3]; rfl
theorem one_blots {c : Cs} {w : List Int} (hw : c.Word w) {a : Nat} (ha : a < w.length) : blotsF (w.set a (-1)) = [(a : Int)] := by
  have h := (blots_fin ⟨w.length, by have := hw.2.1; omega⟩ ⟨a, by have := hw.2.1; omega⟩ ⟨a, by have := hw.2.1; omega⟩ ha).1
  unfold blotsF blotN
  rw [List.length_set, List.filter_congr (q := fun i => i == a) fun i hi => ?_]
  · simp only at h; rw [h]; rfl
  · have := two_getD hw ha ha (List.mem_range.1 hi)
    rw [List.set_set, Bool.or_self] at this
    exact this
theorem two_blots {c : Cs} {w : List Int} (hw : c.Word w) {a b : Nat} (ha : a < w.length) (hb : b < w.length) (h : a ≠ b) : blotsF ((w.set a (-1)).set b (-1)) = [((min a b : Nat) : Int), ((max a b : Nat) : Int)] := by
  unfold blotsF blotN
  rw [List.length_set, List.length_set, List.filter_congr (q := fun i => i == min a b || i == max a b) fun i hi => ?_]
  · have hl := hw.2.1
    have := (blots_fin ⟨w.length, by omega⟩ ⟨min a b, by omega⟩ ⟨max a b, by omega⟩ (by simp only; omega)).2 (by simp only; omega)
    simp only at this
    rw [this]; rfl
  · rw [two_getD hw ha hb (List.mem_range.1 hi)]
    rcases Nat.lt_or_gt_of_ne h with h1 | h1
    · rw [Nat.min_eq_left (by omega), Nat.max_eq_right (by omega)]
    · rw [Nat.min_eq_right (by omega), Nat.max_eq_left (by omega), Bool.or_comm]
end Go.Proofs.YtaekibilldjnmaaGreat
namespace Go.Proofs.YtaekibilldjnmaaGreat
open Go.Proofs

theorem madeP_mem {x : TyA} : ∀ (k : Nat) (p : Int × Int × Int), p ∈ madeP x k → ∃ pr ∈ x.prs, p = pairOf pr
  | 0, p, h => by simp [madeP] at h
  | k + 1, p, h => by
    by_cases hk : k < x.prs.length
    · rw [madeP_succ hk] at h
      unfold addP at h
      split at h
      · exact madeP_mem k p h
      · rcases List.mem_append.1 h with h | h
        · exact madeP_mem k p h
        · exact ⟨_, List.getElem_mem hk, by simpa using h⟩
    · have : madeP x (k + 1) = madeP x k := by unfold madeP; rw [List.take_of_length_le (by omega), List.take_of_length_le (by omega)]
      rw [this] at h; exact madeP_mem k p h
theorem madeP_nodup (x : TyA) : ∀ k, ((madeP x k).map fun p => (p.1, p.2.1)).Nodup
  | 0 => by simp [madeP]
  | k + 1 => by
    by_cases hk : k < x.prs.length
    · rw [madeP_succ hk]
      unfold addP
      split
      · exact madeP_nodup x k
      · rename_i h
        rw [List.map_append, List.nodup_append]
        refine ⟨madeP_nodup x k, by simp, fun a ha b hb e => h ?_⟩
        obtain ⟨p, hp, rfl⟩ := List.mem_map.1 ha
        simp only [List.map_cons, List.map_nil, List.mem_singleton] at hb
        subst hb
        simp only [Prod.mk.injEq] at e
        unfold twiceB
        rw [List.any_eq_true]
        exact ⟨p, hp, by simp [e.1, e.2]⟩
    · have : madeP x (k + 1) = madeP x k := by unfold madeP; rw [List.take_of_length_le (by omega), List.take_of_length_le (by omega)]
      rw [this]; exact madeP_nodup x k
theorem made_valid {x : TyA} (hx : x.Ok) : x.made.Valid := by
  have hwl : (madeW x).length = 6 := by simp [madeW, hx.wd]
  refine ⟨Cs.base_iff.2 ⟨?_, ?_, ?_, ?_, ?_, ?_⟩, madeP_len x 10, ?_, madeP_nodup x 10⟩
  · show 1 ≤ (madeW x).length; omega
  · show (madeW x).length ≤ 8; omega
  · intro n hn
    obtain ⟨m, -, rfl⟩ := List.mem_map.1 (show n ∈ madeW x from hn)
    omega
  · show 0 ≤ x.f0 % 12 ∧ x.f0 % 12 ≤ 20; omega
  · show 0 ≤ x.f1 % 6 ∧ x.f1 % 6 ≤ 10; omega
  · show 0 ≤ x.f2 % 15 ∧ x.f2 % 15 ≤ 30; omega
  · rw [List.all_eq_true]
    intro p hp
    obtain ⟨pr, hpr, rfl⟩ := madeP_mem 10 p hp
    obtain ⟨h1, h2⟩ := hx.pb pr hpr
    unfold Byte at h1 h2
    have e6 : x.made.ws.length = 6 := hwl
    unfold Cs.pairOk Cs.letters
    rw [Bool.and_eq_true, insB_iff, insB_iff, e6]
    unfold pairOf
    refine ⟨?_, ?_⟩
    · intro y hy
      simp only [List.mem_cons, List.not_mem_nil, or_false] at hy
      rcases hy with rfl | rfl <;> omega
    · intro y hy
      simp only [List.mem_cons, List.not_mem_nil, or_false] at hy
      subst hy; omega
theorem own_valid {c : Cs} (h : c.Valid) : c.own.Valid := ⟨h.base, h.few, h.pairs, h.nodup⟩
theorem made_len {x : TyA} (hx : x.Ok) : x.made.ws.length = 6 := by show (madeW x).length = 6; simp [madeW, hx.wd]
theorem wordF_word {l : List Int} (hb : ∀ x ∈ l, 0 ≤ x ∧ x ≤ 255) {c : Cs} (hc : c.ws.length = 6) : c.Word (wordF l) := by
  unfold wordF
  by_cases h0 : l.length = 0
  · rw [if_pos h0]; exact ⟨by simp, by simp, fun x hx => by simp only [List.mem_singleton] at hx; subst hx; omega⟩
  · rw [if_neg h0]
    have hl := wordN_len l (k := min l.length 7) (Nat.min_le_left _ _)
    refine ⟨by rw [hl]; omega, by rw [hl]; omega, fun x hx => ?_⟩
    unfold wordN at hx
    obtain ⟨y, hy, rfl⟩ := List.mem_map.1 hx
    have := hb y (List.mem_of_mem_take hy)
    unfold letterOf
    rw [Int.tmod_eq_emod_of_nonneg this.1]; omega

/-- A copy of a list, as an object of one's own. -/
theorem ints_own (H : Hp) (nl clip : Bool) (xs : List Int) (hl : xs.length < 1000000) (h0 : 0 < xs.length) : CallV Tryz.prog 12 [vints nl clip xs] H (fun r H' => ∃ id, H id = none ∧ r = .rs id 0 1 0 xs.length false ∧ H' = H.set id (some (.cells 3 0 (xs.map vint)))) := by
  refine CallV.body Tryz.func12 rfl Tryz.ntmps12 (by rfl) ?_
  refine WpV.seq (WpV.regionE (by simp only [go_sem, reduceCtorEq, Nat.reduceAdd, Nat.reduceMul, Nat.reduceSub, Nat.reduceLT, Nat.reduceLeDiff, Nat.reduceEqDiff, Nat.reduceBEq, Nat.reducePow]; rfl) (Marks.nil _) ?_)
  simp only [Vthen, VinBlock, if_true, if_false, Nat.reduceEqDiff, reduceCtorEq]
  refine WpV.seq (WpV.region ?_)
  refine WpOps.take 2 (by simp only [go_sem, reduceCtorEq, Nat.reduceAdd, Nat.reduceMul, Nat.reduceSub, Nat.reduceLT, Nat.reduceLeDiff, Nat.reduceEqDiff, Nat.reduceBEq, Nat.reducePow]; rfl) ?_
  refine WpOps.step (by rfl) (by rfl) ?_
  refine OpW.append (nl := false) (len := 0) (cells := []) (m := xs.length) (ys := xs.map vint) rfl rfl rfl rfl (Tryz.el29 (by omega)) Tryz.underlying29 (by simp) (by simp) (all_one_ints _) (by omega) (fun id hid => ?_)
  refine WpOps.take 1 (by simp only [go_sem, reduceCtorEq, Nat.reduceAdd, Nat.reduceMul, Nat.reduceSub, Nat.reduceLT, Nat.reduceLeDiff, Nat.reduceEqDiff, Nat.reduceBEq, Nat.reducePow]; rfl) (WpOps.nil ⟨Marks.nil _, ?_⟩)
  simp only [Vthen, VinBlock, if_true, if_false, Nat.reduceEqDiff, reduceCtorEq]
  refine WpV.ret ⟨Marks.nil _, List.nodup_nil, _, by simp only [Tryz.results12]; simp only [go_sem, reduceCtorEq, Nat.reduceAdd, Nat.reduceMul, Nat.reduceSub, Nat.reduceLT, Nat.reduceLeDiff, Nat.reduceEqDiff, Nat.reduceBEq, Nat.reducePow]; rfl, ?_⟩
  exact ⟨id, hid, rfl, by simp [killA]⟩

/-! ### What was measured -/
def gapsN (v : Int) (m : Nat) : List Int := (List.range m).map fun (j : Nat) => v / ((j : Int) + 1) % 20
theorem gapsN_len (v : Int) (m : Nat) : (gapsN v m).length = m := by simp [gapsN]
theorem gapsN_succ (v : Int) (m : Nat) : gapsN v (m + 1) = gapsN v m ++ [v / ((m : Int) + 1) % 20] := by
  unfold gapsN; rw [List.range_succ, List.map_append]; rfl
theorem gapsN_le (v : Int) (m : Nat) : ∀ x ∈ gapsN v m, 0 ≤ x ∧ x ≤ 19 := fun x hx => by
  obtain ⟨j, -, rfl⟩ := List.mem_map.1 hx; omega
def lngN (c : Cs) (w : List Int) (v : Int) (k : Nat) : Int := 2 * c.rim + ((w.take k).map c.widthOf).sum + (gapsN v (k - 1)).sum
theorem lngN_all (c : Cs) (w : List Int) (v : Int) : lngN c w v w.length = 2 * c.rim + c.longF w (gapsN v (w.length - 1)) := by
  unfold lngN Cs.longF; rw [List.take_length]; omega
theorem lngN_le {c : Cs} (hc : c.Fair) {w : List Int} (hw : c.Word w) (v : Int) (k : Nat) (hk : k ≤ w.length) : 0 ≤ lngN c w v k ∧ lngN c w v k ≤ 1000 := by
  have h1 := sum_bound (xs := gapsN v (k - 1)) (a := 0) (b := 19) (gapsN_le v _)
  have h2 := sum_bound (xs := (w.take k).map c.widthOf) (a := 0) (b := 30) (fun y hy => by
    obtain ⟨x, hx, rfl⟩ := List.mem_map.1 hy; exact Cs.width_le hc.ws (hw.2.2 x (List.mem_of_mem_take hx)))
  have h3 := hc.rim
  rw [gapsN_len] at h1
  rw [List.length_map, List.length_take] at h2
  have := hw.2.1
  unfold lngN
  omega
theorem lngN_succ (c : Cs) (w : List Int) (v : Int) {k : Nat} (hk : k < w.length) : lngN c w v (k + 1) = if k = 0 then lngN c w v k + c.widthOf (w.getD k 0) else lngN c w v k + c.widthOf (w.getD k 0) + v / (k : Int) % 20 := by
  have e : ((w.take (k + 1)).map c.widthOf).sum = ((w.take k).map c.widthOf).sum + c.widthOf (w.getD k 0) := by
    rw [List.take_add_one, List.getElem?_eq_getElem hk, List.map_append, List.sum_append, List.getD_eq_getElem?_getD, List.getElem?_eq_getElem hk]; simp
  unfold lngN
  rw [e]
  by_cases h : k = 0
  · rw [if_pos h]; subst h; simp; omega
  · rw [if_neg h, show k + 1 - 1 = (k - 1) + 1 by omega, gapsN_succ, List.sum_append, show ((k - 1 : Nat) : Int) + 1 = (k : Int) by omega]
    simp; omega
end Go.Proofs.YtaekibilldjnmaaGreat
namespace Go.Proofs.YtaekibilldjnmaaGreat
open Go.Proofs

theorem pairs_idx2 : ∀ (ps : List (Int × Int × Int)) (k : Nat) (h : k < ps.length), (ps.flatMap pairC)[k * 3 + 2]? = some (vint ps[k].2.2)
  | [], k, h => by simp at h
  | p :: ps, 0, _ => by simp [pairC]
  | p :: ps, k + 1, h => by
    have e : (k + 1) * 3 = k * 3 + 3 := by omega
    rw [e]
    show (vint p.1 :: vint p.2.1 :: vint p.2.2 :: ps.flatMap pairC)[k * 3 + 3 + 2]? = _
    simp only [List.getElem?_cons_succ, List.getElem_cons_succ]
    exact pairs_idx2 ps k (by simpa using h)
theorem int_at' {L : List Int} {k : Nat} (h : k < L.length) : (L.map vint)[k]? = some (vint (L.getD k 0)) := by
  rw [ints_get L h, List.getD_eq_getElem?_getD, List.getElem?_eq_getElem h]; rfl

set_option maxHeartbeats 4000000 in
theorem look_any (H : Hp) (c : Cs) (hc : c.Valid) (nl clip : Bool) (w : List Int) (hw : c.Word w) (i : Nat) (hi : i + 1 < w.length) (gap : Int) (hg : -100000 ≤ gap ∧ gap ≤ 100000) :
    CallV Tryz.prog 20 [.agg c.cells, vints nl clip w, vint i, vint gap] H (fun r H' => r = vint (gap + (c.mores w).getD i 0) ∧ H' = H) := by
  have hm : (c.mores w).getD i 0 = c.moreOf (w.getD i 0) (w.getD (i + 1) 0) := by
    have h1 : i < (c.mores w).length := by rw [Cs.moreN_len]; omega
    rw [List.getD_eq_getElem?_getD, List.getElem?_eq_getElem h1]
    simp [Cs.mores, Cs.moreN]
  rw [hm]
  have hwl := hw.2.1
  have hfew := hc.few
  have hA := int_at' (L := w) (k := i) (by omega)
  have hB := int_at' (L := w) (k := i + 1) hi
  generalize w.getD i 0 = x at hA ⊢
  generalize w.getD (i + 1) 0 = y at hB ⊢
  have hil : (i : Int) < (w.length : Int) := by omega
  have hil1 : ((i + 1 : Nat) : Int) < (w.length : Int) := by omega
  have hw1 : IntKind.i64.wrap ((i : Int) + 1) = ((i + 1 : Nat) : Int) := by rw [wrap64 (by omega)]; rfl
  refine CallV.body Tryz.func20 rfl Tryz.ntmps20 (by rfl) ?_
  refine WpV.seq (WpV.regionE (by simp only [go_sem, reduceCtorEq, Nat.reduceAdd, Nat.reduceMul, Nat.reduceSub, Nat.reduceLT, Nat.reduceLeDiff, Nat.reduceEqDiff, Nat.reduceBEq, Nat.reducePow]; rfl) (Marks.nil _) ?_)
  simp only [Vthen, VinBlock, if_true, if_false, Nat.reduceEqDiff, reduceCtorEq]
  refine WpV.seq ?_
  refine WpV.seq (WpV.regionE (by simp only [go_sem, reduceCtorEq, Nat.reduceAdd, Nat.reduceMul, Nat.reduceSub, Nat.reduceLT, Nat.reduceLeDiff, Nat.reduceEqDiff, Nat.reduceBEq, Nat.reducePow]; rfl) (Marks.nil _) ?_)
  simp only [Vthen, VinBlock, if_true, if_false, Nat.reduceEqDiff, reduceCtorEq]
  refine WpV.block (WpV.loopP c.ps.length (fun k => ∀ j, (hj : j < c.ps.length) → j < k → (c.ps[j].1 == x && c.ps[j].2.1 == y) = false) (fun k => [(1, vints nl clip w), (2, vint i), (3, vint gap), (4, .cp c.cells 0), (9, vint k)]) (fun _ => H) (fun j _ hj => absurd hj (Nat.not_lt_zero _)) ?_ rfl ?_)
  · exact .cons rfl rfl (.cons rfl rfl (.cons rfl rfl (.cons rfl rfl (.cons rfl rfl (.nil _)))))
  · intro k hk hno
    refine WpV.seq ?_
    refine WpV.seq (WpV.regionE (by simp only [go_sem, reduceCtorEq, Nat.reduceAdd, Nat.reduceMul, Nat.reduceSub, Nat.reduceLT, Nat.reduceLeDiff, Nat.reduceEqDiff, Nat.reduceBEq, Nat.reducePow]; rfl) (Marks.nil _) ?_)
    simp only [Vthen, VinBlock, if_true, if_false, Nat.reduceEqDiff, reduceCtorEq]
    refine WpV.cond rfl (fun hb => WpV.skip ?_) (fun hb => WpV.exit ?_)
    · have hlt : (k : Int) < (c.ps.length : Int) := of_decide_eq_true ‹_›
      have hlt' : k < c.ps.length := by omega
      obtain ⟨hq0, hq1⟩ := pairs_idx c.ps k hlt'
      have hq2 := pairs_idx2 c.ps k hlt'
      have hpm := hc.pair (List.getElem_mem hlt')
      have hnk : IntKind.i64.wrap ((k : Int) + 1) = ((k + 1 : Nat) : Int) := by rw [wrap64 (by omega)]; rfl
      have hgo : (c.ps[k].1 == x && c.ps[k].2.1 == y) = true → c.moreOf x y = c.ps[k].2.2 := by
        intro h
        have hf : c.ps.find? (fun p => p.1 == x && p.2.1 == y) = some c.ps[k] := by
          rw [List.find?_eq_some_iff_append]
          refine ⟨h, c.ps.take k, c.ps.drop (k + 1), ?_, fun a ha => ?_⟩
          · rw [← List.drop_eq_getElem_cons hlt', List.take_append_drop]
          obtain ⟨j, hj, rfl⟩ := List.getElem_of_mem ha
          rw [List.length_take] at hj
          rw [List.getElem_take]
          rw [hno j (by omega) (by omega)]; rfl
        unfold Cs.moreOf
        rw [hf]
      have stay : (c.ps[k].1 == x && c.ps[k].2.1 == y) = false → ∀ j, (hj : j < c.ps.length) → j < k + 1 → (c.ps[j].1 == x && c.ps[j].2.1 == y) = false := by
        intro h j hj hjk
        by_cases e : j = k
        · subst e; exact h
        · exact hno j hj (by omega)
      generalize c.ps[k] = q at hq0 hq1 hq2 hpm hgo stay
      simp only [Vthen, VinBlock, if_true, if_false, Nat.reduceEqDiff, reduceCtorEq]
      refine WpV.seq (WpV.block ?_)
      cases hqa : (q.1 == x)
      · rw [hqa, Bool.false_and] at stay
        refine WpV.seq (WpV.regionD Tryz.mixed (by kernel_rfl) (by kernel_rfl) ?_)
        refine LexD.take 8 (by rfl) (by simp only [go_sem, reduceCtorEq, Nat.reduceAdd, Nat.reduceMul, Nat.reduceSub, Nat.reduceLT, Nat.reduceLeDiff, Nat.reduceEqDiff, Nat.reduceBEq, Nat.reducePow, hlt, hq0, hA, hil, hqa]; rfl) ?_
        refine LexD.take 8 (by rfl) (by simp only [go_sem, reduceCtorEq, Nat.reduceAdd, Nat.reduceMul, Nat.reduceSub, Nat.reduceLT, Nat.reduceLeDiff, Nat.reduceEqDiff, Nat.reduceBEq, Nat.reducePow, hlt, hq0, hA, hil, hqa]; rfl) ?_
        refine LexD.take 8 (by rfl) (by simp only [go_sem, reduceCtorEq, Nat.reduceAdd, Nat.reduceMul, Nat.reduceSub, Nat.reduceLT, Nat.reduceLeDiff, Nat.reduceEqDiff, Nat.reduceBEq, Nat.reducePow, hlt, hq0, hA, hil, hqa]; rfl) ?_
        refine LexD.take 1 (by rfl) (by simp only [go_sem, reduceCtorEq, Nat.reduceAdd, Nat.reduceMul, Nat.reduceSub, Nat.reduceLT, Nat.reduceLeDiff, Nat.reduceEqDiff, Nat.reduceBEq, Nat.reducePow, hlt, hq0, hA, hil, hqa]; rfl) (LexD.nilE ⟨Marks.nil _, ?_⟩)
        simp only [Vthen, VinBlock, if_true, if_false, Nat.reduceEqDiff, reduceCtorEq]
        refine WpV.cond rfl (fun hb => by cases hb) (fun hb => WpV.skip ?_)
        simp only [Vthen, VinBlock, if_true, if_false, Nat.reduceEqDiff, reduceCtorEq]
        refine WpV.regionE (by simp only [go_sem, reduceCtorEq, Nat.reduceAdd, Nat.reduceMul, Nat.reduceSub, Nat.reduceLT, Nat.reduceLeDiff, Nat.reduceEqDiff, Nat.reduceBEq, Nat.reducePow, hnk]; rfl) (Marks.nil _) ?_
        simp only [Vthen, VinBlock, if_true, if_false, Nat.reduceEqDiff, reduceCtorEq]
        exact ⟨by first | rfl | trivial, hlt', stay rfl, .cons rfl rfl (.cons rfl rfl (.cons rfl rfl (.cons rfl rfl (.cons rfl rfl (.nil _))))), by first | rfl | trivial⟩
      · rw [hqa, Bool.true_and] at stay hgo
        cases hqb : (q.2.1 == y)
        · refine WpV.seq (WpV.regionD Tryz.mixed (by kernel_rfl) (by kernel_rfl) ?_)
          refine LexD.take 8 (by rfl) (by simp only [go_sem, reduceCtorEq, Nat.reduceAdd, Nat.reduceMul, Nat.reduceSub, Nat.reduceLT, Nat.reduceLeDiff, Nat.reduceEqDiff, Nat.reduceBEq, Nat.reducePow, hlt, hq0, hq1, hA, hB, hil, hil1, hw1, hqa, hqb]; rfl) ?_
          refine LexD.take 8 (by rfl) (by simp only [go_sem, reduceCtorEq, Nat.reduceAdd, Nat.reduceMul, Nat.reduceSub, Nat.reduceLT, Nat.reduceLeDiff, Nat.reduceEqDiff, Nat.reduceBEq, Nat.reducePow, hlt, hq0, hq1, hA, hB, hil, hil1, hw1, hqa, hqb]; rfl) ?_
          refine LexD.take 8 (by rfl) (by simp only [go_sem, reduceCtorEq, Nat.reduceAdd, Nat.reduceMul, Nat.reduceSub, Nat.reduceLT, Nat.reduceLeDiff, Nat.reduceEqDiff, Nat.reduceBEq, Nat.reducePow, hlt, hq0, hq1, hA, hB, hil, hil1, hw1, hqa, hqb]; rfl) ?_
          refine LexD.take 1 (by rfl) (by simp only [go_sem, reduceCtorEq, Nat.reduceAdd, Nat.reduceMul, Nat.reduceSub, Nat.reduceLT, Nat.reduceLeDiff, Nat.reduceEqDiff, Nat.reduceBEq, Nat.reducePow, hlt, hq0, hq1, hA, hB, hil, hil1, hw1, hqa, hqb]; rfl) (LexD.nilE ⟨Marks.nil _, ?_⟩)
          simp only [Vthen, VinBlock, if_true, if_false, Nat.reduceEqDiff, reduceCtorEq]
          refine WpV.cond rfl (fun hb => by cases hb) (fun hb => WpV.skip ?_)
          simp only [Vthen, VinBlock, if_true, if_false, Nat.reduceEqDiff, reduceCtorEq]
          refine WpV.regionE (by simp only [go_sem, reduceCtorEq, Nat.reduceAdd, Nat.reduceMul, Nat.reduceSub, Nat.reduceLT, Nat.reduceLeDiff, Nat.reduceEqDiff, Nat.reduceBEq, Nat.reducePow, hnk]; rfl) (Marks.nil _) ?_
          simp only [Vthen, VinBlock, if_true, if_false, Nat.reduceEqDiff, reduceCtorEq]
          exact ⟨by first | rfl | trivial, hlt', stay hqb, .cons rfl rfl (.cons rfl rfl (.cons rfl rfl (.cons rfl rfl (.cons rfl rfl (.nil _))))), by first | rfl | trivial⟩
        · have hws : IntKind.i64.wrap (gap + q.2.2) = gap + q.2.2 := wrap64 (by omega)
          refine WpV.seq (WpV.regionD Tryz.mixed (by kernel_rfl) (by kernel_rfl) ?_)
          refine LexD.take 8 (by rfl) (by simp only [go_sem, reduceCtorEq, Nat.reduceAdd, Nat.reduceMul, Nat.reduceSub, Nat.reduceLT, Nat.reduceLeDiff, Nat.reduceEqDiff, Nat.reduceBEq, Nat.reducePow, hlt, hq0, hq1, hA, hB, hil, hil1, hw1, hqa, hqb]; rfl) ?_
          refine LexD.take 8 (by rfl) (by simp only [go_sem, reduceCtorEq, Nat.reduceAdd, Nat.reduceMul, Nat.reduceSub, Nat.reduceLT, Nat.reduceLeDiff, Nat.reduceEqDiff, Nat.reduceBEq, Nat.reducePow, hlt, hq0, hq1, hA, hB, hil, hil1, hw1, hqa, hqb]; rfl) ?_
          refine LexD.take 8 (by rfl) (by simp only [go_sem, reduceCtorEq, Nat.reduceAdd, Nat.reduceMul, Nat.reduceSub, Nat.reduceLT, Nat.reduceLeDiff, Nat.reduceEqDiff, Nat.reduceBEq, Nat.reducePow, hlt, hq0, hq1, hA, hB, hil, hil1, hw1, hqa, hqb]; rfl) ?_
          refine LexD.take 1 (by rfl) (by simp only [go_sem, reduceCtorEq, Nat.reduceAdd, Nat.reduceMul, Nat.reduceSub, Nat.reduceLT, Nat.reduceLeDiff, Nat.reduceEqDiff, Nat.reduceBEq, Nat.reducePow, hlt, hq0, hq1, hA, hB, hil, hil1, hw1, hqa, hqb]; rfl) (LexD.nilE ⟨Marks.nil _, ?_⟩)
          simp only [Vthen, VinBlock, if_true, if_false, Nat.reduceEqDiff, reduceCtorEq]
          refine WpV.cond rfl (fun hb => ?_) (fun hb => by cases hb)
          refine WpV.seq (WpV.regionE (by simp only [go_sem, reduceCtorEq, Nat.reduceAdd, Nat.reduceMul, Nat.reduceSub, Nat.reduceLT, Nat.reduceLeDiff, Nat.reduceEqDiff, Nat.reduceBEq, Nat.reducePow, hlt, hq2, hws]; rfl) (Marks.nil _) ?_)
          simp only [Vthen, VinBlock, if_true, if_false, Nat.reduceEqDiff, reduceCtorEq]
          refine WpV.ret ⟨Marks.nil _, List.nodup_nil, _, by simp only [Tryz.results20]; simp only [go_sem, reduceCtorEq, Nat.reduceAdd, Nat.reduceMul, Nat.reduceSub, Nat.reduceLT, Nat.reduceLeDiff, Nat.reduceEqDiff, Nat.reduceBEq, Nat.reducePow]; rfl, ?_⟩
          exact ⟨by rw [hgo hqb], rfl⟩
    · have hge : k = c.ps.length := by have := of_decide_eq_false ‹_›; omega
      subst hge
      simp only [Vthen, VinBlock, if_true, if_false, Nat.reduceEqDiff, reduceCtorEq]
      refine WpV.seq (WpV.regionE (by simp only [go_sem, reduceCtorEq, Nat.reduceAdd, Nat.reduceMul, Nat.reduceSub, Nat.reduceLT, Nat.reduceLeDiff, Nat.reduceEqDiff, Nat.reduceBEq, Nat.reducePow]; rfl) (Marks.nil _) ?_)
      simp only [Vthen, VinBlock, if_true, if_false, Nat.reduceEqDiff, reduceCtorEq]
      refine WpV.ret ⟨Marks.nil _, List.nodup_nil, _, by simp only [Tryz.results20]; simp only [go_sem, reduceCtorEq, Nat.reduceAdd, Nat.reduceMul, Nat.reduceSub, Nat.reduceLT, Nat.reduceLeDiff, Nat.reduceEqDiff, Nat.reduceBEq, Nat.reducePow]; rfl, ?_⟩
      refine ⟨?_, rfl⟩
      have : c.moreOf x y = 0 := by
        unfold Cs.moreOf
        rw [List.find?_eq_none.2 fun a ha => by
          obtain ⟨j, hj, rfl⟩ := List.getElem_of_mem ha
          rw [hno j hj hj]; decide]
      rw [this]; congr 1; omega

theorem least_any (H : Hp) (c : Cs) (hc : c.Valid) (nl clip : Bool) (w : List Int) (hw : c.Word w) (i : Nat) (hi : i + 1 < w.length) :
    CallV Tryz.prog 16 [.agg c.cells, vints nl clip w, vint i] H (fun r H' => r = vint ((c.closest w).getD i 0) ∧ H' = H) := by
  have hlk := look_any H c hc nl clip w hw i hi 0 (by omega)
  have hca := Cs.close_at c w (k := i) (by omega)
  have hle := hc.fair.least
  have hmb := Cs.mores_le hc.fair w (w.length - 1) _ (getD_mem (xs := c.mores w) (k := i) (by rw [Cs.moreN_len]; omega))
  rw [hca]
  generalize (c.mores w).getD i 0 = m at hlk hmb ⊢
  rw [Int.zero_add] at hlk
  have hws : IntKind.i64.wrap (c.least - m) = c.least - m := wrap64 (by omega)
  refine CallV.body Tryz.func16 rfl Tryz.ntmps16 (by rfl) ?_
  refine WpV.seq (WpV.regionE (by simp only [go_sem, reduceCtorEq, Nat.reduceAdd, Nat.reduceMul, Nat.reduceSub, Nat.reduceLT, Nat.reduceLeDiff, Nat.reduceEqDiff, Nat.reduceBEq, Nat.reducePow]; rfl) (Marks.nil _) ?_)
  simp only [Vthen, VinBlock, if_true, if_false, Nat.reduceEqDiff, reduceCtorEq]
  refine WpV.seq (WpV.regionD Tryz.mixed (by kernel_rfl) (by kernel_rfl) ?_)
  refine LexD.take 5 (by rfl) (by simp only [go_sem, reduceCtorEq, Nat.reduceAdd, Nat.reduceMul, Nat.reduceSub, Nat.reduceLT, Nat.reduceLeDiff, Nat.reduceEqDiff, Nat.reduceBEq, Nat.reducePow, hws]; rfl) ?_
  refine LexD.step (by rfl) (by rfl) (OpW.callY rfl (by rfl) (by rfl) (by rfl) (enters_of Tryz.func20 (by kernel_rfl) rfl) (hlk)) ?_
  refine LexD.take 3 (by rfl) (by simp only [go_sem, reduceCtorEq, Nat.reduceAdd, Nat.reduceMul, Nat.reduceSub, Nat.reduceLT, Nat.reduceLeDiff, Nat.reduceEqDiff, Nat.reduceBEq, Nat.reducePow, hws]; rfl) (LexD.nilE ⟨Marks.nil _, ?_⟩)
  simp only [Vthen, VinBlock, if_true, if_false, Nat.reduceEqDiff, reduceCtorEq]
  refine WpV.ret ⟨Marks.nil _, List.nodup_nil, _, by simp only [Tryz.results16]; simp only [go_sem, reduceCtorEq, Nat.reduceAdd, Nat.reduceMul, Nat.reduceSub, Nat.reduceLT, Nat.reduceLeDiff, Nat.reduceEqDiff, Nat.reduceBEq, Nat.reducePow]; rfl, ?_⟩
  refine ⟨?_, rfl⟩
  unfold Cs.close
  congr 1
  split <;> split <;> omega

set_option maxHeartbeats 4000000 in
theorem needs_any (H : Hp) (c : Cs) (hc : c.Valid) (nl clip : Bool) (w : List Int) (hw : c.Word w) :
    CallV Tryz.prog 13 [.agg c.cells, vints nl clip w] H (fun r H' => r = vint (c.needF [w]) ∧ H' = H) := by
  have hF := hc.fair
  have hrim := hF.rim
  have hwl := hw.2.1
  have hw1 := hw.1
  have hwr2 : IntKind.i64.wrap (2 * c.rim) = 2 * c.rim := wrap64 (by omega)
  have hcl := Cs.closest_len c w
  have hcle := Cs.closest_le hF w
  refine CallV.body Tryz.func13 rfl Tryz.ntmps13 (by rfl) ?_
  refine WpV.seq (WpV.regionE (by simp only [go_sem, reduceCtorEq, Nat.reduceAdd, Nat.reduceMul, Nat.reduceSub, Nat.reduceLT, Nat.reduceLeDiff, Nat.reduceEqDiff, Nat.reduceBEq, Nat.reducePow]; rfl) (Marks.nil _) ?_)
  simp only [Vthen, VinBlock, if_true, if_false, Nat.reduceEqDiff, reduceCtorEq]
  refine WpV.seq (WpV.regionE (by simp only [go_sem, reduceCtorEq, Nat.reduceAdd, Nat.reduceMul, Nat.reduceSub, Nat.reduceLT, Nat.reduceLeDiff, Nat.reduceEqDiff, Nat.reduceBEq, Nat.reducePow, hwr2]; rfl) (Marks.nil _) ?_)
  simp only [Vthen, VinBlock, if_true, if_false, Nat.reduceEqDiff, reduceCtorEq]
  refine WpV.seq ?_
  refine WpV.seq (WpV.regionE (by simp only [go_sem, reduceCtorEq, Nat.reduceAdd, Nat.reduceMul, Nat.reduceSub, Nat.reduceLT, Nat.reduceLeDiff, Nat.reduceEqDiff, Nat.reduceBEq, Nat.reducePow]; rfl) (Marks.nil _) ?_)
  simp only [Vthen, VinBlock, if_true, if_false, Nat.reduceEqDiff, reduceCtorEq]
  refine WpV.block (WpV.loopN w.length (fun k => [(1, vints nl clip w), (2, .cp c.cells 0), (5, vint (2 * c.rim + ((w.take k).map c.widthOf).sum + ((c.closest w).take k).sum)), (6, vint k)]) (fun _ => H) ?_ rfl ?_)
  · exact .cons rfl rfl (.cons rfl rfl (.cons rfl (by simp) (.cons rfl rfl (.nil _))))
  · intro k hk
    refine WpV.seq ?_
    refine WpV.seq (WpV.regionE (by simp only [go_sem, reduceCtorEq, Nat.reduceAdd, Nat.reduceMul, Nat.reduceSub, Nat.reduceLT, Nat.reduceLeDiff, Nat.reduceEqDiff, Nat.reduceBEq, Nat.reducePow]; rfl) (Marks.nil _) ?_)
    simp only [Vthen, VinBlock, if_true, if_false, Nat.reduceEqDiff, reduceCtorEq]
    refine WpV.cond rfl (fun hb => WpV.skip ?_) (fun hb => WpV.exit ?_)
    · have hlt : (k : Int) < (w.length : Int) := of_decide_eq_true ‹_›
      have hlt' : k < w.length := by omega
      have hg := int_at' (L := w) hlt'
      have hxl := hw.2.2 _ (getD_mem (xs := w) hlt')
      have hwx := Cs.width_le hF.ws hxl
      have h1 := sum_bound (xs := (c.closest w).take k) (a := 0) (b := 15) (fun y hy => hcle y (List.mem_of_mem_take hy))
      have h2 := sum_bound (xs := (w.take k).map c.widthOf) (a := 0) (b := 30) (fun y hy => by
        obtain ⟨x, hx, rfl⟩ := List.mem_map.1 hy; exact Cs.width_le hF.ws (hw.2.2 x (List.mem_of_mem_take hx)))
      have hs1 : ((w.take (k + 1)).map c.widthOf).sum = ((w.take k).map c.widthOf).sum + c.widthOf (w.getD k 0) := by
        rw [List.take_add_one, List.getElem?_eq_getElem hlt', List.map_append, List.sum_append, List.getD_eq_getElem?_getD, List.getElem?_eq_getElem hlt']; simp
      have hs2 : ((c.closest w).take (k + 1)).sum = if k + 1 < w.length then ((c.closest w).take k).sum + (c.closest w).getD k 0 else ((c.closest w).take k).sum := by
        split
        · rw [List.take_add_one, List.getElem?_eq_getElem (show k < (c.closest w).length by omega), List.sum_append, List.getD_eq_getElem?_getD, List.getElem?_eq_getElem (show k < (c.closest w).length by omega)]; simp
        · rw [List.take_of_length_le (by omega), List.take_of_length_le (by omega)]
      have hla : k + 1 < w.length → 0 ≤ (c.closest w).getD k 0 ∧ (c.closest w).getD k 0 ≤ 15 := fun h => hcle _ (getD_mem (by omega))
      have hl1 : ((c.closest w).take k).length ≤ 7 := by rw [List.length_take]; omega
      have hl2 : ((w.take k).map c.widthOf).length ≤ 7 := by rw [List.length_map, List.length_take]; omega
      have hto : (w.getD k 0).toNat < c.ws.length := by omega
      have hlst := fun h => least_any H c hc nl clip w hw k h
      generalize w.getD k 0 = y at hg hxl hwx hto hs1
      have hgw : (c.ws.map vint)[y.toNat]? = some (vint (c.widthOf y)) := by
        rw [ints_get c.ws hto]; simp [Cs.widthOf, List.getD_eq_getElem?_getD, hto]
      obtain ⟨hx0, hx1⟩ := hxl
      rw [hs1, hs2]
      generalize ((w.take k).map c.widthOf).sum = s1 at *
      generalize ((c.closest w).take k).sum = s2 at *
      generalize ((w.take k).map c.widthOf).length = n1 at *
      generalize ((c.closest w).take k).length = n2 at *
      have hwa : IntKind.i64.wrap (2 * c.rim + s1 + s2 + c.widthOf y) = 2 * c.rim + s1 + s2 + c.widthOf y := wrap64 (by omega)
      have hnk : IntKind.i64.wrap ((k : Int) + 1) = ((k + 1 : Nat) : Int) := by rw [wrap64 (by omega)]; rfl
      simp only [Vthen, VinBlock, if_true, if_false, Nat.reduceEqDiff, reduceCtorEq]
      refine WpV.seq (WpV.block ?_)
      refine WpV.seq (WpV.regionTN 10 Tryz.mixed (by kernel_rfl) (by kernel_rfl) (by kernel_rfl) ?_)
      refine LexD.take 8 (by rfl) (by simp only [go_sem, reduceCtorEq, Nat.reduceAdd, Nat.reduceMul, Nat.reduceSub, Nat.reduceLT, Nat.reduceLeDiff, Nat.reduceEqDiff, Nat.reduceBEq, Nat.reducePow, hlt, hg, hx0, hx1, hgw, hwa]; rfl) ?_
      refine LexD.take 2 (by rfl) (by simp only [go_sem, reduceCtorEq, Nat.reduceAdd, Nat.reduceMul, Nat.reduceSub, Nat.reduceLT, Nat.reduceLeDiff, Nat.reduceEqDiff, Nat.reduceBEq, Nat.reducePow, hlt, hg, hx0, hx1, hgw, hwa]; rfl) ?_
      refine LexD.nilE ?_
      refine LexT.take 1 (by simp only [go_sem, reduceCtorEq, Nat.reduceAdd, Nat.reduceMul, Nat.reduceSub, Nat.reduceLT, Nat.reduceLeDiff, Nat.reduceEqDiff, Nat.reduceBEq, Nat.reducePow, hlt, hg, hx0, hx1, hgw, hwa]; rfl) (LexT.nilE ⟨Marks.nil _, ?_⟩)
      simp only [Vthen, VinBlock, if_true, if_false, Nat.reduceEqDiff, reduceCtorEq]
      by_cases hk1 : k + 1 < w.length
      · have hk1' : ((k + 1 : Nat) : Int) < (w.length : Int) := by omega
        have hlb := hla hk1
        have hwb : IntKind.i64.wrap (2 * c.rim + s1 + s2 + c.widthOf y + (c.closest w).getD k 0) = 2 * c.rim + s1 + s2 + c.widthOf y + (c.closest w).getD k 0 := wrap64 (by omega)
        refine WpV.seq (WpV.regionE (by simp only [go_sem, reduceCtorEq, Nat.reduceAdd, Nat.reduceMul, Nat.reduceSub, Nat.reduceLT, Nat.reduceLeDiff, Nat.reduceEqDiff, Nat.reduceBEq, Nat.reducePow, hnk, hk1']; rfl) (Marks.nil _) ?_)
        simp only [Vthen, VinBlock, if_true, if_false, Nat.reduceEqDiff, reduceCtorEq]
        refine WpV.cond rfl (fun hb => ?_) (fun hb => by cases hb)
        refine WpV.region ?_
        refine WpOps.take 4 (by simp only [go_sem, reduceCtorEq, Nat.reduceAdd, Nat.reduceMul, Nat.reduceSub, Nat.reduceLT, Nat.reduceLeDiff, Nat.reduceEqDiff, Nat.reduceBEq, Nat.reducePow, hwb]; rfl) ?_
        refine WpOps.step (by rfl) (by rfl) (OpW.callY rfl (by rfl) (by rfl) (by rfl) (enters_of Tryz.func16 (by kernel_rfl) rfl) ((hlst hk1).mono ?_))
        rintro _ _ ⟨rfl, hH⟩
        replace hH := hH.symm
        subst hH
        refine WpOps.take 2 (by simp only [go_sem, reduceCtorEq, Nat.reduceAdd, Nat.reduceMul, Nat.reduceSub, Nat.reduceLT, Nat.reduceLeDiff, Nat.reduceEqDiff, Nat.reduceBEq, Nat.reducePow, hwb]; rfl) (WpOps.nil ⟨Marks.nil _, ?_⟩)
        simp only [Vthen, VinBlock, if_true, if_false, Nat.reduceEqDiff, reduceCtorEq]
        refine WpV.regionE (by simp only [go_sem, reduceCtorEq, Nat.reduceAdd, Nat.reduceMul, Nat.reduceSub, Nat.reduceLT, Nat.reduceLeDiff, Nat.reduceEqDiff, Nat.reduceBEq, Nat.reducePow, hnk]; rfl) (Marks.nil _) ?_
        simp only [Vthen, VinBlock, if_true, if_false, Nat.reduceEqDiff, reduceCtorEq]
        exact ⟨by first | rfl | trivial, hlt', .cons rfl rfl (.cons rfl rfl (.cons rfl (by rw [if_pos hk1]; congr 1; omega) (.cons rfl rfl (.nil _)))), by first | rfl | trivial⟩
      · have hk1' : ¬ (((k + 1 : Nat) : Int) < (w.length : Int)) := by omega
        refine WpV.seq (WpV.regionE (by simp only [go_sem, reduceCtorEq, Nat.reduceAdd, Nat.reduceMul, Nat.reduceSub, Nat.reduceLT, Nat.reduceLeDiff, Nat.reduceEqDiff, Nat.reduceBEq, Nat.reducePow, hnk, hk1']; rfl) (Marks.nil _) ?_)
        simp only [Vthen, VinBlock, if_true, if_false, Nat.reduceEqDiff, reduceCtorEq]
        refine WpV.cond rfl (fun hb => by cases hb) (fun hb => WpV.skip ?_)
        simp only [Vthen, VinBlock, if_true, if_false, Nat.reduceEqDiff, reduceCtorEq]
        refine WpV.regionE (by simp only [go_sem, reduceCtorEq, Nat.reduceAdd, Nat.reduceMul, Nat.reduceSub, Nat.reduceLT, Nat.reduceLeDiff, Nat.reduceEqDiff, Nat.reduceBEq, Nat.reducePow, hnk]; rfl) (Marks.nil _) ?_
        simp only [Vthen, VinBlock, if_true, if_false, Nat.reduceEqDiff, reduceCtorEq]
        exact ⟨by first | rfl | trivial, hlt', .cons rfl rfl (.cons rfl rfl (.cons rfl (by rw [if_neg hk1]; congr 1; omega) (.cons rfl rfl (.nil _)))), by first | rfl | trivial⟩
    · have hge : k = w.length := by have := of_decide_eq_false ‹_›; omega
      subst hge
      simp only [Vthen, VinBlock, if_true, if_false, Nat.reduceEqDiff, reduceCtorEq]
      refine WpV.seq (WpV.regionE (by simp only [go_sem, reduceCtorEq, Nat.reduceAdd, Nat.reduceMul, Nat.reduceSub, Nat.reduceLT, Nat.reduceLeDiff, Nat.reduceEqDiff, Nat.reduceBEq, Nat.reducePow]; rfl) (Marks.nil _) ?_)
      simp only [Vthen, VinBlock, if_true, if_false, Nat.reduceEqDiff, reduceCtorEq]
      refine WpV.ret ⟨Marks.nil _, List.nodup_nil, _, by simp only [Tryz.results13]; simp only [go_sem, reduceCtorEq, Nat.reduceAdd, Nat.reduceMul, Nat.reduceSub, Nat.reduceLT, Nat.reduceLeDiff, Nat.reduceEqDiff, Nat.reduceBEq, Nat.reducePow]; rfl, ?_⟩
      refine ⟨?_, rfl⟩
      rw [List.take_of_length_le (l := c.closest w) (by omega), Cs.need_one]
      unfold Cs.need1 Cs.longF
      congr 1; omega
end Go.Proofs.YtaekibilldjnmaaGreat
namespace Go.Proofs.YtaekibilldjnmaaGreat
open Go.Proofs

theorem sum_set : ∀ (g : List Int) (k : Nat) (x : Int), k < g.length → (g.set k (g.getD k 0 + x)).sum = g.sum + x
  | [], k, x, h => by simp at h
  | y :: g, 0, x, _ => by simp; omega
  | y :: g, k + 1, x, h => by
    have := sum_set g k x (by simpa using h)
    simp only [List.set_cons_succ, List.sum_cons, List.getD_cons_succ]
    rw [this]; omega
/-- What filling does. -/
theorem fill_in {ms : List Int} {hi : Int} : ∀ (k : Nat) (g : List Int) (r : Int) (g' : List Int) (r' : Int), k ≤ g.length → fillF ms hi k g r = some (g', r') →
    g'.sum + r' = g.sum + r ∧ ∀ i, i < g.length → g.getD i 0 ≤ g'.getD i 0 ∧ (k ≤ i → g'.getD i 0 = g.getD i 0) ∧ (i < k → g'.getD i 0 + ms.getD i 0 ≤ hi)
  | 0, g, r, g', r', _, h => by
    cases h
    exact ⟨rfl, fun i _ => ⟨Int.le_refl _, fun _ => rfl, fun h => absurd h (Nat.not_lt_zero _)⟩⟩
  | k + 1, g, r, g', r', hk, h => by
    rw [fillF] at h
    split at h
    · cases h
    · rename_i hx
      have hxle : fillX ms g hi r k ≤ hi - ms.getD k 0 - g.getD k 0 := by unfold fillX; split <;> omega
      generalize fillX ms g hi r k = x at h hx hxle
      obtain ⟨h1, h2⟩ := fill_in k _ _ g' r' (by simp; omega) h
      rw [sum_set g k x (by omega)] at h1
      refine ⟨by omega, fun i hi' => ?_⟩
      obtain ⟨a1, a2, a3⟩ := h2 i (by simpa using hi')
      rw [getD_set (by omega)] at a1 a2
      by_cases e : i = k
      · rw [if_pos e] at a1 a2
        have := a2 (by omega)
        subst e
        exact ⟨by omega, fun h => by omega, fun _ => by omega⟩
      · rw [if_neg e] at a1 a2
        exact ⟨a1, fun h => a2 (by omega), fun h => a3 (by omega)⟩
theorem fill_all {ms : List Int} {hi : Int} : ∀ (k : Nat) (g : List Int) (r : Int), k ≤ g.length → 0 ≤ r → (∀ i, i < k → r ≤ hi - ms.getD i 0 - g.getD i 0) → ∃ g', fillF ms hi k g r = some (g', if k = 0 then r else 0)
  | 0, g, r, _, _, _ => ⟨g, rfl⟩
  | k + 1, g, r, hk, hr, h => by
    have hx : fillX ms g hi r k = r := by unfold fillX; rw [if_neg (by have := h k (by omega); omega)]
    rw [fillF, hx, if_neg (by omega)]
    obtain ⟨g', h'⟩ := fill_all (ms := ms) (hi := hi) k (g.set k (g.getD k 0 + r)) (r - r) (by simp; omega) (by omega) (fun i hi' => by
      have := h i (by omega)
      have e := getD_set (w := g) (k := k) (by omega) (g.getD k 0 + r) i
      rw [if_neg (show ¬ i = k by omega)] at e
      rw [e]; omega)
    refine ⟨g', ?_⟩
    rw [h', show (if k = 0 then r - r else 0) = (0 : Int) by split <;> omega, if_neg (show ¬ k + 1 = 0 by omega)]

/-- Laid gaps: they take all the room, and look alike. -/
structure Laid (c : Cs) (w : List Int) (n : Int) (g : List Int) (s : Nat) : Prop where
  len : g.length = w.length - 1
  le : ∀ i, i < g.length → 0 ≤ g.getD i 0 ∧ g.getD i 0 ≤ 400
  look : ∃ lo : Int, ∀ i, i < g.length → lo ≤ g.getD i 0 + (c.mores w).getD i 0 ∧ g.getD i 0 + (c.mores w).getD i 0 ≤ lo + s
theorem getD_le_sum : ∀ (g : List Int), (∀ i, i < g.length → 0 ≤ g.getD i 0) → 0 ≤ g.sum ∧ ∀ i, i < g.length → g.getD i 0 ≤ g.sum
  | [], _ => ⟨by simp, fun i h => by simp at h⟩
  | x :: g, h => by
    have h0 := h 0 (by simp)
    simp only [List.getD_cons_zero] at h0
    obtain ⟨a, b⟩ := getD_le_sum g (fun i hi => by have := h (i + 1) (by simpa using hi); simpa using this)
    refine ⟨by simp; omega, fun i hi => ?_⟩
    cases i with
    | zero => simp; omega
    | succ i => have := b i (by simpa using hi); simp only [List.getD_cons_succ, List.sum_cons]; omega
theorem between_laid {c : Cs} (hc : c.Fair) {w : List Int} {lo : Nat} {s : Nat} {room : Int} (hlo : lo ≤ 1000) (hr : room ≤ 400) {g : List Int} {n : Int} (h : c.betweenF w lo ((lo : Int) + (s : Int)) room = some (g, 0)) : Laid c w n g s := by
  have hl := Cs.between_len h
  have hol := Cs.openF_len c w lo
  unfold Cs.betweenF at h
  obtain ⟨h1, h2⟩ := fill_in _ _ _ _ _ (by rw [hol]; exact Nat.le_refl _) h
  have hop : ∀ i, i < w.length - 1 → 0 ≤ (c.openF w lo).getD i 0 ∧ (lo : Int) ≤ (c.openF w lo).getD i 0 + (c.mores w).getD i 0 := fun i hi => by
    have a := Cs.closest_le hc w _ (getD_mem (xs := c.closest w) (k := i) (by rw [Cs.closest_len]; exact hi))
    rw [Cs.open_at c w lo hi]
    unfold Cs.open1
    split <;> omega
  have hge : ∀ i, i < g.length → 0 ≤ g.getD i 0 := fun i hi => by
    have := hop i (by omega)
    have := (h2 i (by omega)).1
    omega
  obtain ⟨hs1, hs2⟩ := getD_le_sum g hge
  refine ⟨hl, fun i hi => ⟨hge i hi, ?_⟩, lo, fun i hi => ?_⟩
  · have := hs2 i hi; omega
  · have a := hop i (by omega)
    obtain ⟨b1, -, b3⟩ := h2 i (by omega)
    have := b3 (by omega)
    omega
theorem alike_laid {c : Cs} (hc : c.Fair) {w : List Int} {s : Nat} {room : Int} (hr : room ≤ 400) {n : Int} : ∀ (k : Nat) (g : List Int), k ≤ 1000 → c.alikeN w s room k = some g → Laid c w n g s
  | 0, g, _, h => by cases h
  | k + 1, g, hk, h => by
    rw [Cs.alikeN_succ] at h
    have ih := alike_laid hc (w := w) (s := s) hr (n := n) k
    unfold Cs.alikeStep at h
    split at h
    · exact ih g (by omega) h
    · rename_i g2 r hb
      split at h
      · rename_i hr0
        have hr0' : r = 0 := by simpa using hr0
        subst hr0'
        split at h
        · cases h; exact between_laid hc (by omega) hr hb
        · rename_i b' hst
          split at h
          · cases h; exact between_laid hc (by omega) hr hb
          · cases h; exact ih _ (by omega) hst
      · exact ih g (by omega) h
theorem alike_some {c : Cs} {w : List Int} {s room : Int} : ∀ (k lo : Nat) (g : List Int), lo < k → c.betweenF w lo ((lo : Int) + s) room = some (g, 0) → c.alikeN w s room k ≠ none
  | 0, lo, g, h, _ => absurd h (Nat.not_lt_zero _)
  | k + 1, lo, g, h, hb => by
    rw [Cs.alikeN_succ]
    unfold Cs.alikeStep
    by_cases e : lo = k
    · subst e
      rw [hb]
      simp only [beq_self_eq_true, if_true]
      split
      · simp
      · split <;> simp
    · have ih := alike_some k lo g (by omega) hb
      split
      · exact ih
      · split
        · split
          · simp
          · split <;> simp
        · exact ih
/-- A word that goes is laid. -/
theorem lay_laid {c : Cs} (hc : c.Fair) {w : List Int} (hw : c.Word w) (h2 : 2 ≤ w.length) {n : Int} (hn : 1 ≤ n ∧ n ≤ 400) (hgo : c.needF [w] ≤ n) : ∃ g s, c.layF w n = some (g, s) ∧ ((s : Int) < c.roomF w n + 6) ∧ Laid c w n g s := by
  have hrm := Cs.room_le hc hw hn hgo
  have hroom : (c.closest w).sum ≤ c.roomF w n := by
    rw [Cs.need_one] at hgo
    unfold Cs.roomF
    unfold Cs.need1 Cs.longF at hgo
    unfold Cs.longF
    simp only [List.sum_nil]
    omega
  have hlf : ∀ x, c.layF w n = x → c.layF w n = x := fun _ h => h
  unfold Cs.layF
  rw [if_neg (by omega)]
  generalize c.roomF w n = room at hrm hroom
  have hcl := Cs.closest_len c w
  have hml : (c.mores w).length = w.length - 1 := Cs.moreN_len c w _
  have hopen : c.openF w (0 : Nat) = c.closest w := by
    refine eq_getD (by rw [Cs.openF_len, hcl]) fun i hi => ?_
    rw [Cs.openF_len] at hi
    rw [Cs.open_at c w _ hi, Cs.close_at c w hi]
    have := hc.least
    unfold Cs.open1 Cs.close
    split <;> split at * <;> omega
  have hcge : ∀ i, i < (c.closest w).length → 0 ≤ (c.closest w).getD i 0 := fun i hi => (Cs.closest_le hc w _ (getD_mem hi)).1
  obtain ⟨hs1, hs2⟩ := getD_le_sum _ hcge
  have hbet : ∃ g, c.betweenF w (0 : Nat) (((0 : Nat) : Int) + (room + 5)) room = some (g, 0) := by
    unfold Cs.betweenF
    rw [hopen]
    obtain ⟨g', h'⟩ := fill_all (ms := c.mores w) (hi := ((0 : Nat) : Int) + (room + 5)) (w.length - 1) (c.closest w) (room - (c.closest w).sum) (by omega) (by omega) (fun i hi => by
      have a := hs2 i (by omega)
      have b := Cs.mores_le hc w (w.length - 1) _ (getD_mem (xs := c.mores w) (k := i) (by omega))
      omega)
    rw [if_neg (by omega)] at h'
    exact ⟨g', h'⟩
  obtain ⟨g0, hb0⟩ := hbet
  have hal := alike_some (room + 6).toNat 0 g0 (by omega) hb0
  cases hfs : (List.range (room + 6).toNat).findSome? fun (s : Nat) => (c.alikeN w (s : Int) room (room + 6).toNat).map fun g => (g, s) with
  | none =>
    exfalso
    rw [List.findSome?_eq_none_iff] at hfs
    have := hfs (room + 5).toNat (List.mem_range.2 (by omega))
    rw [show (((room + 5).toNat : Nat) : Int) = room + 5 by omega] at this
    rw [Option.map_eq_none_iff] at this
    exact hal this
  | some gs =>
    obtain ⟨g, s⟩ := gs
    obtain ⟨s', hs', hm⟩ := List.exists_of_findSome?_eq_some hfs
    rw [Option.map_eq_some_iff] at hm
    obtain ⟨g', hg', he⟩ := hm
    cases he
    rw [List.mem_range] at hs'
    exact ⟨_, _, rfl, by omega, alike_laid hc (by omega) _ _ (by omega) hg'⟩
end Go.Proofs.YtaekibilldjnmaaGreat
namespace Go.Proofs.YtaekibilldjnmaaGreat
open Go.Proofs

theorem combs_mem : ∀ (l : List Int) (b t : List Int), t.Sublist l → b ++ t ∈ combs l t.length b
  | l, b, [], _ => by simp [combs_zero]
  | [], b, y :: t, h => by cases h
  | x :: l, b, y :: t, h => by
    rw [List.length_cons, combs, List.mem_append]
    cases h with
    | cons _ h =>
      right
      have := combs_mem l b (y :: t) h
      rwa [List.length_cons] at this
    | cons_cons _ h =>
      left
      have := combs_mem l (b ++ [x]) t h
      simpa using this
theorem sets_iff {n s : Nat} {b : List Int} : b ∈ setsF n s ↔ b.Sublist (numsF 0 n) ∧ b.length = s := by
  unfold setsF
  constructor
  · intro h
    obtain ⟨t, e, ht⟩ := combs_sub _ _ _ _ h
    have hl := combs_len _ _ _ _ h
    simp only [List.nil_append] at e
    subst e
    exact ⟨ht, by simpa using hl⟩
  · rintro ⟨h, rfl⟩
    have := combs_mem (numsF 0 n) [] b h
    simpa using this
theorem fewest_spec (l : List Int) (p : List Int → Bool) (h : ∃ b0 : List Int, b0.Sublist (numsF 0 l.length) ∧ p (withoutF l b0) = true) :
    ∃ b, fewestF l p = some b ∧ b.Sublist (numsF 0 l.length) ∧ p (withoutF l b) = true ∧ ∀ b' : List Int, b'.Sublist (numsF 0 l.length) → b'.length < b.length → p (withoutF l b') = false := by
  obtain ⟨b0, hb0, hp0⟩ := h
  have hl0 : b0.length ≤ l.length := by have := hb0.length_le; rwa [numsF_len] at this
  cases hf : fewestF l p with
  | none =>
    exfalso
    unfold fewestF at hf
    rw [List.findSome?_eq_none_iff] at hf
    have := hf b0.length (List.mem_range.2 (by omega))
    rw [List.find?_eq_none] at this
    exact this b0 (sets_iff.2 ⟨hb0, rfl⟩) hp0
  | some b =>
    refine ⟨b, rfl, ?_⟩
    unfold fewestF at hf
    rw [List.findSome?_eq_some_iff] at hf
    obtain ⟨l1, a, l2, e, hfa, hno⟩ := hf
    have hmem := List.mem_of_find?_eq_some hfa
    have hpb := List.find?_some hfa
    obtain ⟨hs, hbl⟩ := sets_iff.1 hmem
    have ha : a = l1.length := by
      have h1 : (List.range (l.length + 1))[l1.length]? = some a := by rw [e]; simp
      rw [List.getElem?_eq_some_iff] at h1
      obtain ⟨h2, h3⟩ := h1
      rw [List.getElem_range] at h3
      exact h3.symm
    refine ⟨hs, hpb, fun b' hb' hlt => ?_⟩
    have hin : b'.length ∈ l1 := by
      have h1 : (List.range (l.length + 1))[b'.length]? = some b'.length := by
        rw [List.getElem?_eq_some_iff]
        have := hb'.length_le
        rw [numsF_len] at this
        exact ⟨by simp; omega, by simp⟩
      rw [e, List.getElem?_append_left (by omega)] at h1
      exact List.mem_of_getElem? h1
    have := hno _ hin
    rw [List.find?_eq_none] at this
    have := this b' (sets_iff.2 ⟨hb', rfl⟩)
    simpa using this
theorem nums_up (n : Nat) : (numsF 0 n).Pairwise (· < ·) := by
  unfold numsF
  rw [List.pairwise_map]
  exact List.pairwise_lt_range.imp (fun h => by omega)
theorem nums_mem {n : Nat} {x : Int} : x ∈ numsF 0 n ↔ 0 ≤ x ∧ x < n := by
  unfold numsF
  rw [List.mem_map]
  constructor
  · rintro ⟨i, hi, rfl⟩; have := List.mem_range.1 hi; omega
  · intro h; exact ⟨x.toNat, List.mem_range.2 (by omega), by omega⟩
theorem contB_iff {xs : List Int} {v : Int} : contB xs v = true ↔ v ∈ xs := by
  unfold contB
  rw [Bool.not_eq_true', decide_eq_false_iff_not]
  constructor
  · intro h
    rcases Decidable.em (v ∈ xs) with h1 | h1
    · exact h1
    · exfalso
      refine h fun i hi => ?_
      simp only [beq_eq_false_iff_ne]
      intro e
      exact h1 (e ▸ getD_mem hi)
  · intro h hall
    obtain ⟨i, hi, rfl⟩ := List.getElem_of_mem h
    have : (xs[i] == xs.getD i 0) = false := hall i hi
    rw [List.getD_eq_getElem?_getD, List.getElem?_eq_getElem hi] at this
    simp at this
theorem any_cont (xs : List Int) (v : Int) : (xs.any fun x => x == v) = contB xs v := by
  rw [Bool.eq_iff_iff, contB_iff, List.any_eq_true]
  constructor
  · rintro ⟨x, hx, e⟩; have : x = v := by simpa using e
    exact this ▸ hx
  · intro h; exact ⟨v, h, by simp⟩
theorem without_mem {l ps : List Int} {x : Int} (h : x ∈ withoutF l ps) : ∃ i, i < l.length ∧ (i : Int) ∉ ps ∧ x = l.getD i 0 := by
  have h' : x ∈ withoutN l ps l.length := h
  unfold withoutN at h'
  obtain ⟨i, hi, rfl⟩ := List.mem_map.1 h'
  rw [List.mem_filter, List.mem_range] at hi
  refine ⟨i, hi.1, fun hm => ?_, rfl⟩
  rw [contB_iff.2 hm] at hi
  exact absurd hi.2 (by decide)

/-! ### The least and the greatest -/
def fmin (a b : Int) : Int := if b < a then b else a
def fmax (a b : Int) : Int := if b > a then b else a
def loF : List Int → Int | [] => 0 | x :: ys => ys.foldl fmin x
def hiF : List Int → Int | [] => 0 | x :: ys => ys.foldl fmax x
theorem spread_eq (xs : List Int) : spreadF xs = hiF xs - loF xs := by
  cases xs with
  | nil => rfl
  | cons x ys =>
    unfold spreadF maxL minL
    rw [if_neg (by simp), List.take_length]
    rfl
theorem loF_snoc (xs : List Int) (n : Int) : loF (xs ++ [n]) = if xs = [] then n else fmin (loF xs) n := by
  cases xs with
  | nil => rfl
  | cons x ys => simp [loF, List.foldl_append]
theorem hiF_snoc (xs : List Int) (n : Int) : hiF (xs ++ [n]) = if xs = [] then n else fmax (hiF xs) n := by
  cases xs with
  | nil => rfl
  | cons x ys => simp [hiF, List.foldl_append]
theorem spread_le {xs : List Int} {lo : Int} {s : Int} (hs : 0 ≤ s) (h : ∀ x ∈ xs, lo ≤ x ∧ x ≤ lo + s) : spreadF xs ≤ s := by
  unfold spreadF
  split
  · exact hs
  · have h1 := maxL_in h (by omega) xs.length
    have h2 := minL_in h (by omega) xs.length
    omega

/-! ### A word, of whose gaps some were changed -/
structure Chg (c : Cs) (w gaps bad ch : List Int) : Prop where
  len : bad.length = gaps.length
  le : ∀ i, i < bad.length → 0 ≤ bad.getD i 0 ∧ bad.getD i 0 ≤ 400
  ins : ∀ x ∈ ch, 0 ≤ x ∧ x < bad.length
  same : ∀ i, i < bad.length → (i : Int) ∉ ch → bad.getD i 0 = gaps.getD i 0
theorem nodup_len : ∀ (F ch : List Int), F.Nodup → (∀ x ∈ F, x ∈ ch) → F.length ≤ ch.length
  | [], ch, _, _ => by simp
  | x :: F, ch, hn, hs => by
    rw [List.nodup_cons] at hn
    have hx := hs x (by simp)
    have := nodup_len F (ch.erase x) hn.2 (fun y hy => by
      have hne : y ≠ x := fun e => hn.1 (e ▸ hy)
      exact (List.mem_erase_of_ne hne).2 (hs y (by simp [hy])))
    rw [List.length_erase_of_mem hx] at this
    have hpos : 0 < ch.length := List.length_pos_of_mem hx
    simp only [List.length_cons]; omega
theorem filter_len (l ch : List Int) (hl : l.Nodup) : (l.filter fun x => contB ch x).length ≤ ch.length :=
  nodup_len _ _ (hl.filter _) fun x hx => contB_iff.1 (List.mem_filter.1 hx).2
theorem up_nodup {l : List Int} (h : l.Pairwise (· < ·)) : l.Nodup := h.imp (fun h => by omega)
/-- What Wrong answers of it. -/
theorem chg_wrong {c : Cs} {w gaps bad ch : List Int} {n : Int} {s : Nat} (hL : Laid c w n gaps s) (hc : Chg c w gaps bad ch) (hml : (c.mores w).length = bad.length) :
    ∃ b, fewestF (c.looksF w bad) (wrongP s) = some b ∧ b.length ≤ ch.length ∧ b.Sublist (numsF 0 bad.length) ∧ spreadF (withoutF (c.looksF w bad) b) ≤ s ∧ ∀ j, j < b.length → ¬ spreadF (withoutF (c.looksF w bad) (b.eraseIdx j)) ≤ s := by
  obtain ⟨lo, hlo⟩ := hL.look
  have hll : (c.looksF w bad).length = bad.length := by unfold Cs.looksF; rw [List.length_zipWith, hml]; omega
  have hat : ∀ i, i < bad.length → (c.looksF w bad).getD i 0 = (c.mores w).getD i 0 + bad.getD i 0 := fun i hi => by
    have h1 : i < (c.looksF w bad).length := by omega
    rw [List.getD_eq_getElem?_getD, List.getD_eq_getElem?_getD, List.getD_eq_getElem?_getD, List.getElem?_eq_getElem h1, List.getElem?_eq_getElem (show i < (c.mores w).length by omega), List.getElem?_eq_getElem hi]
    simp [Cs.looksF]
  have hsub : ((numsF 0 bad.length).filter fun x => contB ch x).Sublist (numsF 0 bad.length) := List.filter_sublist
  have hp0 : wrongP s (withoutF (c.looksF w bad) ((numsF 0 bad.length).filter fun x => contB ch x)) = true := by
    unfold wrongP
    refine decide_eq_true (spread_le (lo := lo) (by omega) fun x hx => ?_)
    obtain ⟨i, hi, hni, rfl⟩ := without_mem hx
    rw [hll] at hi
    have hnc : (i : Int) ∉ ch := fun h => hni (List.mem_filter.2 ⟨nums_mem.2 (by omega), contB_iff.2 h⟩)
    rw [hat i hi, hc.same i hi hnc]
    have := hlo i (by rw [← hc.len]; exact hi)
    omega
  obtain ⟨b, h1, h2, h3, h4⟩ := fewest_spec (c.looksF w bad) (wrongP s) ⟨_, by rw [hll]; exact hsub, hp0⟩
  rw [hll] at h2 h4
  refine ⟨b, h1, ?_, h2, of_decide_eq_true h3, fun j hj hle => ?_⟩
  · rcases Nat.lt_or_ge ch.length b.length with hlt | hge
    · exfalso
      have hfl := filter_len (numsF 0 bad.length) ch (up_nodup (nums_up _))
      have := h4 _ hsub (by omega)
      rw [hp0] at this; cases this
    · exact hge
  · have := h4 (b.eraseIdx j) ((List.eraseIdx_sublist b j).trans h2) (by rw [List.length_eraseIdx, if_pos hj]; omega)
    unfold wrongP at this
    rw [decide_eq_true hle] at this; cases this
theorem mem_erase {b : List Int} (h : b.Pairwise (· < ·)) {j : Nat} (hj : j < b.length) (x : Int) : contB (b.eraseIdx j) x = (contB b x && !(b.getD j 0 == x)) := by
  rw [Bool.eq_iff_iff, contB_iff, Bool.and_eq_true, contB_iff, List.mem_eraseIdx_iff_getElem]
  have hn := up_nodup h
  rw [List.getD_eq_getElem?_getD, List.getElem?_eq_getElem hj, Option.getD_some]
  constructor
  · rintro ⟨i, hi, hne, rfl⟩
    refine ⟨List.getElem_mem _, ?_⟩
    have : b[j] ≠ b[i] := by
      rcases Nat.lt_or_gt_of_ne hne with h1 | h1
      · have := List.pairwise_iff_getElem.1 h i j (by omega) hj h1; omega
      · have := List.pairwise_iff_getElem.1 h j i hj (by omega) h1; omega
    simpa using this
  · rintro ⟨hm, hne⟩
    obtain ⟨i, hi, rfl⟩ := List.getElem_of_mem hm
    refine ⟨i, hi, fun e => ?_, rfl⟩
    subst e
    simp at hne
end Go.Proofs.YtaekibilldjnmaaGreat
