/- What blotted words can have been. What is made is valid; a copy of one's own. The statement's own 'look', 'least', 'needs'. What laid gaps are; the fewest that must be wrong. The fewest places: no fewer serve; the least and the greatest of a list. Where the ways of an if meet; what one word needs. Laid gaps are the best ones: no others that fill the plate differ by less, none that differ as much are smaller. Which list is less; how wide apart gaps look. What 'pick' finds: the shortest plates together, of several such lists the smallest. Words of bytes, and lists of them; a copy of lists. -/
import Derived.Test.YtaekibilldjnmaaGreatMaAK
set_option linter.unusedVariables false
set_option linter.unusedSimpArgs false
set_option linter.unusedSectionVars false
namespace Go.Proofs.YtaekibilldjnmaaGreat
open Go.Proofs

theorem getD_set {w : List Int} {k : Nat} (hk : k < w.length) (x : Int) (j : Nat) : (w.set k x).getD j 0 = if j = k then x else w.getD j 0 := by
  rw [List.getD_eq_getElem?_getD, List.getD_eq_getElem?_getD, List.getElem?_set]
  by_cases e : k = j
  · subst e; simp [hk]
  · rw [if_neg e, if_neg (Ne.symm e)]
/-- f has letters where w has blots. -/
structure Fills (c : Cs) (f w : List Int) : Prop where
  len : f.length = w.length
  letters : c.Letters f
  agr : ∀ k, k < w.length → w.getD k 0 = -1 ∨ f.getD k 0 = w.getD k 0
theorem agrees_iff (c : Cs) (gs : List Int) (lo hi : Int) : ∀ (n : Nat) (w : List Int), c.Blotted w → w.count (-1) = n → (agreesF c gs lo hi n w = true ↔ ∃ f, Fills c f w ∧ inB lo hi (2 * c.rim + c.longF f gs) = true)
  | 0, w, hw, h0 => by
    have hl := hw.letters h0
    constructor
    · intro h; exact ⟨w, ⟨rfl, hl, fun k _ => .inr rfl⟩, h⟩
    · rintro ⟨f, hf, h⟩
      have : f = w := eq_getD hf.len fun j hj => by
        have hj' : j < w.length := by rw [← hf.len]; exact hj
        refine (hf.agr j hj').resolve_left fun e => ?_
        have := hl _ (getD_mem hj')
        omega
      rw [this] at h; exact h
  | n + 1, w, hw, h0 => by
    obtain ⟨k, hk, hb, hwk⟩ := blotAt_some (w := w) (by omega)
    have ih := fun (l : Nat) (hl : l < c.ws.length) => agrees_iff c gs lo hi n (w.set k (l : Int)) (hw.set (by omega)) (by have := count_set_blot hk (l := (l : Int)) hwk (by omega); omega)
    rw [agreesF, List.any_eq_true, hb, Int.toNat_natCast]
    constructor
    · rintro ⟨l, hl, h⟩
      obtain ⟨f, hf, h2⟩ := (ih l (List.mem_range.1 hl)).1 h
      refine ⟨f, ⟨by rw [hf.len]; simp, hf.letters, fun j hj => ?_⟩, h2⟩
      have := hf.agr j (by simpa using hj)
      rw [getD_set hk] at this
      by_cases e : j = k
      · left; subst e; rw [List.getD_eq_getElem?_getD, List.getElem?_eq_getElem hk]; exact hwk
      · rw [if_neg e] at this; exact this
    · rintro ⟨f, hf, h⟩
      have hfk := hf.letters _ (getD_mem (xs := f) (k := k) (by rw [hf.len]; exact hk))
      refine ⟨(f.getD k 0).toNat, List.mem_range.2 (by omega), (ih _ (by omega)).2 ⟨f, ⟨by rw [hf.len]; simp, hf.letters, fun j hj => ?_⟩, h⟩⟩
      rw [getD_set hk]
      by_cases e : j = k
      · right; rw [if_pos e, e]; omega
      · rw [if_neg e]; exact hf.agr j (by simpa using hj)

theorem lettersN_mem {c : Cs} {gs : List Int} {lo hi : Int} {n : Nat} {w : List Int} {p m : Nat} {x : Int} : x ∈ lettersN c gs lo hi n w p m ↔ ∃ l : Nat, l < m ∧ agreesF c gs lo hi n (w.set p (l : Int)) = true ∧ x = (l : Int) := by
  unfold lettersN
  rw [List.mem_map]
  constructor
  · rintro ⟨l, h, rfl⟩
    rw [List.mem_filter, List.mem_range] at h
    exact ⟨l, h.1, h.2, rfl⟩
  · rintro ⟨l, h1, h2, rfl⟩
    exact ⟨l, by rw [List.mem_filter, List.mem_range]; exact ⟨h1, h2⟩, rfl⟩
theorem lettersN_up (c : Cs) (gs : List Int) (lo hi : Int) (n : Nat) (w : List Int) (p m : Nat) : (lettersN c gs lo hi n w p m).Pairwise (· < ·) := by
  unfold lettersN
  rw [List.pairwise_map]
  refine List.Pairwise.filter _ ?_
  exact List.pairwise_lt_range.imp (fun h => by omega)
theorem up_at {L : List Int} (h : L.Pairwise (· < ·)) {i : Nat} (hi : i + 1 < L.length) : L.getD i 0 < L.getD (i + 1) 0 := by
  rw [List.getD_eq_getElem?_getD, List.getD_eq_getElem?_getD, List.getElem?_eq_getElem hi, List.getElem?_eq_getElem (by omega)]
  exact List.pairwise_iff_getElem.1 h i (i + 1) (by omega) hi (by omega)

/-! ### A word, of which two letters are blotted -/
section
variable {c : Cs} {w : List Int} (hw : c.Word w) {a b : Nat} (ha : a < w.length) (hb : b < w.length)
include hw ha
theorem one_blotted : c.Blotted (w.set a (-1)) := fun x hx => by
  rcases List.mem_or_eq_of_mem_set hx with h | rfl
  · exact .inr (hw.2.2 x h)
  · exact .inl rfl
theorem word_count : w.count (-1) = 0 := List.count_eq_zero.2 fun h => by have := hw.2.2 _ h; omega
theorem one_count : (w.set a (-1)).count (-1) = 1 := by
  have h := count_set_blot (w := w.set a (-1)) (k := a) (by simpa using ha) (l := w[a]) (by simp) (hw.2.2 _ (List.getElem_mem _)).1
  rw [List.set_set, List.set_getElem_self, word_count hw ha] at h
  omega
include hb
theorem two_blotted : c.Blotted ((w.set a (-1)).set b (-1)) := fun x hx => by
  rcases List.mem_or_eq_of_mem_set hx with h | rfl
  · exact one_blotted hw ha x h
  · exact .inl rfl
theorem two_count (h : a ≠ b) : ((w.set a (-1)).set b (-1)).count (-1) = 2 := by
  have h1 : ((w.set a (-1)).set b (-1)).length = w.length := by simp
  have hbl : b < ((w.set a (-1)).set b (-1)).length := by omega
  have h2 := count_set_blot (w := (w.set a (-1)).set b (-1)) (k := b) hbl (l := w[b]) (by simp) (hw.2.2 _ (List.getElem_mem _)).1
  rw [List.set_set] at h2
  have h3 : (w.set a (-1)).set b w[b] = w.set a (-1) := by
    refine eq_getD (by simp) fun j hj => ?_
    rw [getD_set (by simpa using hb)]
    by_cases e : j = b
    · subst e; rw [if_pos rfl, getD_set ha, if_neg (Ne.symm h), List.getD_eq_getElem?_getD, List.getElem?_eq_getElem hb]; rfl
    · rw [if_neg e]
  rw [h3, one_count hw ha] at h2
  omega
end
theorem blots_fin : ∀ n : Fin 8, ∀ a b : Fin 8, b.val < n.val → ((List.range n.val).filter fun i => i == b.val) = [b.val] ∧ (a.val < b.val → ((List.range n.val).filter fun i => i == a.val || i == b.val) = [a.val, b.val]) := by decide
theorem two_getD {c : Cs} {w : List Int} (hw : c.Word w) {a b : Nat} (ha : a < w.length) (hb : b < w.length) {j : Nat} (hj : j < w.length) : (((w.set a (-1)).set b (-1)).getD j 0 == -1) = (j == a || j == b) := by
  rw [getD_set (by simpa using hb), getD_set ha]
  have := hw.2.2 _ (getD_mem hj)
  by_cases e1 : j = b
  · subst e1; simp
  · by_cases e2 : j = a
    · subst e2; simp
    · rw [if_neg e1, if_neg e2]
      have h1 : (j == a) = false := by simpa using e2
      have h2 : (j == b) = false := by simpa using e1
      have h3 : (w.getD j 0 == -1) = false := by rw [beq_eq_false_iff_ne]; omega
      rw [h1, h2, h3]; rfl
theorem one_blots {c : Cs} {w : List Int} (hw : c.Word w) {a : Nat} (ha : a < w.length) : blotsF (w.set a (-1)) = [(a : Int)] := by
  have h := (blots_fin ⟨w.length, by have := hw.2.1; omega⟩ ⟨a, by have := hw.2.1; omega⟩ ⟨a, by have := hw.2.1; omega⟩ ha).1
  unfold blotsF blotN
  rw [List.length_set, List.filter_congr (q := fun i => i == a) fun i hi => ?_]
  · simp only at h; rw [h]; rfl
  · have := two_getD hw ha ha (List.mem_range.1 hi)
    rw [List.set_set, Bool.or_self] at this
    exact this
theorem two_blots {c : Cs} {w : List Int} (hw : c.Word w) {a b : Nat} (ha : a < w.length) (hb : b < w.length) (h : a ≠ b) : blotsF ((w.set a (-1)).set b (-1)) = [((min a b : Nat) : Int), ((max a b : Nat) : Int)] := by
  unfold blotsF blotN
  rw [List.length_set, List.length_set, List.filter_congr (q := fun i => i == min a b || i == max a b) fun i hi => ?_]
  · have hl := hw.2.1
    have := (blots_fin ⟨w.length, by omega⟩ ⟨min a b, by omega⟩ ⟨max a b, by omega⟩ (by simp only; omega)).2 (by simp only; omega)
    simp only at this
    rw [this]; rfl
  · rw [two_getD hw ha hb (List.mem_range.1 hi)]
    rcases Nat.lt_or_gt_of_ne h with h1 | h1
    · rw [Nat.min_eq_left (by omega), Nat.max_eq_right (by omega)]
    · rw [Nat.min_eq_right (by omega), Nat.max_eq_left (by omega), Bool.or_comm]
end Go.Proofs.YtaekibilldjnmaaGreat
namespace Go.Proofs.YtaekibilldjnmaaGreat
open Go.Proofs

theorem madeP_mem {x : TyA} : ∀ (k : Nat) (p : Int × Int × Int), p ∈ madeP x k → ∃ pr ∈ x.prs, p = pairOf pr
  | 0, p, h => by simp [madeP] at h
  | k + 1, p, h => by
    by_cases hk : k < x.prs.length
    · rw [madeP_succ hk] at h
      unfold addP at h
      split at h
      · exact madeP_mem k p h
      · rcases List.mem_append.1 h with h | h
        · exact madeP_mem k p h
        · exact ⟨_, List.getElem_mem hk, by simpa using h⟩
    · have : madeP x (k + 1) = madeP x k := by unfold madeP; rw [List.take_of_length_le (by omega), List.take_of_length_le (by omega)]
      rw [this] at h; exact madeP_mem k p h
theorem madeP_nodup (x : TyA) : ∀ k, ((madeP x k).map fun p => (p.1, p.2.1)).Nodup
  | 0 => by simp [madeP]
  | k + 1 => by
    by_cases hk : k < x.prs.length
    · rw [madeP_succ hk]
      unfold addP
      split
      · exact madeP_nodup x k
      · rename_i h
        rw [List.map_append, List.nodup_append]
        refine ⟨madeP_nodup x k, by simp, fun a ha b hb e => h ?_⟩
        obtain ⟨p, hp, rfl⟩ := List.mem_map.1 ha
        simp only [List.map_cons, List.map_nil, List.mem_singleton] at hb
        subst hb
        simp only [Prod.mk.injEq] at e
        unfold twiceB
        rw [List.any_eq_true]
        exact ⟨p, hp, by simp [e.1, e.2]⟩
    · have : madeP x (k + 1) = madeP x k := by unfold madeP; rw [List.take_of_length_le (by omega), List.take_of_length_le (by omega)]
      rw [this]; exact madeP_nodup x k
theorem made_valid {x : TyA} (hx : x.Ok) : x.made.Valid := by
  have hwl : (madeW x).length = 6 := by simp [madeW, hx.wd]
  refine ⟨Cs.base_iff.2 ⟨?_, ?_, ?_, ?_, ?_, ?_⟩, madeP_len x 10, ?_, madeP_nodup x 10⟩
  · show 1 ≤ (madeW x).length; omega
  · show (madeW x).length ≤ 8; omega
  · intro n hn
    obtain ⟨m, -, rfl⟩ := List.mem_map.1 (show n ∈ madeW x from hn)
    omega
  · show 0 ≤ x.f0 % 12 ∧ x.f0 % 12 ≤ 20; omega
  · show 0 ≤ x.f1 % 6 ∧ x.f1 % 6 ≤ 10; omega
  · show 0 ≤ x.f2 % 15 ∧ x.f2 % 15 ≤ 30; omega
  · rw [List.all_eq_true]
    intro p hp
    obtain ⟨pr, hpr, rfl⟩ := madeP_mem 10 p hp
    obtain ⟨h1, h2⟩ := hx.pb pr hpr
    unfold Byte at h1 h2
    have e6 : x.made.ws.length = 6 := hwl
    unfold Cs.pairOk Cs.letters
    rw [Bool.and_eq_true, insB_iff, insB_iff, e6]
    unfold pairOf
    refine ⟨?_, ?_⟩
    · intro y hy
      simp only [List.mem_cons, List.not_mem_nil, or_false] at hy
      rcases hy with rfl | rfl <;> omega
    · intro y hy
      simp only [List.mem_cons, List.not_mem_nil, or_false] at hy
      subst hy; omega
theorem own_valid {c : Cs} (h : c.Valid) : c.own.Valid := ⟨h.base, h.few, h.pairs, h.nodup⟩
theorem made_len {x : TyA} (hx : x.Ok) : x.made.ws.length = 6 := by show (madeW x).length = 6; simp [madeW, hx.wd]
theorem wordF_word {l : List Int} (hb : ∀ x ∈ l, 0 ≤ x ∧ x ≤ 255) {c : Cs} (hc : c.ws.length = 6) : c.Word (wordF l) := by
  unfold wordF
  by_cases h0 : l.length = 0
  · rw [if_pos h0]; exact ⟨by simp, by simp, fun x hx => by simp only [List.mem_singleton] at hx; subst hx; omega⟩
  · rw [if_neg h0]
    have hl := wordN_len l (k := min l.length 7) (Nat.min_le_left _ _)
    refine ⟨by rw [hl]; omega, by rw [hl]; omega, fun x hx => ?_⟩
    unfold wordN at hx
    obtain ⟨y, hy, rfl⟩ := List.mem_map.1 hx
    have := hb y (List.mem_of_mem_take hy)
    unfold letterOf
    rw [Int.tmod_eq_emod_of_nonneg this.1]; omega

/-- A copy of a list, as an object of one's own. -/
theorem ints_own (H : Hp) (nl clip : Bool) (xs : List Int) (hl : xs.length < 1000000) (h0 : 0 < xs.length) : CallV Tryz.prog 12 [vints nl clip xs] H (fun r H' => ∃ id, H id = none ∧ r = .rs id 0 1 0 xs.length false ∧ H' = H.set id (some (.cells 3 0 (xs.map vint)))) := by
  refine CallV.body Tryz.func12 rfl Tryz.ntmps12 (by rfl) ?_
  refine WpV.seq (WpV.regionE (by simp only [go_sem, reduceCtorEq, Nat.reduceAdd, Nat.reduceMul, Nat.reduceSub, Nat.reduceLT, Nat.reduceLeDiff, Nat.reduceEqDiff, Nat.reduceBEq, Nat.reducePow]; rfl) (Marks.nil _) ?_)
  simp only [Vthen, VinBlock, if_true, if_false, Nat.reduceEqDiff, reduceCtorEq]
  refine WpV.seq (WpV.region ?_)
  refine WpOps.take 2 (by simp only [go_sem, reduceCtorEq, Nat.reduceAdd, Nat.reduceMul, Nat.reduceSub, Nat.reduceLT, Nat.reduceLeDiff, Nat.reduceEqDiff, Nat.reduceBEq, Nat.reducePow]; rfl) ?_
  refine WpOps.step (by rfl) (by rfl) ?_
  refine OpW.append (nl := false) (len := 0) (cells := []) (m := xs.length) (ys := xs.map vint) rfl rfl rfl rfl (Tryz.el29 (by omega)) Tryz.underlying29 (by simp) (by simp) (all_one_ints _) (by omega) (fun id hid => ?_)
  refine WpOps.take 1 (by simp only [go_sem, reduceCtorEq, Nat.reduceAdd, Nat.reduceMul, Nat.reduceSub, Nat.reduceLT, Nat.reduceLeDiff, Nat.reduceEqDiff, Nat.reduceBEq, Nat.reducePow]; rfl) (WpOps.nil ⟨Marks.nil _, ?_⟩)
  simp only [Vthen, VinBlock, if_true, if_false, Nat.reduceEqDiff, reduceCtorEq]
  refine WpV.ret ⟨Marks.nil _, List.nodup_nil, _, by simp only [Tryz.results12]; simp only [go_sem, reduceCtorEq, Nat.reduceAdd, Nat.reduceMul, Nat.reduceSub, Nat.reduceLT, Nat.reduceLeDiff, Nat.reduceEqDiff, Nat.reduceBEq, Nat.reducePow]; rfl, ?_⟩
  exact ⟨id, hid, rfl, by simp [killA]⟩

/-! ### What was measured -/
def gapsN (v : Int) (m : Nat) : List Int := (List.range m).map fun (j : Nat) => v / ((j : Int) + 1) % 20
theorem gapsN_len (v : Int) (m : Nat) : (gapsN v m).length = m := by simp [gapsN]
theorem gapsN_succ (v : Int) (m : Nat) : gapsN v (m + 1) = gapsN v m ++ [v / ((m : Int) + 1) % 20] := by
  unfold gapsN; rw [List.range_succ, List.map_append]; rfl
theorem gapsN_le (v : Int) (m : Nat) : ∀ x ∈ gapsN v m, 0 ≤ x ∧ x ≤ 19 := fun x hx => by
  obtain ⟨j, -, rfl⟩ := List.mem_map.1 hx; omega
def lngN (c : Cs) (w : List Int) (v : Int) (k : Nat) : Int := 2 * c.rim + ((w.take k).map c.widthOf).sum + (gapsN v (k - 1)).sum
theorem lngN_all (c : Cs) (w : List Int) (v : Int) : lngN c w v w.length = 2 * c.rim + c.longF w (gapsN v (w.length - 1)) := by
  unfold lngN Cs.longF; rw [List.take_length]; omega
theorem lngN_le {c : Cs} (hc : c.Fair) {w : List Int} (hw : c.Word w) (v : Int) (k : Nat) (hk : k ≤ w.length) : 0 ≤ lngN c w v k ∧ lngN c w v k ≤ 1000 := by
  have h1 := sum_bound (xs := gapsN v (k - 1)) (a := 0) (b := 19) (gapsN_le v _)
  have h2 := sum_bound (xs := (w.take k).map c.widthOf) (a := 0) (b := 30) (fun y hy => by
    obtain ⟨x, hx, rfl⟩ := List.mem_map.1 hy; exact Cs.width_le hc.ws (hw.2.2 x (List.mem_of_mem_take hx)))
  have h3 := hc.rim
  rw [gapsN_len] at h1
  rw [List.length_map, List.length_take] at h2
  have := hw.2.1
  unfold lngN
  omega
theorem lngN_succ (c : Cs) (w : List Int) (v : Int) {k : Nat} (hk : k < w.length) : lngN c w v (k + 1) = if k = 0 then lngN c w v k + c.widthOf (w.getD k 0) else lngN c w v k + c.widthOf (w.getD k 0) + v / (k : Int) % 20 := by
  have e : ((w.take (k + 1)).map c.widthOf).sum = ((w.take k).map c.widthOf).sum + c.widthOf (w.getD k 0) := by
    rw [List.take_add_one, List.getElem?_eq_getElem hk, List.map_append, List.sum_append, List.getD_eq_getElem?_getD, List.getElem?_eq_getElem hk]; simp
  unfold lngN
  rw [e]
  by_cases h : k = 0
  · rw [if_pos h]; subst h; simp; omega
  · rw [if_neg h, show k + 1 - 1 = (k - 1) + 1 by omega, gapsN_succ, List.sum_append, show ((k - 1 : Nat) : Int) + 1 = (k : Int) by omega]
    simp; omega
end Go.Proofs.YtaekibilldjnmaaGreat
namespace Go.Proofs.YtaekibilldjnmaaGreat
open Go.Proofs

theorem pairs_idx2 : ∀ (ps : List (Int × Int × Int)) (k : Nat) (h : k < ps.length), (ps.flatMap pairC)[k * 3 + 2]? = some (vint ps[k].2.2)
  | [], k, h => by simp at h
  | p :: ps, 0, _ => by simp [pairC]
  | p :: ps, k + 1, h => by
    have e : (k + 1) * 3 = k * 3 + 3 := by omega
    rw [e]
    show (vint p.1 :: vint p.2.1 :: vint p.2.2 :: ps.flatMap pairC)[k * 3 + 3 + 2]? = _
    simp only [List.getElem?_cons_succ, List.getElem_cons_succ]
    exact pairs_idx2 ps k (by simpa using h)
theorem int_at' {L : List Int} {k : Nat} (h : k < L.length) : (L.map vint)[k]? = some (vint (L.getD k 0)) := by
  rw [ints_get L h, List.getD_eq_getElem?_getD, List.getElem?_eq_getElem h]; rfl

set_option maxHeartbeats 4000000 in
theorem look_any (H : Hp) (c : Cs) (hc : c.Valid) (nl clip : Bool) (w : List Int) (hw : c.Word w) (i : Nat) (hi : i + 1 < w.length) (gap : Int) (hg : -100000 ≤ gap ∧ gap ≤ 100000) :
    CallV Tryz.prog 20 [.agg c.cells, vints nl clip w, vint i, vint gap] H (fun r H' => r = vint (gap + (c.mores w).getD i 0) ∧ H' = H) := by
  have hm : (c.mores w).getD i 0 = c.moreOf (w.getD i 0) (w.getD (i + 1) 0) := by
    have h1 : i < (c.mores w).length := by rw [Cs.moreN_len]; omega
    rw [List.getD_eq_getElem?_getD, List.getElem?_eq_getElem h1]
    simp [Cs.mores, Cs.moreN]
  rw [hm]
  have hwl := hw.2.1
  have hfew := hc.few
  have hA := int_at' (L := w) (k := i) (by omega)
  have hB := int_at' (L := w) (k := i + 1) hi
  generalize w.getD i 0 = x at hA ⊢
  generalize w.getD (i + 1) 0 = y at hB ⊢
  have hil : (i : Int) < (w.length : Int) := by omega
  have hil1 : ((i + 1 : Nat) : Int) < (w.length : Int) := by omega
  have hw1 : IntKind.i64.wrap ((i : Int) + 1) = ((i + 1 : Nat) : Int) := by rw [wrap64 (by omega)]; rfl
  refine CallV.body Tryz.func20 rfl Tryz.ntmps20 (by rfl) ?_
  refine WpV.seq (WpV.regionE (by simp only [go_sem, reduceCtorEq, Nat.reduceAdd, Nat.reduceMul, Nat.reduceSub, Nat.reduceLT, Nat.reduceLeDiff, Nat.reduceEqDiff, Nat.reduceBEq, Nat.reducePow]; rfl) (Marks.nil _) ?_)
  simp only [Vthen, VinBlock, if_true, if_false, Nat.reduceEqDiff, reduceCtorEq]
  refine WpV.seq ?_
  refine WpV.seq (WpV.regionE (by simp only [go_sem, reduceCtorEq, Nat.reduceAdd, Nat.reduceMul, Nat.reduceSub, Nat.reduceLT, Nat.reduceLeDiff, Nat.reduceEqDiff, Nat.reduceBEq, Nat.reducePow]; rfl) (Marks.nil _) ?_)
  simp only [Vthen, VinBlock, if_true, if_false, Nat.reduceEqDiff, reduceCtorEq]
  refine WpV.block (WpV.loopP c.ps.length (fun k => ∀ j, (hj : j < c.ps.length) → j < k → (c.ps[j].1 == x && c.ps[j].2.1 == y) = false) (fun k => [(1, vints nl clip w), (2, vint i), (3, vint gap), (4, .cp c.cells 0), (9, vint k)]) (fun _ => H) (fun j _ hj => absurd hj (Nat.not_lt_zero _)) ?_ rfl ?_)
  · exact .cons rfl rfl (.cons rfl rfl (.cons rfl rfl (.cons rfl rfl (.cons rfl rfl (.nil _)))))
  · intro k hk hno
    refine WpV.seq ?_
    refine WpV.seq (WpV.regionE (by simp only [go_sem, reduceCtorEq, Nat.reduceAdd, Nat.reduceMul, Nat.reduceSub, Nat.reduceLT, Nat.reduceLeDiff, Nat.reduceEqDiff, Nat.reduceBEq, Nat.reducePow]; rfl) (Marks.nil _) ?_)
    simp only [Vthen, VinBlock, if_true, if_false, Nat.reduceEqDiff, reduceCtorEq]
    refine WpV.cond rfl (fun hb => WpV.skip ?_) (fun hb => WpV.exit ?_)
    · have hlt : (k : Int) < (c.ps.length : Int) := of_decide_eq_true ‹_›
      have hlt' : k < c.ps.length := by omega
      obtain ⟨hq0, hq1⟩ := pairs_idx c.ps k hlt'
      have hq2 := pairs_idx2 c.ps k hlt'
      have hpm := hc.pair (List.getElem_mem hlt')
      have hnk : IntKind.i64.wrap ((k : Int) + 1) = ((k + 1 : Nat) : Int) := by rw [wrap64 (by omega)]; rfl
      have hgo : (c.ps[k].1 == x && c.ps[k].2.1 == y) = true → c.moreOf x y = c.ps[k].2.2 := by
        intro h
        have hf : c.ps.find? (fun p => p.1 == x && p.2.1 == y) = some c.ps[k] := by
          rw [List.find?_eq_some_iff_append]
          refine ⟨h, c.ps.take k, c.ps.drop (k + 1), ?_, fun a ha => ?_⟩
          · rw [← List.drop_eq_getElem_cons hlt', List.take_append_drop]
          obtain ⟨j, hj, rfl⟩ := List.getElem_of_mem ha
          rw [List.length_take] at hj
          rw [List.getElem_take]
          rw [hno j (by omega) (by omega)]; rfl
        unfold Cs.moreOf
        rw [hf]
      have stay : (c.ps[k].1 == x && c.ps[k].2.1 == y) = false → ∀ j, (hj : j < c.ps.length) → j < k + 1 → (c.ps[j].1 == x && c.ps[j].2.1 == y) = false := by
        intro h j hj hjk
        by_cases e : j = k
        · subst e; exact h
        · exact hno j hj (by omega)
      generalize c.ps[k] = q at hq0 hq1 hq2 hpm hgo stay
      simp only [Vthen, VinBlock, if_true, if_false, Nat.reduceEqDiff, reduceCtorEq]
      refine WpV.seq (WpV.block ?_)
      cases hqa : (q.1 == x)
      · rw [hqa, Bool.false_and] at stay
        refine WpV.seq (WpV.regionD Tryz.mixed (by kernel_rfl) (by kernel_rfl) ?_)
        refine LexD.take 8 (by rfl) (by simp only [go_sem, reduceCtorEq, Nat.reduceAdd, Nat.reduceMul, Nat.reduceSub, Nat.reduceLT, Nat.reduceLeDiff, Nat.reduceEqDiff, Nat.reduceBEq, Nat.reducePow, hlt, hq0, hA, hil, hqa]; rfl) ?_
        refine LexD.take 8 (by rfl) (by simp only [go_sem, reduceCtorEq, Nat.reduceAdd, Nat.reduceMul, Nat.reduceSub, Nat.reduceLT, Nat.reduceLeDiff, Nat.reduceEqDiff, Nat.reduceBEq, Nat.reducePow, hlt, hq0, hA, hil, hqa]; rfl) ?_
        refine LexD.take 8 (by rfl) (by simp only [go_sem, reduceCtorEq, Nat.reduceAdd, Nat.reduceMul, Nat.reduceSub, Nat.reduceLT, Nat.reduceLeDiff, Nat.reduceEqDiff, Nat.reduceBEq, Nat.reducePow, hlt, hq0, hA, hil, hqa]; rfl) ?_
        refine LexD.take 1 (by rfl) (by simp only [go_sem, reduceCtorEq, Nat.reduceAdd, Nat.reduceMul, Nat.reduceSub, Nat.reduceLT, Nat.reduceLeDiff, Nat.reduceEqDiff, Nat.reduceBEq, Nat.reducePow, hlt, hq0, hA, hil, hqa]; rfl) (LexD.nilE ⟨Marks.nil _, ?_⟩)
        simp only [Vthen, VinBlock, if_true, if_false, Nat.reduceEqDiff, reduceCtorEq]
        refine WpV.cond rfl (fun hb => by cases hb) (fun hb => WpV.skip ?_)
        simp only [Vthen, VinBlock, if_true, if_false, Nat.reduceEqDiff, reduceCtorEq]
        refine WpV.regionE (by simp only [go_sem, reduceCtorEq, Nat.reduceAdd, Nat.reduceMul, Nat.reduceSub, Nat.reduceLT, Nat.reduceLeDiff, Nat.reduceEqDiff, Nat.reduceBEq, Nat.reducePow, hnk]; rfl) (Marks.nil _) ?_
        simp only [Vthen, VinBlock, if_true, if_false, Nat.reduceEqDiff, reduceCtorEq]
        exact ⟨by first | rfl | trivial, hlt', stay rfl, .cons rfl rfl (.cons rfl rfl (.cons rfl rfl (.cons rfl rfl (.cons rfl rfl (.nil _))))), by first | rfl | trivial⟩
      · rw [hqa, Bool.true_and] at stay hgo
        cases hqb : (q.2.1 == y)
        · refine WpV.seq (WpV.regionD Tryz.mixed (by kernel_rfl) (by kernel_rfl) ?_)
          refine LexD.take 8 (by rfl) (by simp only [go_sem, reduceCtorEq, Nat.reduceAdd, Nat.reduceMul, Nat.reduceSub, Nat.reduceLT, Nat.reduceLeDiff, Nat.reduceEqDiff, Nat.reduceBEq, Nat.reducePow, hlt, hq0, hq1, hA, hB, hil, hil1, hw1, hqa, hqb]; rfl) ?_
          refine LexD.take 8 (by rfl) (by simp only [go_sem, reduceCtorEq, Nat.reduceAdd, Nat.reduceMul, Nat.reduceSub, Nat.reduceLT, Nat.reduceLeDiff, Nat.reduceEqDiff, Nat.reduceBEq, Nat.reducePow, hlt, hq0, hq1, hA, hB, hil, hil1, hw1, hqa, hqb]; rfl) ?_
          refine LexD.take 8 (by rfl) (by simp only [go_sem, reduceCtorEq, Nat.reduceAdd, Nat.reduceMul, Nat.reduceSub, Nat.reduceLT, Nat.reduceLeDiff, Nat.reduceEqDiff, Nat.reduceBEq, Nat.reducePow, hlt, hq0, hq1, hA, hB, hil, hil1, hw1, hqa, hqb]; rfl) ?_
          refine LexD.take 1 (by rfl) (by simp only [go_sem, reduceCtorEq, Nat.reduceAdd, Nat.reduceMul, Nat.reduceSub, Nat.reduceLT, Nat.reduceLeDiff, Nat.reduceEqDiff, Nat.reduceBEq, Nat.reducePow, hlt, hq0, hq1, hA, hB, hil, hil1, hw1, hqa, hqb]; rfl) (LexD.nilE ⟨Marks.nil _, ?_⟩)
          simp only [Vthen, VinBlock, if_true, if_false, Nat.reduceEqDiff, reduceCtorEq]
          refine WpV.cond rfl (fun hb => by cases hb) (fun hb => WpV.skip ?_)
          simp only [Vthen, VinBlock, if_true, if_false, Nat.reduceEqDiff, reduceCtorEq]
          refine WpV.regionE (by simp only [go_sem, reduceCtorEq, Nat.reduceAdd, Nat.reduceMul, Nat.reduceSub, Nat.reduceLT, Nat.reduceLeDiff, Nat.reduceEqDiff, Nat.reduceBEq, Nat.reducePow, hnk]; rfl) (Marks.nil _) ?_
          simp only [Vthen, VinBlock, if_true, if_false, Nat.reduceEqDiff, reduceCtorEq]
          exact ⟨by first | rfl | trivial, hlt', stay hqb, .cons rfl rfl (.cons rfl rfl (.cons rfl rfl (.cons rfl rfl (.cons rfl rfl (.nil _))))), by first | rfl | trivial⟩
        · have hws : IntKind.i64.wrap (gap + q.2.2) = gap + q.2.2 := wrap64 (by omega)
          refine WpV.seq (WpV.regionD Tryz.mixed (by kernel_rfl) (by kernel_rfl) ?_)
          refine LexD.take 8 (by rfl) (by simp only [go_sem, reduceCtorEq, Nat.reduceAdd, Nat.reduceMul, Nat.reduceSub, Nat.reduceLT, Nat.reduceLeDiff, Nat.reduceEqDiff, Nat.reduceBEq, Nat.reducePow, hlt, hq0, hq1, hA, hB, hil, hil1, hw1, hqa, hqb]; rfl) ?_
          refine LexD.take 8 (by rfl) (by simp only [go_sem, reduceCtorEq, Nat.reduceAdd, Nat.reduceMul, Nat.reduceSub, Nat.reduceLT, Nat.reduceLeDiff, Nat.reduceEqDiff, Nat.reduceBEq, Nat.reducePow, hlt, hq0, hq1, hA, hB, hil, hil1, hw1, hqa, hqb]; rfl) ?_
          refine LexD.take 8 (by rfl) (by simp only [go_sem, reduceCtorEq, Nat.reduceAdd, Nat.reduceMul, Nat.reduceSub, Nat.reduceLT, Nat.reduceLeDiff, Nat.reduceEqDiff, Nat.reduceBEq, Nat.reducePow, hlt, hq0, hq1, hA, hB, hil, hil1, hw1, hqa, hqb]; rfl) ?_
          refine LexD.take 1 (by rfl) (by simp only [go_sem, reduceCtorEq, Nat.reduceAdd, Nat.reduceMul, Nat.reduceSub, Nat.reduceLT, Nat.reduceLeDiff, Nat.reduceEqDiff, Nat.reduceBEq, Nat.reducePow, hlt, hq0, hq1, hA, hB, hil, hil1, hw1, hqa, hqb]; rfl) (LexD.nilE ⟨Marks.nil _, ?_⟩)
          simp only [Vthen, VinBlock, if_true, if_false, Nat.reduceEqDiff, reduceCtorEq]
          refine WpV.cond rfl (fun hb => ?_) (fun hb => by cases hb)
          refine WpV.seq (WpV.regionE (by simp only [go_sem, reduceCtorEq, Nat.reduceAdd, Nat.reduceMul, Nat.reduceSub, Nat.reduceLT, Nat.reduceLeDiff, Nat.reduceEqDiff, Nat.reduceBEq, Nat.reducePow, hlt, hq2, hws]; rfl) (Marks.nil _) ?_)
          simp only [Vthen, VinBlock, if_true, if_false, Nat.reduceEqDiff, reduceCtorEq]
          refine WpV.ret ⟨Marks.nil _, List.nodup_nil, _, by simp only [Tryz.results20]; simp only [go_sem, reduceCtorEq, Nat.reduceAdd, Nat.reduceMul, Nat.reduceSub, Nat.reduceLT, Nat.reduceLeDiff, Nat.reduceEqDiff, Nat.reduceBEq, Nat.reducePow]; rfl, ?_⟩
          exact ⟨by rw [hgo hqb], rfl⟩
    · have hge : k = c.ps.length := by have := of_decide_eq_false ‹_›; omega
      subst hge
      simp only [Vthen, VinBlock, if_true, if_false, Nat.reduceEqDiff, reduceCtorEq]
      refine WpV.seq (WpV.regionE (by simp only [go_sem, reduceCtorEq, Nat.reduceAdd, Nat.reduceMul, Nat.reduceSub, Nat.reduceLT, Nat.reduceLeDiff, Nat.reduceEqDiff, Nat.reduceBEq, Nat.reducePow]; rfl) (Marks.nil _) ?_)
      simp only [Vthen, VinBlock, if_true, if_false, Nat.reduceEqDiff, reduceCtorEq]
      refine WpV.ret ⟨Marks.nil _, List.nodup_nil, _, by simp only [Tryz.results20]; simp only [go_sem, reduceCtorEq, Nat.reduceAdd, Nat.reduceMul, Nat.reduceSub, Nat.reduceLT, Nat.reduceLeDiff, Nat.reduceEqDiff, Nat.reduceBEq, Nat.reducePow]; rfl, ?_⟩
      refine ⟨?_, rfl⟩
      have : c.moreOf x y = 0 := by
        unfold Cs.moreOf
        rw [List.find?_eq_none.2 fun a ha => by
          obtain ⟨j, hj, rfl⟩ := List.getElem_of_mem ha
          rw [hno j hj hj]; decide]
      rw [this]; congr 1; omega

theorem least_any (H : Hp) (c : Cs) (hc : c.Valid) (nl clip : Bool) (w : List Int) (hw : c.Word w) (i : Nat) (hi : i + 1 < w.length) :
    CallV Tryz.prog 16 [.agg c.cells, vints nl clip w, vint i] H (fun r H' => r = vint ((c.closest w).getD i 0) ∧ H' = H) := by
  have hlk := look_any H c hc nl clip w hw i hi 0 (by omega)
  have hca := Cs.close_at c w (k := i) (by omega)
  have hle := hc.fair.least
  have hmb := Cs.mores_le hc.fair w (w.length - 1) _ (getD_mem (xs := c.mores w) (k := i) (by rw [Cs.moreN_len]; omega))
  rw [hca]
  generalize (c.mores w).getD i 0 = m at hlk hmb ⊢
  rw [Int.zero_add] at hlk
  have hws : IntKind.i64.wrap (c.least - m) = c.least - m := wrap64 (by omega)
  refine CallV.body Tryz.func16 rfl Tryz.ntmps16 (by rfl) ?_
  refine WpV.seq (WpV.regionE (by simp only [go_sem, reduceCtorEq, Nat.reduceAdd, Nat.reduceMul, Nat.reduceSub, Nat.reduceLT, Nat.reduceLeDiff, Nat.reduceEqDiff, Nat.reduceBEq, Nat.reducePow]; rfl) (Marks.nil _) ?_)
  simp only [Vthen, VinBlock, if_true, if_false, Nat.reduceEqDiff, reduceCtorEq]
  refine WpV.seq (WpV.regionD Tryz.mixed (by kernel_rfl) (by kernel_rfl) ?_)
  refine LexD.take 5 (by rfl) (by simp only [go_sem, reduceCtorEq, Nat.reduceAdd, Nat.reduceMul, Nat.reduceSub, Nat.reduceLT, Nat.reduceLeDiff, Nat.reduceEqDiff, Nat.reduceBEq, Nat.reducePow, hws]; rfl) ?_
  refine LexD.step (by rfl) (by rfl) (OpW.callY rfl (by rfl) (by rfl) (by rfl) (enters_of Tryz.func20 (by kernel_rfl) rfl) (hlk)) ?_
  refine LexD.take 3 (by rfl) (by simp only [go_sem, reduceCtorEq, Nat.reduceAdd, Nat.reduceMul, Nat.reduceSub, Nat.reduceLT, Nat.reduceLeDiff, Nat.reduceEqDiff, Nat.reduceBEq, Nat.reducePow, hws]; rfl) (LexD.nilE ⟨Marks.nil _, ?_⟩)
  simp only [Vthen, VinBlock, if_true, if_false, Nat.reduceEqDiff, reduceCtorEq]
  refine WpV.ret ⟨Marks.nil _, List.nodup_nil, _, by simp only [Tryz.results16]; simp only [go_sem, reduceCtorEq, Nat.reduceAdd, Nat.reduceMul, Nat.reduceSub, Nat.reduceLT, Nat.reduceLeDiff, Nat.reduceEqDiff, Nat.reduceBEq, Nat.reducePow]; rfl, ?_⟩
  refine ⟨?_, rfl⟩
  unfold Cs.close
  congr 1
  split <;> split <;> omega

set_option maxHeartbeats 4000000 in
theorem needs_any (H : Hp) (c : Cs) (hc : c.Valid) (nl clip : Bool) (w : List Int) (hw : c.Word w) :
    CallV Tryz.prog 13 [.agg c.cells, vints nl clip w] H (fun r H' => r = vint (c.needF [w]) ∧ H' = H) := by
  have hF := hc.fair
  have hrim := hF.rim
  have hwl := hw.2.1
  have hw1 := hw.1
  have hwr2 : IntKind.i64.wrap (2 * c.rim) = 2 * c.rim := wrap64 (by omega)
  have hcl := Cs.closest_len c w
  have hcle := Cs.closest_le hF w
  refine CallV.body Tryz.func13 rfl Tryz.ntmps13 (by rfl) ?_
  refine WpV.seq (WpV.regionE (by simp only [go_sem, reduceCtorEq, Nat.reduceAdd, Nat.reduceMul, Nat.reduceSub, Nat.reduceLT, Nat.reduceLeDiff, Nat.reduceEqDiff, Nat.reduceBEq, Nat.reducePow]; rfl) (Marks.nil _) ?_)
  simp only [Vthen, VinBlock, if_true, if_false, Nat.reduceEqDiff, reduceCtorEq]
  refine WpV.seq (WpV.regionE (by simp only [go_sem, reduceCtorEq, Nat.reduceAdd, Nat.reduceMul, Nat.reduceSub, Nat.reduceLT, Nat.reduceLeDiff, Nat.reduceEqDiff, Nat.reduceBEq, Nat.reducePow, hwr2]; rfl) (Marks.nil _) ?_)
  simp only [Vthen, VinBlock, if_true, if_false, Nat.reduceEqDiff, reduceCtorEq]
  refine WpV.seq ?_
  refine WpV.seq (WpV.regionE (by simp only [go_sem, reduceCtorEq, Nat.reduceAdd, Nat.reduceMul, Nat.reduceSub, Nat.reduceLT, Nat.reduceLeDiff, Nat.reduceEqDiff, Nat.reduceBEq, Nat.reducePow]; rfl) (Marks.nil _) ?_)
  simp only [Vthen, VinBlock, if_true, if_false, Nat.reduceEqDiff, reduceCtorEq]
  refine WpV.block (WpV.loopN w.length (fun k => [(1, vints nl clip w), (2, .cp c.cells 0), (5, vint (2 * c.rim + ((w.take k).map c.widthOf).sum + ((c.closest w).take k).sum)), (6, vint k)]) (fun _ => H) ?_ rfl ?_)
  · exact .cons rfl rfl (.cons rfl rfl (.cons rfl (by simp) (.cons rfl rfl (.nil _))))
  · intro k hk
    refine WpV.seq ?_
    refine WpV.seq (WpV.regionE (by simp only [go_sem, reduceCtorEq, Nat.reduceAdd, Nat.reduceMul, Nat.reduceSub, Nat.reduceLT, Nat.reduceLeDiff, Nat.reduceEqDiff, Nat.reduceBEq, Nat.reducePow]; rfl) (Marks.nil _) ?_)
    simp only [Vthen, VinBlock, if_true, if_false, Nat.reduceEqDiff, reduceCtorEq]
    refine WpV.cond rfl (fun hb => WpV.skip ?_) (fun hb => WpV.exit ?_)
    · have hlt : (k : Int) < (w.length : Int) := of_decide_eq_true ‹_›
      have hlt' : k < w.length := by omega
      have hg := int_at' (L := w) hlt'
      have hxl := hw.2.2 _ (getD_mem (xs := w) hlt')
      have hwx := Cs.width_le hF.ws hxl
      have h1 := sum_bound (xs := (c.closest w).take k) (a := 0) (b := 15) (fun y hy => hcle y (List.mem_of_mem_take hy))
      have h2 := sum_bound (xs := (w.take k).map c.widthOf) (a := 0) (b := 30) (fun y hy => by
        obtain ⟨x, hx, rfl⟩ := List.mem_map.1 hy; exact Cs.width_le hF.ws (hw.2.2 x (List.mem_of_mem_take hx)))
      have hs1 : ((w.take (k + 1)).map c.widthOf).sum = ((w.take k).map c.widthOf).sum + c.widthOf (w.getD k 0) := by
        rw [List.take_add_one, List.getElem?_eq_getElem hlt', List.map_append, List.sum_append, List.getD_eq_getElem?_getD, List.getElem?_eq_getElem hlt']; simp
      have hs2 : ((c.closest w).take (k + 1)).sum = if k + 1 < w.length then ((c.closest w).take k).sum + (c.closest w).getD k 0 else ((c.closest w).take k).sum := by
        split
        · rw [List.take_add_one, List.getElem?_eq_getElem (show k < (c.closest w).length by omega), List.sum_append, List.getD_eq_getElem?_getD, List.getElem?_eq_getElem (show k < (c.closest w).length by omega)]; simp
        · rw [List.take_of_length_le (by omega), List.take_of_length_le (by omega)]
      have hla : k + 1 < w.length → 0 ≤ (c.closest w).getD k 0 ∧ (c.closest w).getD k 0 ≤ 15 := fun h => hcle _ (getD_mem (by omega))
      have hl1 : ((c.closest w).take k).length ≤ 7 := by rw [List.length_take]; omega
      have hl2 : ((w.take k).map c.widthOf).length ≤ 7 := by rw [List.length_map, List.length_take]; omega
      have hto : (w.getD k 0).toNat < c.ws.length := by omega
      have hlst := fun h => least_any H c hc nl clip w hw k h
      generalize w.getD k 0 = y at hg hxl hwx hto hs1
      have hgw : (c.ws.map vint)[y.toNat]? = some (vint (c.widthOf y)) := by
        rw [ints_get c.ws hto]; simp [Cs.widthOf, List.getD_eq_getElem?_getD, hto]
      obtain ⟨hx0, hx1⟩ := hxl
      rw [hs1, hs2]
      generalize ((w.take k).map c.widthOf).sum = s1 at *
      generalize ((c.closest w).take k).sum = s2 at *
      generalize ((w.take k).map c.widthOf).length = n1 at *
      generalize ((c.closest w).take k).length = n2 at *
      have hwa : IntKind.i64.wrap (2 * c.rim + s1 + s2 + c.widthOf y) = 2 * c.rim + s1 + s2 + c.widthOf y := wrap64 (by omega)
      have hnk : IntKind.i64.wrap ((k : Int) + 1) = ((k + 1 : Nat) : Int) := by rw [wrap64 (by omega)]; rfl
      simp only [Vthen, VinBlock, if_true, if_false, Nat.reduceEqDiff, reduceCtorEq]
      refine WpV.seq (WpV.block ?_)
      refine WpV.seq (WpV.regionTN 10 Tryz.mixed (by kernel_rfl) (by kernel_rfl) (by kernel_rfl) ?_)
      refine LexD.take 8 (by rfl) (by simp only [go_sem, reduceCtorEq, Nat.reduceAdd, Nat.reduceMul, Nat.reduceSub, Nat.reduceLT, Nat.reduceLeDiff, Nat.reduceEqDiff, Nat.reduceBEq, Nat.reducePow, hlt, hg, hx0, hx1, hgw, hwa]; rfl) ?_
      refine LexD.take 2 (by rfl) (by simp only [go_sem, reduceCtorEq, Nat.reduceAdd, Nat.reduceMul, Nat.reduceSub, Nat.reduceLT, Nat.reduceLeDiff, Nat.reduceEqDiff, Nat.reduceBEq, Nat.reducePow, hlt, hg, hx0, hx1, hgw, hwa]; rfl) ?_
      refine LexD.nilE ?_
      refine LexT.take 1 (by simp only [go_sem, reduceCtorEq, Nat.reduceAdd, Nat.reduceMul, Nat.reduceSub, Nat.reduceLT, Nat.reduceLeDiff, Nat.reduceEqDiff, Nat.reduceBEq, Nat.reducePow, hlt, hg, hx0, hx1, hgw, hwa]; rfl) (LexT.nilE ⟨Marks.nil _, ?_⟩)
      simp only [Vthen, VinBlock, if_true, if_false, Nat.reduceEqDiff, reduceCtorEq]
      by_cases hk1 : k + 1 < w.length
      · have hk1' : ((k + 1 : Nat) : Int) < (w.length : Int) := by omega
        have hlb := hla hk1
        have hwb : IntKind.i64.wrap (2 * c.rim + s1 + s2 + c.widthOf y + (c.closest w).getD k 0) = 2 * c.rim + s1 + s2 + c.widthOf y + (c.closest w).getD k 0 := wrap64 (by omega)
        refine WpV.seq (WpV.regionE (by simp only [go_sem, reduceCtorEq, Nat.reduceAdd, Nat.reduceMul, Nat.reduceSub, Nat.reduceLT, Nat.reduceLeDiff, Nat.reduceEqDiff, Nat.reduceBEq, Nat.reducePow, hnk, hk1']; rfl) (Marks.nil _) ?_)
        simp only [Vthen, VinBlock, if_true, if_false, Nat.reduceEqDiff, reduceCtorEq]
        refine WpV.cond rfl (fun hb => ?_) (fun hb => by cases hb)
        refine WpV.region ?_
        refine WpOps.take 4 (by simp only [go_sem, reduceCtorEq, Nat.reduceAdd, Nat.reduceMul, Nat.reduceSub, Nat.reduceLT, Nat.reduceLeDiff, Nat.reduceEqDiff, Nat.reduceBEq, Nat.reducePow, hwb]; rfl) ?_
        refine WpOps.step (by rfl) (by rfl) (OpW.callY rfl (by rfl) (by rfl) (by rfl) (enters_of Tryz.func16 (by kernel_rfl) rfl) ((hlst hk1).mono ?_))
        rintro _ _ ⟨rfl, hH⟩
        replace hH := hH.symm
        subst hH
        refine WpOps.take 2 (by simp only [go_sem, reduceCtorEq, Nat.reduceAdd, Nat.reduceMul, Nat.reduceSub, Nat.reduceLT, Nat.reduceLeDiff, Nat.reduceEqDiff, Nat.reduceBEq, Nat.reducePow, hwb]; rfl) (WpOps.nil ⟨Marks.nil _, ?_⟩)
        simp only [Vthen, VinBlock, if_true, if_false, Nat.reduceEqDiff, reduceCtorEq]
        refine WpV.regionE (by simp only [go_sem, reduceCtorEq, Nat.reduceAdd, Nat.reduceMul, Nat.reduceSub, Nat.reduceLT, Nat.reduceLeDiff, Nat.reduceEqDiff, Nat.reduceBEq, Nat.reducePow, hnk]; rfl) (Marks.nil _) ?_
        simp only [Vthen, VinBlock, if_true, if_false, Nat.reduceEqDiff, reduceCtorEq]
        exact ⟨by first | rfl | trivial, hlt', .cons rfl rfl (.cons rfl rfl (.cons rfl (by rw [if_pos hk1]; congr 1; omega) (.cons rfl rfl (.nil _)))), by first | rfl | trivial⟩
      · have hk1' : ¬ (((k + 1 : Nat) : Int) < (w.length : Int)) := by omega
        refine WpV.seq (WpV.regionE (by simp only [go_sem, reduceCtorEq, Nat.reduceAdd, Nat.reduceMul, Nat.reduceSub, Nat.reduceLT, Nat.reduceLeDiff, Nat.reduceEqDiff, Nat.reduceBEq, Nat.reducePow, hnk, hk1']; rfl) (Marks.nil _) ?_)
        simp only [Vthen, VinBlock, if_true, if_false, Nat.reduceEqDiff, reduceCtorEq]
        refine WpV.cond rfl (fun hb => by cases hb) (fun hb => WpV.skip ?_)
        simp only [Vthen, VinBlock, if_true, if_false, Nat.reduceEqDiff, reduceCtorEq]
        refine WpV.regionE (by simp only [go_sem, reduceCtorEq, Nat.reduceAdd, Nat.reduceMul, Nat.reduceSub, Nat.reduceLT, Nat.reduceLeDiff, Nat.reduceEqDiff, Nat.reduceBEq, Nat.reducePow, hnk]; rfl) (Marks.nil _) ?_
        simp only [Vthen, VinBlock, if_true, if_false, Nat.reduceEqDiff, reduceCtorEq]
        exact ⟨by first | rfl | trivial, hlt', .cons rfl rfl (.cons rfl rfl (.cons rfl (by rw [if_neg hk1]; congr 1; omega) (.cons rfl rfl (.nil _)))), by first | rfl | trivial⟩
    · have hge : k = w.length := by have := of_decide_eq_false ‹_›; omega
      subst hge
      simp only [Vthen, VinBlock, if_true, if_false, Nat.reduceEqDiff, reduceCtorEq]
      refine WpV.seq (WpV.regionE (by simp only [go_sem, reduceCtorEq, Nat.reduceAdd, Nat.reduceMul, Nat.reduceSub, Nat.reduceLT, Nat.reduceLeDiff, Nat.reduceEqDiff, Nat.reduceBEq, Nat.reducePow]; rfl) (Marks.nil _) ?_)
      simp only [Vthen, VinBlock, if_true, if_false, Nat.reduceEqDiff, reduceCtorEq]
      refine WpV.ret ⟨Marks.nil _, List.nodup_nil, _, by simp only [Tryz.results13]; simp only [go_sem, reduceCtorEq, Nat.reduceAdd, Nat.reduceMul, Nat.reduceSub, Nat.reduceLT, Nat.reduceLeDiff, Nat.reduceEqDiff, Nat.reduceBEq, Nat.reducePow]; rfl, ?_⟩
      refine ⟨?_, rfl⟩
      rw [List.take_of_length_le (l := c.closest w) (by omega), Cs.need_one]
      unfold Cs.need1 Cs.longF
      congr 1; omega
end Go.Proofs.YtaekibilldjnmaaGreat
namespace Go.Proofs.YtaekibilldjnmaaGreat
open Go.Proofs

theorem sum_set : ∀ (g : List Int) (k : Nat) (x : Int), k < g.length → (g.set k (g.getD k 0 + x)).sum = g.sum + x
  | [], k, x, h => by simp at h
  | y :: g, 0, x, _ => by simp; omega
  | y :: g, k + 1, x, h => by
    have := sum_set g k x (by simpa using h)
    simp only [List.set_cons_succ, List.sum_cons, List.getD_cons_succ]
    rw [this]; omega
/-- What filling does. -/
theorem fill_in {ms : List Int} {hi : Int} : ∀ (k : Nat) (g : List Int) (r : Int) (g' : List Int) (r' : Int), k ≤ g.length → fillF ms hi k g r = some (g', r') →
    g'.sum + r' = g.sum + r ∧ ∀ i, i < g.length → g.getD i 0 ≤ g'.getD i 0 ∧ (k ≤ i → g'.getD i 0 = g.getD i 0) ∧ (i < k → g'.getD i 0 + ms.getD i 0 ≤ hi)
  | 0, g, r, g', r', _, h => by
    cases h
    exact ⟨rfl, fun i _ => ⟨Int.le_refl _, fun _ => rfl, fun h => absurd h (Nat.not_lt_zero _)⟩⟩
  | k + 1, g, r, g', r', hk, h => by
    rw [fillF] at h
    split at h
    · cases h
    · rename_i hx
      have hxle : fillX ms g hi r k ≤ hi - ms.getD k 0 - g.getD k 0 := by unfold fillX; split <;> omega
      generalize fillX ms g hi r k = x at h hx hxle
      obtain ⟨h1, h2⟩ := fill_in k _ _ g' r' (by simp; omega) h
      rw [sum_set g k x (by omega)] at h1
      refine ⟨by omega, fun i hi' => ?_⟩
      obtain ⟨a1, a2, a3⟩ := h2 i (by simpa using hi')
      rw [getD_set (by omega)] at a1 a2
      by_cases e : i = k
      · rw [if_pos e] at a1 a2
        have := a2 (by omega)
        subst e
        exact ⟨by omega, fun h => by omega, fun _ => by omega⟩
      · rw [if_neg e] at a1 a2
        exact ⟨a1, fun h => a2 (by omega), fun h => a3 (by omega)⟩
theorem fill_all {ms : List Int} {hi : Int} : ∀ (k : Nat) (g : List Int) (r : Int), k ≤ g.length → 0 ≤ r → (∀ i, i < k → r ≤ hi - ms.getD i 0 - g.getD i 0) → ∃ g', fillF ms hi k g r = some (g', if k = 0 then r else 0)
  | 0, g, r, _, _, _ => ⟨g, rfl⟩
  | k + 1, g, r, hk, hr, h => by
    have hx : fillX ms g hi r k = r := by unfold fillX; rw [if_neg (by have := h k (by omega); omega)]
    rw [fillF, hx, if_neg (by omega)]
    obtain ⟨g', h'⟩ := fill_all (ms := ms) (hi := hi) k (g.set k (g.getD k 0 + r)) (r - r) (by simp; omega) (by omega) (fun i hi' => by
      have := h i (by omega)
      have e := getD_set (w := g) (k := k) (by omega) (g.getD k 0 + r) i
      rw [if_neg (show ¬ i = k by omega)] at e
      rw [e]; omega)
    refine ⟨g', ?_⟩
    rw [h', show (if k = 0 then r - r else 0) = (0 : Int) by split <;> omega, if_neg (show ¬ k + 1 = 0 by omega)]

/-- Laid gaps: they take all the room, and look alike. -/
structure Laid (c : Cs) (w : List Int) (n : Int) (g : List Int) (s : Nat) : Prop where
  len : g.length = w.length - 1
  le : ∀ i, i < g.length → 0 ≤ g.getD i 0 ∧ g.getD i 0 ≤ 400
  look : ∃ lo : Int, ∀ i, i < g.length → lo ≤ g.getD i 0 + (c.mores w).getD i 0 ∧ g.getD i 0 + (c.mores w).getD i 0 ≤ lo + s
theorem getD_le_sum : ∀ (g : List Int), (∀ i, i < g.length → 0 ≤ g.getD i 0) → 0 ≤ g.sum ∧ ∀ i, i < g.length → g.getD i 0 ≤ g.sum
  | [], _ => ⟨by simp, fun i h => by simp at h⟩
  | x :: g, h => by
    have h0 := h 0 (by simp)
    simp only [List.getD_cons_zero] at h0
    obtain ⟨a, b⟩ := getD_le_sum g (fun i hi => by have := h (i + 1) (by simpa using hi); simpa using this)
    refine ⟨by simp; omega, fun i hi => ?_⟩
    cases i with
    | zero => simp; omega
    | succ i => have := b i (by simpa using hi); simp only [List.getD_cons_succ, List.sum_cons]; omega
theorem between_laid {c : Cs} (hc : c.Fair) {w : List Int} {lo : Nat} {s : Nat} {room : Int} (hlo : lo ≤ 1000) (hr : room ≤ 400) {g : List Int} {n : Int} (h : c.betweenF w lo ((lo : Int) + (s : Int)) room = some (g, 0)) : Laid c w n g s := by
  have hl := Cs.between_len h
  have hol := Cs.openF_len c w lo
  unfold Cs.betweenF at h
  obtain ⟨h1, h2⟩ := fill_in _ _ _ _ _ (by rw [hol]; exact Nat.le_refl _) h
  have hop : ∀ i, i < w.length - 1 → 0 ≤ (c.openF w lo).getD i 0 ∧ (lo : Int) ≤ (c.openF w lo).getD i 0 + (c.mores w).getD i 0 := fun i hi => by
    have a := Cs.closest_le hc w _ (getD_mem (xs := c.closest w) (k := i) (by rw [Cs.closest_len]; exact hi))
    rw [Cs.open_at c w lo hi]
    unfold Cs.open1
    split <;> omega
  have hge : ∀ i, i < g.length → 0 ≤ g.getD i 0 := fun i hi => by
    have := hop i (by omega)
    have := (h2 i (by omega)).1
    omega
  obtain ⟨hs1, hs2⟩ := getD_le_sum g hge
  refine ⟨hl, fun i hi => ⟨hge i hi, ?_⟩, lo, fun i hi => ?_⟩
  · have := hs2 i hi; omega
  · have a := hop i (by omega)
    obtain ⟨b1, -, b3⟩ := h2 i (by omega)
    have := b3 (by omega)
    omega
theorem alike_laid {c : Cs} (hc : c.Fair) {w : List Int} {s : Nat} {room : Int} (hr : room ≤ 400) {n : Int} : ∀ (k : Nat) (g : List Int), k ≤ 1000 → c.alikeN w s room k = some g → Laid c w n g s
  | 0, g, _, h => by cases h
  | k + 1, g, hk, h => by
    rw [Cs.alikeN_succ] at h
    have ih := alike_laid hc (w := w) (s := s) hr (n := n) k
    unfold Cs.alikeStep at h
    split at h
    · exact ih g (by omega) h
    · rename_i g2 r hb
      split at h
      · rename_i hr0
        have hr0' : r = 0 := by simpa using hr0
        subst hr0'
        split at h
        · cases h; exact between_laid hc (by omega) hr hb
        · rename_i b' hst
          split at h
          · cases h; exact between_laid hc (by omega) hr hb
          · cases h; exact ih _ (by omega) hst
      · exact ih g (by omega) h
theorem alike_some {c : Cs} {w : List Int} {s room : Int} : ∀ (k lo : Nat) (g : List Int), lo < k → c.betweenF w lo ((lo : Int) + s) room = some (g, 0) → c.alikeN w s room k ≠ none
  | 0, lo, g, h, _ => absurd h (Nat.not_lt_zero _)
  | k + 1, lo, g, h, hb => by
    rw [Cs.alikeN_succ]
    unfold Cs.alikeStep
    by_cases e : lo = k
    · subst e
      rw [hb]
      simp only [beq_self_eq_true, if_true]
      split
      · simp
      · split <;> simp
    · have ih := alike_some k lo g (by omega) hb
      split
      · exact ih
      · split
        · split
          · simp
          · split <;> simp
        · exact ih
/-- A word that goes is laid. -/
theorem lay_laid {c : Cs} (hc : c.Fair) {w : List Int} (hw : c.Word w) (h2 : 2 ≤ w.length) {n : Int} (hn : 1 ≤ n ∧ n ≤ 400) (hgo : c.needF [w] ≤ n) : ∃ g s, c.layF w n = some (g, s) ∧ ((s : Int) < c.roomF w n + 6) ∧ Laid c w n g s := by
  have hrm := Cs.room_le hc hw hn hgo
  have hroom : (c.closest w).sum ≤ c.roomF w n := by
    rw [Cs.need_one] at hgo
    unfold Cs.roomF
    unfold Cs.need1 Cs.longF at hgo
    unfold Cs.longF
    simp only [List.sum_nil]
    omega
  have hlf : ∀ x, c.layF w n = x → c.layF w n = x := fun _ h => h
  unfold Cs.layF
  rw [if_neg (by omega)]
  generalize c.roomF w n = room at hrm hroom
  have hcl := Cs.closest_len c w
  have hml : (c.mores w).length = w.length - 1 := Cs.moreN_len c w _
  have hopen : c.openF w (0 : Nat) = c.closest w := by
    refine eq_getD (by rw [Cs.openF_len, hcl]) fun i hi => ?_
    rw [Cs.openF_len] at hi
    rw [Cs.open_at c w _ hi, Cs.close_at c w hi]
    have := hc.least
    unfold Cs.open1 Cs.close
    split <;> split at * <;> omega
  have hcge : ∀ i, i < (c.closest w).length → 0 ≤ (c.closest w).getD i 0 := fun i hi => (Cs.closest_le hc w _ (getD_mem hi)).1
  obtain ⟨hs1, hs2⟩ := getD_le_sum _ hcge
  have hbet : ∃ g, c.betweenF w (0 : Nat) (((0 : Nat) : Int) + (room + 5)) room = some (g, 0) := by
    unfold Cs.betweenF
    rw [hopen]
    obtain ⟨g', h'⟩ := fill_all (ms := c.mores w) (hi := ((0 : Nat) : Int) + (room + 5)) (w.length - 1) (c.closest w) (room - (c.closest w).sum) (by omega) (by omega) (fun i hi => by
      have a := hs2 i (by omega)
      have b := Cs.mores_le hc w (w.length - 1) _ (getD_mem (xs := c.mores w) (k := i) (by omega))
      omega)
    rw [if_neg (by omega)] at h'
    exact ⟨g', h'⟩
  obtain ⟨g0, hb0⟩ := hbet
  have hal := alike_some (room + 6).toNat 0 g0 (by omega) hb0
  cases hfs : (List.range (room + 6).toNat).findSome? fun (s : Nat) => (c.alikeN w (s : Int) room (room + 6).toNat).map fun g => (g, s) with
  | none =>
    exfalso
    rw [List.findSome?_eq_none_iff] at hfs
    have := hfs (room + 5).toNat (List.mem_range.2 (by omega))
    rw [show (((room + 5).toNat : Nat) : Int) = room + 5 by omega] at this
    rw [Option.map_eq_none_iff] at this
    exact hal this
  | some gs =>
    obtain ⟨g, s⟩ := gs
    obtain ⟨s', hs', hm⟩ := List.exists_of_findSome?_eq_some hfs
    rw [Option.map_eq_some_iff] at hm
    obtain ⟨g', hg', he⟩ := hm
    cases he
    rw [List.mem_range] at hs'
    exact ⟨_, _, rfl, by omega, alike_laid hc (by omega) _ _ (by omega) hg'⟩
end Go.Proofs.YtaekibilldjnmaaGreat
namespace Go.Proofs.YtaekibilldjnmaaGreat
open Go.Proofs

theorem combs_mem : ∀ (l : List Int) (b t : List Int), t.Sublist l → b ++ t ∈ combs l t.length b
  | l, b, [], _ => by simp [combs_zero]
  | [], b, y :: t, h => by cases h
  | x :: l, b, y :: t, h => by
    rw [List.length_cons, combs, List.mem_append]
    cases h with
    | cons _ h =>
      right
      have := combs_mem l b (y :: t) h
      rwa [List.length_cons] at this
    | cons_cons _ h =>
      left
      have := combs_mem l (b ++ [x]) t h
      simpa using this
theorem sets_iff {n s : Nat} {b : List Int} : b ∈ setsF n s ↔ b.Sublist (numsF 0 n) ∧ b.length = s := by
  unfold setsF
  constructor
  · intro h
    obtain ⟨t, e, ht⟩ := combs_sub _ _ _ _ h
    have hl := combs_len _ _ _ _ h
    simp only [List.nil_append] at e
    subst e
    exact ⟨ht, by simpa using hl⟩
  · rintro ⟨h, rfl⟩
    have := combs_mem (numsF 0 n) [] b h
    simpa using this
theorem fewest_spec (l : List Int) (p : List Int → Bool) (h : ∃ b0 : List Int, b0.Sublist (numsF 0 l.length) ∧ p (withoutF l b0) = true) :
    ∃ b, fewestF l p = some b ∧ b.Sublist (numsF 0 l.length) ∧ p (withoutF l b) = true ∧ ∀ b' : List Int, b'.Sublist (numsF 0 l.length) → b'.length < b.length → p (withoutF l b') = false := by
  obtain ⟨b0, hb0, hp0⟩ := h
  have hl0 : b0.length ≤ l.length := by have := hb0.length_le; rwa [numsF_len] at this
  cases hf : fewestF l p with
  | none =>
    exfalso
    unfold fewestF at hf
    rw [List.findSome?_eq_none_iff] at hf
    have := hf b0.length (List.mem_range.2 (by omega))
    rw [List.find?_eq_none] at this
    exact this b0 (sets_iff.2 ⟨hb0, rfl⟩) hp0
  | some b =>
    refine ⟨b, rfl, ?_⟩
    unfold fewestF at hf
    rw [List.findSome?_eq_some_iff] at hf
    obtain ⟨l1, a, l2, e, hfa, hno⟩ := hf
    have hmem := List.mem_of_find?_eq_some hfa
    have hpb := List.find?_some hfa
    obtain ⟨hs, hbl⟩ := sets_iff.1 hmem
    have ha : a = l1.length := by
      have h1 : (List.range (l.length + 1))[l1.length]? = some a := by rw [e]; simp
      rw [List.getElem?_eq_some_iff] at h1
      obtain ⟨h2, h3⟩ := h1
      rw [List.getElem_range] at h3
      exact h3.symm
    refine ⟨hs, hpb, fun b' hb' hlt => ?_⟩
    have hin : b'.length ∈ l1 := by
      have h1 : (List.range (l.length + 1))[b'.length]? = some b'.length := by
        rw [List.getElem?_eq_some_iff]
        have := hb'.length_le
        rw [numsF_len] at this
        exact ⟨by simp; omega, by simp⟩
      rw [e, List.getElem?_append_left (by omega)] at h1
      exact List.mem_of_getElem? h1
    have := hno _ hin
    rw [List.find?_eq_none] at this
    have := this b' (sets_iff.2 ⟨hb', rfl⟩)
    simpa using this
theorem nums_up (n : Nat) : (numsF 0 n).Pairwise (· < ·) := by
  unfold numsF
  rw [List.pairwise_map]
  exact List.pairwise_lt_range.imp (fun h => by omega)
theorem nums_mem {n : Nat} {x : Int} : x ∈ numsF 0 n ↔ 0 ≤ x ∧ x < n := by
  unfold numsF
  rw [List.mem_map]
  constructor
  · rintro ⟨i, hi, rfl⟩; have := List.mem_range.1 hi; omega
  · intro h; exact ⟨x.toNat, List.mem_range.2 (by omega), by omega⟩
theorem contB_iff {xs : List Int} {v : Int} : contB xs v = true ↔ v ∈ xs := by
  unfold contB
  rw [Bool.not_eq_true', decide_eq_false_iff_not]
  constructor
  · intro h
    rcases Decidable.em (v ∈ xs) with h1 | h1
    · exact h1
    · exfalso
      refine h fun i hi => ?_
      simp only [beq_eq_false_iff_ne]
      intro e
      exact h1 (e ▸ getD_mem hi)
  · intro h hall
    obtain ⟨i, hi, rfl⟩ := List.getElem_of_mem h
    have : (xs[i] == xs.getD i 0) = false := hall i hi
    rw [List.getD_eq_getElem?_getD, List.getElem?_eq_getElem hi] at this
    simp at this
theorem any_cont (xs : List Int) (v : Int) : (xs.any fun x => x == v) = contB xs v := by
  rw [Bool.eq_iff_iff, contB_iff, List.any_eq_true]
  constructor
  · rintro ⟨x, hx, e⟩; have : x = v := by simpa using e
    exact this ▸ hx
  · intro h; exact ⟨v, h, by simp⟩
theorem without_mem {l ps : List Int} {x : Int} (h : x ∈ withoutF l ps) : ∃ i, i < l.length ∧ (i : Int) ∉ ps ∧ x = l.getD i 0 := by
  have h' : x ∈ withoutN l ps l.length := h
  unfold withoutN at h'
  obtain ⟨i, hi, rfl⟩ := List.mem_map.1 h'
  rw [List.mem_filter, List.mem_range] at hi
  refine ⟨i, hi.1, fun hm => ?_, rfl⟩
  rw [contB_iff.2 hm] at hi
  exact absurd hi.2 (by decide)

/-! ### The least and the greatest -/
def fmin (a b : Int) : Int := if b < a then b else a
def fmax (a b : Int) : Int := if b > a then b else a
def loF : List Int → Int | [] => 0 | x :: ys => ys.foldl fmin x
def hiF : List Int → Int | [] => 0 | x :: ys => ys.foldl fmax x
theorem spread_eq (xs : List Int) : spreadF xs = hiF xs - loF xs := by
  cases xs with
  | nil => rfl
  | cons x ys =>
    unfold spreadF maxL minL
    rw [if_neg (by simp), List.take_length]
    rfl
theorem loF_snoc (xs : List Int) (n : Int) : loF (xs ++ [n]) = if xs = [] then n else fmin (loF xs) n := by
  cases xs with
  | nil => rfl
  | cons x ys => simp [loF, List.foldl_append]
theorem hiF_snoc (xs : List Int) (n : Int) : hiF (xs ++ [n]) = if xs = [] then n else fmax (hiF xs) n := by
  cases xs with
  | nil => rfl
  | cons x ys => simp [hiF, List.foldl_append]
theorem spread_le {xs : List Int} {lo : Int} {s : Int} (hs : 0 ≤ s) (h : ∀ x ∈ xs, lo ≤ x ∧ x ≤ lo + s) : spreadF xs ≤ s := by
  unfold spreadF
  split
  · exact hs
  · have h1 := maxL_in h (by omega) xs.length
    have h2 := minL_in h (by omega) xs.length
    omega

/-! ### A word, of whose gaps some were changed -/
structure Chg (c : Cs) (w gaps bad ch : List Int) : Prop where
  len : bad.length = gaps.length
  le : ∀ i, i < bad.length → 0 ≤ bad.getD i 0 ∧ bad.getD i 0 ≤ 400
  ins : ∀ x ∈ ch, 0 ≤ x ∧ x < bad.length
  same : ∀ i, i < bad.length → (i : Int) ∉ ch → bad.getD i 0 = gaps.getD i 0
theorem nodup_len : ∀ (F ch : List Int), F.Nodup → (∀ x ∈ F, x ∈ ch) → F.length ≤ ch.length
  | [], ch, _, _ => by simp
  | x :: F, ch, hn, hs => by
    rw [List.nodup_cons] at hn
    have hx := hs x (by simp)
    have := nodup_len F (ch.erase x) hn.2 (fun y hy => by
      have hne : y ≠ x := fun e => hn.1 (e ▸ hy)
      exact (List.mem_erase_of_ne hne).2 (hs y (by simp [hy])))
    rw [List.length_erase_of_mem hx] at this
    have hpos : 0 < ch.length := List.length_pos_of_mem hx
    simp only [List.length_cons]; omega
theorem filter_len (l ch : List Int) (hl : l.Nodup) : (l.filter fun x => contB ch x).length ≤ ch.length :=
  nodup_len _ _ (hl.filter _) fun x hx => contB_iff.1 (List.mem_filter.1 hx).2
theorem up_nodup {l : List Int} (h : l.Pairwise (· < ·)) : l.Nodup := h.imp (fun h => by omega)
/-- What Wrong answers of it. -/
theorem chg_wrong {c : Cs} {w gaps bad ch : List Int} {n : Int} {s : Nat} (hL : Laid c w n gaps s) (hc : Chg c w gaps bad ch) (hml : (c.mores w).length = bad.length) :
    ∃ b, fewestF (c.looksF w bad) (wrongP s) = some b ∧ b.length ≤ ch.length ∧ b.Sublist (numsF 0 bad.length) ∧ spreadF (withoutF (c.looksF w bad) b) ≤ s ∧ ∀ j, j < b.length → ¬ spreadF (withoutF (c.looksF w bad) (b.eraseIdx j)) ≤ s := by
  obtain ⟨lo, hlo⟩ := hL.look
  have hll : (c.looksF w bad).length = bad.length := by unfold Cs.looksF; rw [List.length_zipWith, hml]; omega
  have hat : ∀ i, i < bad.length → (c.looksF w bad).getD i 0 = (c.mores w).getD i 0 + bad.getD i 0 := fun i hi => by
    have h1 : i < (c.looksF w bad).length := by omega
    rw [List.getD_eq_getElem?_getD, List.getD_eq_getElem?_getD, List.getD_eq_getElem?_getD, List.getElem?_eq_getElem h1, List.getElem?_eq_getElem (show i < (c.mores w).length by omega), List.getElem?_eq_getElem hi]
    simp [Cs.looksF]
  have hsub : ((numsF 0 bad.length).filter fun x => contB ch x).Sublist (numsF 0 bad.length) := List.filter_sublist
  have hp0 : wrongP s (withoutF (c.looksF w bad) ((numsF 0 bad.length).filter fun x => contB ch x)) = true := by
    unfold wrongP
    refine decide_eq_true (spread_le (lo := lo) (by omega) fun x hx => ?_)
    obtain ⟨i, hi, hni, rfl⟩ := without_mem hx
    rw [hll] at hi
    have hnc : (i : Int) ∉ ch := fun h => hni (List.mem_filter.2 ⟨nums_mem.2 (by omega), contB_iff.2 h⟩)
    rw [hat i hi, hc.same i hi hnc]
    have := hlo i (by rw [← hc.len]; exact hi)
    omega
  obtain ⟨b, h1, h2, h3, h4⟩ := fewest_spec (c.looksF w bad) (wrongP s) ⟨_, by rw [hll]; exact hsub, hp0⟩
  rw [hll] at h2 h4
  refine ⟨b, h1, ?_, h2, of_decide_eq_true h3, fun j hj hle => ?_⟩
  · rcases Nat.lt_or_ge ch.length b.length with hlt | hge
    · exfalso
      have hfl := filter_len (numsF 0 bad.length) ch (up_nodup (nums_up _))
      have := h4 _ hsub (by omega)
      rw [hp0] at this; cases this
    · exact hge
  · have := h4 (b.eraseIdx j) ((List.eraseIdx_sublist b j).trans h2) (by rw [List.length_eraseIdx, if_pos hj]; omega)
    unfold wrongP at this
    rw [decide_eq_true hle] at this; cases this
theorem mem_erase {b : List Int} (h : b.Pairwise (· < ·)) {j : Nat} (hj : j < b.length) (x : Int) : contB (b.eraseIdx j) x = (contB b x && !(b.getD j 0 == x)) := by
  rw [Bool.eq_iff_iff, contB_iff, Bool.and_eq_true, contB_iff, List.mem_eraseIdx_iff_getElem]
  have hn := up_nodup h
  rw [List.getD_eq_getElem?_getD, List.getElem?_eq_getElem hj, Option.getD_some]
  constructor
  · rintro ⟨i, hi, hne, rfl⟩
    refine ⟨List.getElem_mem _, ?_⟩
    have : b[j] ≠ b[i] := by
      rcases Nat.lt_or_gt_of_ne hne with h1 | h1
      · have := List.pairwise_iff_getElem.1 h i j (by omega) hj h1; omega
      · have := List.pairwise_iff_getElem.1 h j i hj (by omega) h1; omega
    simpa using this
  · rintro ⟨hm, hne⟩
    obtain ⟨i, hi, rfl⟩ := List.getElem_of_mem hm
    refine ⟨i, hi, fun e => ?_, rfl⟩
    subst e
    simp at hne
end Go.Proofs.YtaekibilldjnmaaGreat
namespace Go.Proofs.YtaekibilldjnmaaGreat
open Go.Proofs

theorem WpV.seqS {P : Program} {r : Option Nat} {N : Nat} {x y : Code} {Q : Exit → Fr → List Nat → Hp → Prop} {fr : Fr} {D : List Nat} {H : Hp} (S : Fr) (hx : WpV P r N x (Vthen (fun fr' D' H' => D' = D ∧ H' = H ∧ Sub S fr') Q) fr D H) (hy : WpV P r N y Q S D H) : WpV P r N (x.seq y) Q fr D H := by
  refine WpV.seq (hx.mono fun e fr' D' H' h => ?_)
  cases e with
  | normal => obtain ⟨rfl, rfl, hs⟩ := h; exact hy.weaken hs
  | _ => exact h
theorem need_le {c : Cs} (hc : c.Fair) {w : List Int} (hw : c.Word w) : c.needF [w] ≤ 340 ∧ (c.closest w).sum ≤ 90 := by
  have h1 := sum_bound (xs := c.closest w) (a := 0) (b := 15) (Cs.closest_le hc w)
  have h2 := sum_bound (xs := w.map c.widthOf) (a := 0) (b := 30) (fun y hy => by
    obtain ⟨x, hx, rfl⟩ := List.mem_map.1 hy; exact Cs.width_le hc.ws (hw.2.2 x hx))
  have h3 := hc.rim
  have h4 := hw.2.1
  rw [Cs.closest_len] at h1
  rw [List.length_map] at h2
  rw [Cs.need_one]
  unfold Cs.need1 Cs.longF
  omega
theorem need_pos {c : Cs} (hc : c.Valid) {w : List Int} (hw : c.Word w) : 1 ≤ c.needF [w] := by
  have hF := hc.fair
  have hBs := Cs.base_iff.1 hc.base
  have h1 := sum_bound (xs := c.closest w) (a := 0) (b := 15) (Cs.closest_le hF w)
  have h2 : 1 * ((w.map c.widthOf).length : Int) ≤ (w.map c.widthOf).sum := (sum_bound (xs := w.map c.widthOf) (a := 1) (b := 30) (fun y hy => by
    obtain ⟨x, hx, rfl⟩ := List.mem_map.1 hy
    have hxl := hw.2.2 x hx
    have hto : x.toNat < c.ws.length := by omega
    have : c.widthOf x = c.ws[x.toNat] := by simp [Cs.widthOf, List.getD_eq_getElem?_getD, hto]
    rw [this]
    exact hBs.ws _ (List.getElem_mem _))).1
  have h3 := hF.rim
  have h4 := hw.1
  rw [Cs.closest_len] at h1
  rw [List.length_map] at h2
  rw [Cs.need_one]
  unfold Cs.need1 Cs.longF
  omega
end Go.Proofs.YtaekibilldjnmaaGreat
namespace Go.Proofs.YtaekibilldjnmaaGreat
open Go.Proofs

/-- The sum of the first ones. -/
def pre (k : Nat) (l : List Int) : Int := (l.take k).sum
theorem pre_succ : ∀ (k : Nat) (l : List Int), pre (k + 1) l = pre k l + l.getD k 0
  | 0, [] => rfl
  | 0, x :: l => by simp [pre]
  | k + 1, [] => by simp [pre]
  | k + 1, x :: l => by
    have := pre_succ k l
    unfold pre at *
    simp only [List.take_succ_cons, List.sum_cons, List.getD_cons_succ]
    rw [this]; omega
theorem pre_zero (l : List Int) : pre 0 l = 0 := by simp [pre]
theorem pre_len (l : List Int) : pre l.length l = l.sum := by simp [pre]
theorem pre_congr : ∀ (k : Nat) (a b : List Int), (∀ i, i < k → a.getD i 0 = b.getD i 0) → pre k a = pre k b
  | 0, a, b, _ => by simp [pre]
  | k + 1, a, b, h => by rw [pre_succ, pre_succ, pre_congr k a b (fun i hi => h i (by omega)), h k (by omega)]
theorem pre_le : ∀ (k : Nat) (a b : List Int), (∀ i, i < k → a.getD i 0 ≤ b.getD i 0) → pre k a ≤ pre k b
  | 0, a, b, _ => by simp [pre]
  | k + 1, a, b, h => by
    rw [pre_succ, pre_succ]
    have := pre_le k a b (fun i hi => h i (by omega))
    have := h k (by omega)
    omega
/-- Filling leaves as much as it can for the last ones. -/
theorem fill_best {ms o : List Int} {hi : Int} : ∀ (k : Nat) (g : List Int) (r : Int), k ≤ g.length → 0 ≤ r → (∀ i, i < k → g.getD i 0 ≤ o.getD i 0) → (∀ i, i < k → o.getD i 0 + ms.getD i 0 ≤ hi) → pre k g + r ≤ pre k o →
    ∃ g', fillF ms hi k g r = some (g', 0) ∧ pre k g' = pre k g + r ∧ (∀ i, k ≤ i → g'.getD i 0 = g.getD i 0) ∧ ∀ j, j ≤ k → pre j g' ≤ pre j o
  | 0, g, r, _, hr, _, _, hp => by
    rw [pre_zero, pre_zero] at hp
    have : r = 0 := by omega
    subst this
    exact ⟨g, rfl, by simp [pre], fun _ _ => rfl, fun j hj => by rw [Nat.le_zero.1 hj, pre_zero, pre_zero]; exact Int.le_refl _⟩
  | k + 1, g, r, hk, hr, hg, ho, hp => by
    rw [pre_succ, pre_succ] at hp
    have g1 := hg k (by omega)
    have o1 := ho k (by omega)
    have hle := pre_le k g o (fun i hi => hg i (by omega))
    have hx : fillX ms g hi r k ≤ r ∧ 0 ≤ fillX ms g hi r k ∧ (fillX ms g hi r k = r ∨ fillX ms g hi r k = hi - ms.getD k 0 - g.getD k 0) := by unfold fillX; split <;> omega
    rw [fillF]
    generalize fillX ms g hi r k = x at hx
    rw [if_neg (by omega)]
    have hset : ∀ i, i ≠ k → (g.set k (g.getD k 0 + x)).getD i 0 = g.getD i 0 := fun i hne => by rw [getD_set (by omega), if_neg hne]
    have hpc := pre_congr k (g.set k (g.getD k 0 + x)) g (fun i hi => hset i (by omega))
    obtain ⟨g', e1, e2, e3, e4⟩ := fill_best (ms := ms) (o := o) (hi := hi) k (g.set k (g.getD k 0 + x)) (r - x) (by simp; omega) (by omega)
      (fun i hi' => by rw [hset i (by omega)]; exact hg i (by omega)) (fun i hi' => ho i (by omega)) (by rw [hpc]; omega)
    have hk' := e3 k (Nat.le_refl _)
    rw [getD_set (by omega), if_pos rfl] at hk'
    have hpk : pre (k + 1) g' = pre (k + 1) g + r := by rw [pre_succ, pre_succ, e2, hpc, hk']; omega
    refine ⟨g', e1, hpk, fun i hi' => by rw [e3 i (by omega), hset i (by omega)], fun j hj => ?_⟩
    by_cases e : j = k + 1
    · subst e; rw [hpk, pre_succ, pre_succ]; omega
    · exact e4 j (by omega)

/-- No greater, by the first place that differs. -/
def leL : List Int → List Int → Bool
  | [], _ => true
  | _ :: _, [] => false
  | a :: x, b :: y => decide (a < b) || (decide (a = b) && leL x y)
theorem leL_refl : ∀ a, leL a a = true
  | [] => rfl
  | a :: x => by simp [leL, leL_refl x]
theorem leL_trans : ∀ a b c, leL a b = true → leL b c = true → leL a c = true
  | [], _, _, _, _ => by simp [leL]
  | _ :: _, [], _, h, _ => by simp [leL] at h
  | _ :: _, _ :: _, [], _, h => by simp [leL] at h
  | a :: x, b :: y, c :: z, h1, h2 => by
    have ih := leL_trans x y z
    simp only [leL, Bool.or_eq_true, Bool.and_eq_true, decide_eq_true_eq] at *
    rcases h1 with h1 | ⟨h1, h1'⟩ <;> rcases h2 with h2 | ⟨h2, h2'⟩
    · exact .inl (by omega)
    · exact .inl (by omega)
    · exact .inl (by omega)
    · exact .inr ⟨by omega, ih h1' h2'⟩
theorem leL_of_compare : ∀ a b : List Int, (¬ compareF a b < 0 → leL b a = true) ∧ (compareF a b < 0 → leL a b = true)
  | [], [] => ⟨fun _ => rfl, fun _ => rfl⟩
  | [], _ :: _ => ⟨fun h => by simp [compareF] at h, fun _ => rfl⟩
  | _ :: _, [] => ⟨fun _ => rfl, fun h => by simp [compareF] at h⟩
  | x :: a, y :: b => by
    have ih := leL_of_compare a b
    simp only [compareF, leL, Bool.or_eq_true, Bool.and_eq_true, decide_eq_true_eq]
    by_cases e : x = y
    · subst e
      have : (cmpI x x == 0) = true := by unfold cmpI; simp
      rw [this]
      simp only [if_true]
      exact ⟨fun h => .inr ⟨by trivial, ih.1 h⟩, fun h => .inr ⟨by trivial, ih.2 h⟩⟩
    · by_cases h : x < y
      · have h0 : cmpI x y = -1 := by unfold cmpI; simp [h]
        rw [h0]
        exact ⟨fun h' => by simp at h', fun _ => .inl h⟩
      · have h0 : cmpI x y = 1 := by unfold cmpI; simp [h]; omega
        rw [h0]
        exact ⟨fun _ => .inl (by omega), fun h' => by simp at h'⟩
/-- Whose first sums are no greater, is no greater. -/
theorem leL_pre : ∀ (a b : List Int), a.length = b.length → (∀ j, j ≤ a.length → pre j a ≤ pre j b) → leL a b = true
  | [], _, _, _ => by simp [leL]
  | _ :: _, [], h, _ => by simp at h
  | x :: a, y :: b, hl, h => by
    simp only [leL, Bool.or_eq_true, Bool.and_eq_true, decide_eq_true_eq]
    have h1 := h 1 (by simp)
    have h1' : x ≤ y := by simpa [pre] using h1
    by_cases e : x < y
    · exact .inl e
    · have he : x = y := by omega
      subst he
      refine .inr ⟨rfl, leL_pre a b (by simpa using hl) fun j hj => ?_⟩
      have := h (j + 1) (by simpa using hj)
      unfold pre at this ⊢
      simp only [List.take_succ_cons, List.sum_cons] at this
      omega

/-- Gaps that fill the room, none closer than it may be. -/
structure FillsB (c : Cs) (w : List Int) (room : Int) (o : List Int) : Prop where
  len : o.length = w.length - 1
  ge : ∀ i, i < o.length → (c.closest w).getD i 0 ≤ o.getD i 0
  sum : o.sum = room
/-- Their looks lie in a span. -/
def Alike (c : Cs) (w : List Int) (s : Int) (o : List Int) : Prop := ∀ i j, i < o.length → j < o.length → (o.getD i 0 + (c.mores w).getD i 0) - (o.getD j 0 + (c.mores w).getD j 0) ≤ s

theorem least_look (c : Cs) (w o : List Int) : ∀ n, 0 < n → ∃ k, k < n ∧ ∀ i, i < n → o.getD k 0 + (c.mores w).getD k 0 ≤ o.getD i 0 + (c.mores w).getD i 0
  | 0, h => absurd h (Nat.lt_irrefl _)
  | 1, _ => ⟨0, by omega, fun i hi => by rw [show i = 0 by omega]; exact Int.le_refl _⟩
  | n + 2, _ => by
    obtain ⟨k, hk, h⟩ := least_look c w o (n + 1) (by omega)
    by_cases e : o.getD k 0 + (c.mores w).getD k 0 ≤ o.getD (n + 1) 0 + (c.mores w).getD (n + 1) 0
    · exact ⟨k, by omega, fun i hi => by
        by_cases e2 : i = n + 1
        · subst e2; exact e
        · exact h i (by omega)⟩
    · exact ⟨n + 1, by omega, fun i hi => by
        by_cases e2 : i = n + 1
        · subst e2; exact Int.le_refl _
        · have := h i (by omega); omega⟩
/-- For gaps that fill the room and look alike, some low look gives gaps that are no greater. -/
theorem between_best {c : Cs} (hc : c.Fair) {w : List Int} (h2 : 2 ≤ w.length) {s : Nat} {room : Int} {o : List Int} (hf : FillsB c w room o) (ha : Alike c w s o) :
    ∃ (lo : Nat) (g : List Int), (lo : Int) < room + 6 ∧ c.betweenF w lo ((lo : Int) + (s : Int)) room = some (g, 0) ∧ leL g o = true := by
  have hol := hf.len
  have hcl := Cs.closest_len c w
  have hml : (c.mores w).length = w.length - 1 := Cs.moreN_len c w _
  have hcge : ∀ i, i < w.length - 1 → 0 ≤ (c.closest w).getD i 0 := fun i hi => (Cs.closest_le hc w _ (getD_mem (by omega))).1
  have hge : ∀ i, i < o.length → 0 ≤ o.getD i 0 := fun i hi => by have := hf.ge i hi; have := hcge i (by omega); omega
  obtain ⟨-, hs⟩ := getD_le_sum o hge
  have hlook : ∀ i, i < o.length → 0 ≤ o.getD i 0 + (c.mores w).getD i 0 ∧ o.getD i 0 + (c.mores w).getD i 0 ≤ room + 5 := fun i hi => by
    have a := hf.ge i hi
    have b := Cs.mores_le hc w (w.length - 1) _ (getD_mem (xs := c.mores w) (k := i) (by omega))
    have d := hs i hi
    rw [hf.sum] at d
    have l0 := hc.least
    rw [Cs.close_at c w (by omega)] at a
    unfold Cs.close at a
    constructor
    · split at a <;> omega
    · omega
  obtain ⟨k, hk, hmin⟩ := least_look c w o o.length (by omega)
  have hkl := hlook k hk
  refine ⟨(o.getD k 0 + (c.mores w).getD k 0).toNat, ?_⟩
  have hlo : (((o.getD k 0 + (c.mores w).getD k 0).toNat : Nat) : Int) = o.getD k 0 + (c.mores w).getD k 0 := by omega
  generalize (o.getD k 0 + (c.mores w).getD k 0).toNat = lo at hlo
  have hop : ∀ i, i < w.length - 1 → (c.openF w lo).getD i 0 ≤ o.getD i 0 := fun i hi => by
    rw [Cs.open_at c w lo hi]
    have a := hf.ge i (by omega)
    have b := hmin i (by omega)
    unfold Cs.open1
    split <;> omega
  have hpo := pre_le (w.length - 1) _ _ hop
  have hpl := pre_len (c.openF w lo)
  rw [Cs.openF_len] at hpl
  have hpo2 := pre_len o
  rw [hol, hf.sum] at hpo2
  obtain ⟨g, e1, e2, e3, e4⟩ := fill_best (ms := c.mores w) (o := o) (hi := (lo : Int) + (s : Int)) (w.length - 1) (c.openF w lo) (room - (c.openF w lo).sum) (by rw [Cs.openF_len]; exact Nat.le_refl _) (by omega) hop
    (fun i hi => by have := ha i k (by omega) hk; omega) (by omega)
  have hgl := Cs.between_len (c := c) (w := w) e1
  exact ⟨g, by omega, e1, leL_pre g o (by omega) (fun j hj => e4 j (by omega))⟩
/-- The list that is found is no greater than any that was seen. -/
theorem alike_least {c : Cs} {w : List Int} {s room : Int} : ∀ (k lo : Nat) (g : List Int), lo < k → c.betweenF w lo ((lo : Int) + s) room = some (g, 0) → ∃ b, c.alikeN w s room k = some b ∧ leL b g = true
  | 0, lo, g, h, _ => absurd h (Nat.not_lt_zero _)
  | k + 1, lo, g, h, hb => by
    rw [Cs.alikeN_succ]
    unfold Cs.alikeStep
    by_cases e : lo = k
    · subst e
      rw [hb]
      simp only [beq_self_eq_true, if_true]
      split
      · exact ⟨g, rfl, leL_refl g⟩
      · rename_i b _
        obtain ⟨h1, h2⟩ := leL_of_compare g b
        by_cases hc : compareF g b < 0
        · rw [if_pos hc]; exact ⟨g, rfl, leL_refl g⟩
        · rw [if_neg hc]; exact ⟨b, rfl, h1 hc⟩
    · obtain ⟨b, hb1, hb2⟩ := alike_least k lo g (by omega) hb
      rw [hb1]
      split
      · exact ⟨b, rfl, hb2⟩
      · rename_i g2 r _
        split
        · simp only
          obtain ⟨h1, h2⟩ := leL_of_compare g2 b
          by_cases hc : compareF g2 b < 0
          · rw [if_pos hc]; exact ⟨g2, rfl, leL_trans _ _ _ (h2 hc) hb2⟩
          · rw [if_neg hc]; exact ⟨b, rfl, hb2⟩
        · exact ⟨b, rfl, hb2⟩
theorem alike_best {c : Cs} (hc : c.Fair) {w : List Int} (h2 : 2 ≤ w.length) {s : Nat} {room : Int} {o : List Int} (hf : FillsB c w room o) (ha : Alike c w s o) : ∃ b, c.alikeN w s room (room + 6).toNat = some b ∧ leL b o = true := by
  obtain ⟨lo, g, h1, h3, h4⟩ := between_best hc h2 hf ha
  obtain ⟨b, h5, h6⟩ := alike_least (room + 6).toNat lo g (by omega) h3
  exact ⟨b, h5, leL_trans _ _ _ h6 h4⟩
theorem between_fills {c : Cs} (hc : c.Fair) {w : List Int} {lo : Nat} {hi room : Int} {g : List Int} (h : c.betweenF w lo hi room = some (g, 0)) : FillsB c w room g := by
  have hl := Cs.between_len h
  have hol := Cs.openF_len c w lo
  unfold Cs.betweenF at h
  obtain ⟨h1, h2⟩ := fill_in _ _ _ _ _ (by rw [hol]; exact Nat.le_refl _) h
  refine ⟨hl, fun i hi => ?_, by omega⟩
  have a := (h2 i (by omega)).1
  rw [Cs.open_at c w lo (by omega)] at a
  unfold Cs.open1 at a
  split at a <;> omega
theorem alike_fills {c : Cs} (hc : c.Fair) {w : List Int} {s room : Int} : ∀ (k : Nat) (g : List Int), c.alikeN w s room k = some g → FillsB c w room g
  | 0, g, h => by cases h
  | k + 1, g, h => by
    rw [Cs.alikeN_succ] at h
    have ih := alike_fills hc (w := w) (s := s) (room := room) k
    unfold Cs.alikeStep at h
    split at h
    · exact ih g h
    · rename_i g2 r hb
      split at h
      · rename_i hr0
        have hr0' : r = 0 := by simpa using hr0
        subst hr0'
        split at h
        · cases h; exact between_fills hc hb
        · rename_i b' hst
          split at h
          · cases h; exact between_fills hc hb
          · cases h; exact ih _ hst
      · exact ih g h
/-- Laid gaps are the best ones. -/
theorem lay_best {c : Cs} (hc : c.Fair) {w : List Int} (hw : c.Word w) (h2 : 2 ≤ w.length) {n : Int} (hn : 1 ≤ n ∧ n ≤ 400) (hgo : c.needF [w] ≤ n) {g : List Int} {s : Nat} (h : c.layF w n = some (g, s)) :
    FillsB c w (c.roomF w n) g ∧ Alike c w s g ∧ (∀ o s', FillsB c w (c.roomF w n) o → Alike c w s' o → 0 ≤ s' → (s : Int) ≤ s') ∧ ∀ o, FillsB c w (c.roomF w n) o → Alike c w s o → leL g o = true := by
  have hrm := Cs.room_le hc hw hn hgo
  obtain ⟨g2, s2, e, hsl, hla⟩ := lay_laid hc hw h2 hn hgo
  rw [h] at e
  cases e
  unfold Cs.layF at h
  rw [if_neg (by omega)] at h
  generalize c.roomF w n = room at *
  rw [List.findSome?_eq_some_iff] at h
  obtain ⟨l1, a, l2, hl, hm, hno⟩ := h
  rw [Option.map_eq_some_iff] at hm
  obtain ⟨g', hg', he⟩ := hm
  cases he
  have hfill := alike_fills hc _ _ hg'
  have hlt : ∀ t, t < s → t ∈ l1 := fun t ht => by
    have h1 : l1 = List.range s := by
      have hl1 : l1.length = s := by
        have hh : (List.range (room + 6).toNat)[l1.length]? = some s := by rw [hl]; simp
        rw [List.getElem?_eq_some_iff] at hh
        obtain ⟨hh, hh2⟩ := hh
        rw [List.getElem_range] at hh2; exact hh2
      have : l1 = (List.range (room + 6).toNat).take l1.length := by rw [hl]; simp
      rw [this, List.take_range, hl1]
      congr 1
      omega
    rw [h1]; exact List.mem_range.2 ht
  obtain ⟨lo, hlk⟩ := hla.look
  refine ⟨hfill, fun i j hi hj => by have := hlk i hi; have := hlk j hj; omega, fun o s' ho hao h0 => ?_, fun o ho hao => ?_⟩
  · by_cases hh : (s : Int) ≤ s'
    · exact hh
    · exfalso
      have hn' := hno s'.toNat (hlt _ (by omega))
      rw [Option.map_eq_none_iff] at hn'
      obtain ⟨b, hb, -⟩ := alike_best hc h2 (s := s'.toNat) ho (by rw [show ((s'.toNat : Nat) : Int) = s' by omega]; exact hao)
      rw [hn'] at hb; cases hb
  · obtain ⟨b, hb, hle⟩ := alike_best hc h2 ho hao
    rw [hg'] at hb; cases hb; exact hle
end Go.Proofs.YtaekibilldjnmaaGreat
namespace Go.Proofs.YtaekibilldjnmaaGreat
open Go.Proofs

def lessF : List Int → List Int → Bool
  | [], _ => false
  | _ :: _, [] => false
  | x :: a, y :: b => if (x != y) = true then decide (x < y) else lessF a b
theorem less_no : ∀ a b : List Int, leL b a = true → lessF a b = false
  | [], _, _ => rfl
  | _ :: _, [], _ => rfl
  | x :: a, y :: b, h => by
    have ih := less_no a b
    simp only [leL, Bool.or_eq_true, Bool.and_eq_true, decide_eq_true_eq] at h
    unfold lessF
    split
    · rename_i hne
      have : x ≠ y := by simpa using hne
      rcases h with h | h
      · exact decide_eq_false (by omega)
      · omega
    · rename_i hne
      have : x = y := by simpa using hne
      rcases h with h | h
      · omega
      · exact ih h.2

set_option maxHeartbeats 4000000 in
theorem less_any (H : Hp) (nl clip nl2 clip2 : Bool) (a b : List Int) (ha : a.length ≤ 1000) (hab : a.length = b.length) :
    CallV Tryz.prog 18 [vints nl clip a, vints nl2 clip2 b] H (fun r H' => r = .bool (lessF a b) ∧ H' = H) := by
  refine CallV.body Tryz.func18 rfl Tryz.ntmps18 (by rfl) ?_
  refine WpV.seq (WpV.regionE (by simp only [go_sem, reduceCtorEq, Nat.reduceAdd, Nat.reduceMul, Nat.reduceSub, Nat.reduceLT, Nat.reduceLeDiff, Nat.reduceEqDiff, Nat.reduceBEq, Nat.reducePow]; rfl) (Marks.nil _) ?_)
  simp only [Vthen, VinBlock, if_true, if_false, Nat.reduceEqDiff, reduceCtorEq]
  refine WpV.seq ?_
  refine WpV.seq (WpV.regionE (by simp only [go_sem, reduceCtorEq, Nat.reduceAdd, Nat.reduceMul, Nat.reduceSub, Nat.reduceLT, Nat.reduceLeDiff, Nat.reduceEqDiff, Nat.reduceBEq, Nat.reducePow]; rfl) (Marks.nil _) ?_)
  simp only [Vthen, VinBlock, if_true, if_false, Nat.reduceEqDiff, reduceCtorEq]
  refine WpV.block (WpV.loopP a.length (fun k => lessF a b = lessF (a.drop k) (b.drop k)) (fun k => [(0, vints nl clip a), (1, vints nl2 clip2 b), (5, vint k)]) (fun _ => H) rfl ?_ rfl ?_)
  · exact .cons rfl rfl (.cons rfl rfl (.cons rfl rfl (.nil _)))
  · rintro k hk hcf
    refine WpV.seq ?_
    by_cases hlt' : k < a.length
    · have hlt : (k : Int) < (a.length : Int) := by omega
      have hltb' : k < b.length := by omega
      have hltb : (k : Int) < (b.length : Int) := by omega
      have hga := ints_get a hlt'
      have hgb := ints_get b hltb'
      rw [List.drop_eq_getElem_cons hlt', List.drop_eq_getElem_cons hltb'] at hcf
      have hnk : IntKind.i64.wrap ((k : Int) + 1) = ((k + 1 : Nat) : Int) := by rw [wrap64 (by omega)]; rfl
      generalize a[k] = x at hga hcf
      generalize b[k] = y at hgb hcf
      refine WpV.seq (WpV.regionE (by simp only [go_sem, reduceCtorEq, Nat.reduceAdd, Nat.reduceMul, Nat.reduceSub, Nat.reduceLT, Nat.reduceLeDiff, Nat.reduceEqDiff, Nat.reduceBEq, Nat.reducePow, hlt, hltb]; rfl) (Marks.nil _) ?_)
      simp only [Vthen, VinBlock, if_true, if_false, Nat.reduceEqDiff, reduceCtorEq]
      refine WpV.cond rfl (fun hb => WpV.skip ?_) (fun hb => by cases hb)
      simp only [Vthen, VinBlock, if_true, if_false, Nat.reduceEqDiff, reduceCtorEq]
      refine WpV.seq (WpV.block ?_)
      cases hz : (x != y)
      · refine WpV.seq (WpV.regionDE Tryz.mixed (by kernel_rfl) (by kernel_rfl) (by rfl) (by simp only [go_sem, reduceCtorEq, Nat.reduceAdd, Nat.reduceMul, Nat.reduceSub, Nat.reduceLT, Nat.reduceLeDiff, Nat.reduceEqDiff, Nat.reduceBEq, Nat.reducePow, hlt, hltb, hga, hgb, hz]; rfl) (Marks.nil _) ?_)
        simp only [Vthen, VinBlock, if_true, if_false, Nat.reduceEqDiff, reduceCtorEq]
        refine WpV.cond rfl (fun hb => by cases hb) (fun hb => WpV.skip ?_)
        simp only [Vthen, VinBlock, if_true, if_false, Nat.reduceEqDiff, reduceCtorEq]
        refine WpV.regionE (by simp only [go_sem, reduceCtorEq, Nat.reduceAdd, Nat.reduceMul, Nat.reduceSub, Nat.reduceLT, Nat.reduceLeDiff, Nat.reduceEqDiff, Nat.reduceBEq, Nat.reducePow, hnk]; rfl) (Marks.nil _) ?_
        simp only [Vthen, VinBlock, if_true, if_false, Nat.reduceEqDiff, reduceCtorEq]
        exact ⟨by first | rfl | trivial, hlt', (by rw [hcf, lessF, if_neg (by rw [hz]; decide)]), .cons rfl rfl (.cons rfl rfl (.cons rfl rfl (.nil _))), by first | rfl | trivial⟩
      · refine WpV.seq (WpV.regionDE Tryz.mixed (by kernel_rfl) (by kernel_rfl) (by rfl) (by simp only [go_sem, reduceCtorEq, Nat.reduceAdd, Nat.reduceMul, Nat.reduceSub, Nat.reduceLT, Nat.reduceLeDiff, Nat.reduceEqDiff, Nat.reduceBEq, Nat.reducePow, hlt, hltb, hga, hgb, hz]; rfl) (Marks.nil _) ?_)
        simp only [Vthen, VinBlock, if_true, if_false, Nat.reduceEqDiff, reduceCtorEq]
        refine WpV.cond rfl (fun hb => ?_) (fun hb => by cases hb)
        refine WpV.seq (WpV.regionDE Tryz.mixed (by kernel_rfl) (by kernel_rfl) (by rfl) (by simp only [go_sem, reduceCtorEq, Nat.reduceAdd, Nat.reduceMul, Nat.reduceSub, Nat.reduceLT, Nat.reduceLeDiff, Nat.reduceEqDiff, Nat.reduceBEq, Nat.reducePow, hlt, hltb, hga, hgb]; rfl) (Marks.nil _) ?_)
        simp only [Vthen, VinBlock, if_true, if_false, Nat.reduceEqDiff, reduceCtorEq]
        refine WpV.ret ⟨Marks.nil _, List.nodup_nil, _, by simp only [Tryz.results18]; simp only [go_sem, reduceCtorEq, Nat.reduceAdd, Nat.reduceMul, Nat.reduceSub, Nat.reduceLT, Nat.reduceLeDiff, Nat.reduceEqDiff, Nat.reduceBEq, Nat.reducePow]; rfl, ?_⟩
        exact ⟨by rw [hcf, lessF, if_pos hz], rfl⟩
    · have hge : k = a.length := by omega
      subst hge
      have hlt : ¬ ((a.length : Int) < (a.length : Int)) := by omega
      refine WpV.seq (WpV.regionE (by simp only [go_sem, reduceCtorEq, Nat.reduceAdd, Nat.reduceMul, Nat.reduceSub, Nat.reduceLT, Nat.reduceLeDiff, Nat.reduceEqDiff, Nat.reduceBEq, Nat.reducePow, hlt]; rfl) (Marks.nil _) ?_)
      simp only [Vthen, VinBlock, if_true, if_false, Nat.reduceEqDiff, reduceCtorEq]
      refine WpV.cond rfl (fun hb => by cases hb) (fun hb => WpV.exit ?_)
      simp only [Vthen, VinBlock, if_true, if_false, Nat.reduceEqDiff, reduceCtorEq]
      refine WpV.seq (WpV.regionE (by simp only [go_sem, reduceCtorEq, Nat.reduceAdd, Nat.reduceMul, Nat.reduceSub, Nat.reduceLT, Nat.reduceLeDiff, Nat.reduceEqDiff, Nat.reduceBEq, Nat.reducePow]; rfl) (Marks.nil _) ?_)
      simp only [Vthen, VinBlock, if_true, if_false, Nat.reduceEqDiff, reduceCtorEq]
      refine WpV.ret ⟨Marks.nil _, List.nodup_nil, _, by simp only [Tryz.results18]; simp only [go_sem, reduceCtorEq, Nat.reduceAdd, Nat.reduceMul, Nat.reduceSub, Nat.reduceLT, Nat.reduceLeDiff, Nat.reduceEqDiff, Nat.reduceBEq, Nat.reducePow]; rfl, ?_⟩
      exact ⟨by rw [hcf, List.drop_length]; rfl, rfl⟩

def mxI (a b : Int) : Int := if a < b then b else a
def wideI (lk : Nat → Int) (i m : Nat) (n : Int) : Int := (List.range m).foldl (fun n k => mxI n (lk i - lk k)) n
def wideN (lk : Nat → Int) (m i : Nat) : Int := (List.range i).foldl (fun n i => wideI lk i m n) 0
theorem wideI_succ (lk : Nat → Int) (i m : Nat) (n : Int) : wideI lk i (m + 1) n = mxI (wideI lk i m n) (lk i - lk m) := by
  unfold wideI; rw [List.range_succ, List.foldl_append]; rfl
theorem wideN_succ (lk : Nat → Int) (m i : Nat) : wideN lk m (i + 1) = wideI lk i m (wideN lk m i) := by
  unfold wideN; rw [List.range_succ, List.foldl_append]; rfl
theorem wideI_spec (lk : Nat → Int) (i : Nat) (n : Int) : ∀ m, n ≤ wideI lk i m n ∧ (∀ k, k < m → lk i - lk k ≤ wideI lk i m n) ∧ (wideI lk i m n = n ∨ ∃ k, k < m ∧ wideI lk i m n = lk i - lk k)
  | 0 => ⟨Int.le_refl _, fun k hk => absurd hk (Nat.not_lt_zero _), .inl rfl⟩
  | m + 1 => by
    obtain ⟨h1, h2, h3⟩ := wideI_spec lk i n m
    rw [wideI_succ]
    generalize wideI lk i m n = x at *
    have hx : x ≤ mxI x (lk i - lk m) ∧ lk i - lk m ≤ mxI x (lk i - lk m) ∧ (mxI x (lk i - lk m) = x ∨ mxI x (lk i - lk m) = lk i - lk m) := by unfold mxI; split <;> omega
    refine ⟨by omega, fun k hk => ?_, ?_⟩
    · by_cases e : k = m
      · subst e; exact hx.2.1
      · have := h2 k (by omega); omega
    · rcases hx.2.2 with e | e
      · rw [e]
        rcases h3 with h3 | ⟨k, hk, h3⟩
        · exact .inl h3
        · exact .inr ⟨k, by omega, h3⟩
      · exact .inr ⟨m, by omega, e⟩
theorem wideN_spec (lk : Nat → Int) (m : Nat) : ∀ i, 0 ≤ wideN lk m i ∧ (∀ j k, j < i → k < m → lk j - lk k ≤ wideN lk m i) ∧ (wideN lk m i = 0 ∨ ∃ j k, j < i ∧ k < m ∧ wideN lk m i = lk j - lk k)
  | 0 => ⟨Int.le_refl _, fun j k hj => absurd hj (Nat.not_lt_zero _), .inl rfl⟩
  | i + 1 => by
    obtain ⟨h1, h2, h3⟩ := wideN_spec lk m i
    rw [wideN_succ]
    obtain ⟨a1, a2, a3⟩ := wideI_spec lk i (wideN lk m i) m
    generalize wideI lk i m (wideN lk m i) = x at *
    refine ⟨by omega, fun j k hj hk => ?_, ?_⟩
    · by_cases e : j = i
      · subst e; exact a2 k hk
      · have := h2 j k (by omega) hk; omega
    · rcases a3 with a3 | ⟨k, hk, a3⟩
      · rw [a3]
        rcases h3 with h3 | ⟨j, k, hj, hk, h3⟩
        · exact .inl h3
        · exact .inr ⟨j, k, by omega, hk, h3⟩
      · exact .inr ⟨i, k, by omega, hk, a3⟩
def Cs.lookN (c : Cs) (w gs : List Int) (i : Nat) : Int := gs.getD i 0 + (c.mores w).getD i 0
def Cs.wideF (c : Cs) (w gs : List Int) : Int := wideN (c.lookN w gs) gs.length gs.length

set_option maxHeartbeats 4000000 in
theorem wide_any (H : Hp) (c : Cs) (hc : c.Valid) (nl clip nl2 clip2 : Bool) (w gs : List Int) (hw : c.Word w) (hgl : gs.length = w.length - 1) (hgs : ∀ x ∈ gs, 0 ≤ x ∧ x ≤ 1000) :
    CallV Tryz.prog 15 [.agg c.cells, vints nl clip w, vints nl2 clip2 gs] H (fun r H' => r = vint (c.wideF w gs) ∧ H' = H) := by
  have hwl := hw.2.1
  have hmo := Cs.mores_le hc.fair w (w.length - 1)
  have hml := Cs.moreN_len c w (w.length - 1)
  have hlk : ∀ i, i < gs.length → CallV Tryz.prog 20 [.agg c.cells, vints nl clip w, vint i, vint (gs.getD i 0)] H (fun r H' => r = vint (c.lookN w gs i) ∧ H' = H) := fun i hi =>
    look_any H c hc nl clip w hw i (by omega) _ (by have := hgs _ (getD_mem (xs := gs) hi); omega)
  have hbd : ∀ i, i < gs.length → -10 ≤ c.lookN w gs i ∧ c.lookN w gs i ≤ 1010 := fun i hi => by
    have := hgs _ (getD_mem (xs := gs) hi)
    have := hmo _ (getD_mem (xs := c.mores w) (k := i) (by rw [hml]; omega))
    unfold Cs.lookN; omega
  have hgt : ∀ i, i < gs.length → (gs.map vint)[i]? = some (vint (gs.getD i 0)) := fun i hi => int_at' hi
  unfold Cs.wideF
  generalize c.lookN w gs = lk at hlk hbd ⊢
  have hm7 : gs.length ≤ 6 := by omega
  generalize hM : gs.length = M at *
  refine CallV.body Tryz.func15 rfl Tryz.ntmps15 (by rfl) ?_
  refine WpV.seq (WpV.regionE (by simp only [go_sem, reduceCtorEq, Nat.reduceAdd, Nat.reduceMul, Nat.reduceSub, Nat.reduceLT, Nat.reduceLeDiff, Nat.reduceEqDiff, Nat.reduceBEq, Nat.reducePow]; rfl) (Marks.nil _) ?_)
  simp only [Vthen, VinBlock, if_true, if_false, Nat.reduceEqDiff, reduceCtorEq]
  refine WpV.seq (WpV.regionE (by simp only [go_sem, reduceCtorEq, Nat.reduceAdd, Nat.reduceMul, Nat.reduceSub, Nat.reduceLT, Nat.reduceLeDiff, Nat.reduceEqDiff, Nat.reduceBEq, Nat.reducePow]; rfl) (Marks.nil _) ?_)
  simp only [Vthen, VinBlock, if_true, if_false, Nat.reduceEqDiff, reduceCtorEq]
  refine WpV.seq ?_
  refine WpV.seq (WpV.regionE (by simp only [go_sem, reduceCtorEq, Nat.reduceAdd, Nat.reduceMul, Nat.reduceSub, Nat.reduceLT, Nat.reduceLeDiff, Nat.reduceEqDiff, Nat.reduceBEq, Nat.reducePow]; rfl) (Marks.nil _) ?_)
  simp only [Vthen, VinBlock, if_true, if_false, Nat.reduceEqDiff, reduceCtorEq]
  refine WpV.block (WpV.loopN M (fun i => [(1, vints nl clip w), (2, vints nl2 clip2 gs), (3, .cp c.cells 0), (7, vint (wideN lk M i)), (8, vint i)]) (fun _ => H) ?_ rfl ?_)
  · exact .cons rfl rfl (.cons rfl rfl (.cons rfl rfl (.cons rfl rfl (.cons rfl rfl (.nil _)))))
  · intro i hi
    refine WpV.seq ?_
    refine WpV.seq (WpV.regionE (by simp only [go_sem, reduceCtorEq, Nat.reduceAdd, Nat.reduceMul, Nat.reduceSub, Nat.reduceLT, Nat.reduceLeDiff, Nat.reduceEqDiff, Nat.reduceBEq, Nat.reducePow, hM]; rfl) (Marks.nil _) ?_)
    simp only [Vthen, VinBlock, if_true, if_false, Nat.reduceEqDiff, reduceCtorEq]
    refine WpV.cond rfl (fun hb => WpV.skip ?_) (fun hb => WpV.exit ?_)
    · have hlt : (i : Int) < (M : Int) := of_decide_eq_true ‹_›
      have hlt' : i < M := by omega
      have hni : IntKind.i64.wrap ((i : Int) + 1) = ((i + 1 : Nat) : Int) := by rw [wrap64 (by omega)]; rfl
      have hsi := wideN_succ lk M i
      have hgi := hgt i hlt'
      have hli := hlk i hlt'
      have hbi := hbd i hlt'
      generalize wideN lk M i = n0 at hsi ⊢
      simp only [Vthen, VinBlock, if_true, if_false, Nat.reduceEqDiff, reduceCtorEq]
      refine WpV.seq (WpV.block ?_)
      refine WpV.seq (WpV.regionE (by simp only [go_sem, reduceCtorEq, Nat.reduceAdd, Nat.reduceMul, Nat.reduceSub, Nat.reduceLT, Nat.reduceLeDiff, Nat.reduceEqDiff, Nat.reduceBEq, Nat.reducePow]; rfl) (Marks.nil _) ?_)
      simp only [Vthen, VinBlock, if_true, if_false, Nat.reduceEqDiff, reduceCtorEq]
      refine WpV.block (WpV.loopN M (fun k => [(1, vints nl clip w), (2, vints nl2 clip2 gs), (3, .cp c.cells 0), (7, vint (wideI lk i k n0)), (8, vint i), (9, vint k)]) (fun _ => H) ?_ rfl ?_)
      · exact .cons rfl rfl (.cons rfl rfl (.cons rfl rfl (.cons rfl rfl (.cons rfl rfl (.cons rfl rfl (.nil _))))))
      · intro k hk
        refine WpV.seq ?_
        refine WpV.seq (WpV.regionE (by simp only [go_sem, reduceCtorEq, Nat.reduceAdd, Nat.reduceMul, Nat.reduceSub, Nat.reduceLT, Nat.reduceLeDiff, Nat.reduceEqDiff, Nat.reduceBEq, Nat.reducePow, hM]; rfl) (Marks.nil _) ?_)
        simp only [Vthen, VinBlock, if_true, if_false, Nat.reduceEqDiff, reduceCtorEq]
        refine WpV.cond rfl (fun hb => WpV.skip ?_) (fun hb => WpV.exit ?_)
        · have hltk : (k : Int) < (M : Int) := of_decide_eq_true ‹_›
          have hltk' : k < M := by omega
          have hnk : IntKind.i64.wrap ((k : Int) + 1) = ((k + 1 : Nat) : Int) := by rw [wrap64 (by omega)]; rfl
          have hsk := wideI_succ lk i k n0
          have hgk := hgt k hltk'
          have hlk2 := hlk k hltk'
          have hbk := hbd k hltk'
          have hwr : IntKind.i64.wrap (lk i - lk k) = lk i - lk k := wrap64 (by omega)
          generalize wideI lk i k n0 = n1 at hsk ⊢
          generalize gs.getD i 0 = gi at hgi hli
          generalize gs.getD k 0 = gk at hgk hlk2
          simp only [Vthen, VinBlock, if_true, if_false, Nat.reduceEqDiff, reduceCtorEq]
          refine WpV.seq (WpV.block ?_)
          refine WpV.regionTN 19 Tryz.mixed (by kernel_rfl) (by kernel_rfl) (by kernel_rfl) ?_
          refine LexD.take 8 (by rfl) (by simp only [go_sem, reduceCtorEq, Nat.reduceAdd, Nat.reduceMul, Nat.reduceSub, Nat.reduceLT, Nat.reduceLeDiff, Nat.reduceEqDiff, Nat.reduceBEq, Nat.reducePow, hM, hlt, hltk, hgi, hgk, hwr]; rfl) ?_
          refine LexD.step (by rfl) (by rfl) (OpW.callY rfl (by rfl) (by rfl) (by rfl) (enters_of Tryz.func20 (by kernel_rfl) rfl) (hli)) ?_
          refine LexD.take 7 (by rfl) (by simp only [go_sem, reduceCtorEq, Nat.reduceAdd, Nat.reduceMul, Nat.reduceSub, Nat.reduceLT, Nat.reduceLeDiff, Nat.reduceEqDiff, Nat.reduceBEq, Nat.reducePow, hM, hlt, hltk, hgi, hgk, hwr]; rfl) ?_
          refine LexD.step (by rfl) (by rfl) (OpW.callY rfl (by rfl) (by rfl) (by rfl) (enters_of Tryz.func20 (by kernel_rfl) rfl) (hlk2)) ?_
          refine LexD.take 2 (by rfl) (by simp only [go_sem, reduceCtorEq, Nat.reduceAdd, Nat.reduceMul, Nat.reduceSub, Nat.reduceLT, Nat.reduceLeDiff, Nat.reduceEqDiff, Nat.reduceBEq, Nat.reducePow, hM, hlt, hltk, hgi, hgk, hwr]; rfl) ?_
          refine LexD.nilE ?_
          refine LexT.take 1 (by simp only [go_sem, reduceCtorEq, Nat.reduceAdd, Nat.reduceMul, Nat.reduceSub, Nat.reduceLT, Nat.reduceLeDiff, Nat.reduceEqDiff, Nat.reduceBEq, Nat.reducePow, hM, hlt, hltk, hgi, hgk, hwr]; rfl) (LexT.nilE ⟨Marks.nil _, ?_⟩)
          simp only [Vthen, VinBlock, if_true, if_false, Nat.reduceEqDiff, reduceCtorEq]
          refine WpV.regionE (by simp only [go_sem, reduceCtorEq, Nat.reduceAdd, Nat.reduceMul, Nat.reduceSub, Nat.reduceLT, Nat.reduceLeDiff, Nat.reduceEqDiff, Nat.reduceBEq, Nat.reducePow, hnk]; rfl) (Marks.nil _) ?_
          simp only [Vthen, VinBlock, if_true, if_false, Nat.reduceEqDiff, reduceCtorEq]
          exact ⟨by first | rfl | trivial, hltk', .cons rfl rfl (.cons rfl rfl (.cons rfl rfl (.cons rfl (by rw [hsk]; unfold mxI; congr 1) (.cons rfl rfl (.cons rfl rfl (.nil _)))))), by first | rfl | trivial⟩
        · have hge : k = M := by have := of_decide_eq_false ‹_›; omega
          subst hge
          simp only [Vthen, VinBlock, if_true, if_false, Nat.reduceEqDiff, reduceCtorEq]
          refine WpV.regionE (by simp only [go_sem, reduceCtorEq, Nat.reduceAdd, Nat.reduceMul, Nat.reduceSub, Nat.reduceLT, Nat.reduceLeDiff, Nat.reduceEqDiff, Nat.reduceBEq, Nat.reducePow, hni]; rfl) (Marks.nil _) ?_
          simp only [Vthen, VinBlock, if_true, if_false, Nat.reduceEqDiff, reduceCtorEq]
          exact ⟨by first | rfl | trivial, hlt', .cons rfl rfl (.cons rfl rfl (.cons rfl rfl (.cons rfl (by rw [hsi]) (.cons rfl rfl (.nil _))))), by first | rfl | trivial⟩
    · have hge : i = M := by have := of_decide_eq_false ‹_›; omega
      subst hge
      simp only [Vthen, VinBlock, if_true, if_false, Nat.reduceEqDiff, reduceCtorEq]
      refine WpV.seq (WpV.regionE (by simp only [go_sem, reduceCtorEq, Nat.reduceAdd, Nat.reduceMul, Nat.reduceSub, Nat.reduceLT, Nat.reduceLeDiff, Nat.reduceEqDiff, Nat.reduceBEq, Nat.reducePow]; rfl) (Marks.nil _) ?_)
      simp only [Vthen, VinBlock, if_true, if_false, Nat.reduceEqDiff, reduceCtorEq]
      refine WpV.ret ⟨Marks.nil _, List.nodup_nil, _, by simp only [Tryz.results15]; simp only [go_sem, reduceCtorEq, Nat.reduceAdd, Nat.reduceMul, Nat.reduceSub, Nat.reduceLT, Nat.reduceLeDiff, Nat.reduceEqDiff, Nat.reduceBEq, Nat.reducePow]; rfl, ?_⟩
      exact ⟨rfl, rfl⟩
end Go.Proofs.YtaekibilldjnmaaGreat
namespace Go.Proofs.YtaekibilldjnmaaGreat
open Go.Proofs

/-- The first of the least ones, of a list in order. -/
theorem fold_first {ps : List Int} : ∀ (l : List (List Int)) (b : List Int), (b :: l).Pairwise (fun x y => leL x y = true) →
    ∃ best, l.foldl (pickStep ps) (some (b, pickLen ps b)) = some (best, pickLen ps best) ∧ best ∈ b :: l ∧ ∀ x ∈ b :: l, pickLen ps best ≤ pickLen ps x ∧ (pickLen ps x = pickLen ps best → leL best x = true)
  | [], b, _ => ⟨b, rfl, by simp, fun x hx => by
      have : x = b := by simpa using hx
      subst this; exact ⟨Int.le_refl _, fun _ => leL_refl _⟩⟩
  | y :: l, b, h => by
    rw [List.foldl_cons]
    have hp := List.pairwise_cons.1 h
    have hby : leL b y = true := hp.1 y (by simp)
    by_cases hlt : pickLen ps y < pickLen ps b
    · obtain ⟨best, e1, e2, e3⟩ := fold_first l y hp.2
      refine ⟨best, by simp only [pickStep, if_pos hlt]; exact e1, List.mem_cons_of_mem _ e2, fun x hx => ?_⟩
      rcases List.mem_cons.1 hx with rfl | hx
      · have := (e3 y (by simp)).1
        exact ⟨by omega, fun e => by omega⟩
      · exact e3 x hx
    · have hbl : (b :: l).Pairwise (fun x y => leL x y = true) := List.pairwise_cons.2 ⟨fun x hx => hp.1 x (by simp [hx]), (List.pairwise_cons.1 hp.2).2⟩
      obtain ⟨best, e1, e2, e3⟩ := fold_first l b hbl
      refine ⟨best, by simp only [pickStep, if_neg hlt]; exact e1, ?_, fun x hx => ?_⟩
      · rcases List.mem_cons.1 e2 with rfl | h2
        · simp
        · simp [h2]
      · rcases List.mem_cons.1 hx with rfl | hx
        · exact e3 _ (by simp)
        · rcases List.mem_cons.1 hx with rfl | hx
          · have hb := e3 b (by simp)
            refine ⟨by omega, fun e => ?_⟩
            exact leL_trans _ _ _ (hb.2 (by omega)) hby
          · exact e3 x (by simp [hx])
theorem pickF_none {ps : List Int} {items : List (List Int)} (h : pickF ps items = none) (hp : items.Pairwise (fun x y => leL x y = true)) : items = [] := by
  cases items with
  | nil => rfl
  | cons b l =>
    obtain ⟨best, e1, -, -⟩ := fold_first (ps := ps) l b hp
    unfold pickF at h
    rw [List.foldl_cons] at h
    exact absurd (h.symm.trans e1) (by simp)
theorem pickF_some {ps : List Int} {items : List (List Int)} {r : List Int × Int} (h : pickF ps items = some r) (hp : items.Pairwise (fun x y => leL x y = true)) :
    r.1 ∈ items ∧ r.2 = pickLen ps r.1 ∧ ∀ x ∈ items, pickLen ps r.1 ≤ pickLen ps x ∧ (pickLen ps x = pickLen ps r.1 → leL r.1 x = true) := by
  cases items with
  | nil => cases h
  | cons b l =>
    obtain ⟨best, e1, e2, e3⟩ := fold_first (ps := ps) l b hp
    unfold pickF at h
    rw [List.foldl_cons] at h
    have := h.symm.trans e1
    cases this
    exact ⟨e2, rfl, e3⟩

theorem leL_app : ∀ (p a b : List Int), leL (p ++ a) (p ++ b) = leL a b
  | [], _, _ => rfl
  | x :: p, a, b => by
    show leL (x :: (p ++ a)) (x :: (p ++ b)) = _
    simp [leL, leL_app p a b]
theorem picksN_ext (c : Cs) (ws : List (List Int)) (ps : List Int) : ∀ (n : Nat) (b x : List Int), x ∈ picksN c ws ps n b → ∃ t, x = b ++ t
  | 0, b, x, h => ⟨[], by simpa [picksN] using h⟩
  | n + 1, b, x, h => by
    rw [picksN, List.mem_flatMap] at h
    obtain ⟨i, hi, h⟩ := h
    split at h
    · obtain ⟨t, rfl⟩ := picksN_ext c ws ps n _ x h
      exact ⟨(i : Int) :: t, by simp⟩
    · cases h
theorem picksN_sorted (c : Cs) (ws : List (List Int)) (ps : List Int) : ∀ (n : Nat) (b : List Int), (picksN c ws ps n b).Pairwise (fun x y => leL x y = true)
  | 0, b => by simp [picksN]
  | n + 1, b => by
    rw [picksN, List.pairwise_flatMap]
    refine ⟨fun i _ => ?_, List.pairwise_lt_range.imp ?_⟩
    · split
      · exact picksN_sorted c ws ps n _
      · exact List.Pairwise.nil
    · intro i j hij x hx y hy
      split at hx
      · split at hy
        · obtain ⟨t, rfl⟩ := picksN_ext c ws ps n _ x hx
          obtain ⟨u, rfl⟩ := picksN_ext c ws ps n _ y hy
          rw [List.append_assoc, List.append_assoc, leL_app]
          have : (i : Int) < (j : Int) := by omega
          simp [leL, this]
        · cases hy
      · cases hx

/-- Numbers of plates, one for each of the first words: each its own, and long enough. -/
structure PickOk (c : Cs) (ws : List (List Int)) (ps b : List Int) : Prop where
  rng : ∀ y ∈ b, 0 ≤ y ∧ y < ps.length
  nodup : b.Nodup
  fit : ∀ k, k < b.length → c.needF [ws.getD k []] ≤ plateOf ps (b.getD k 0)
theorem PickOk.nil (c : Cs) (ws : List (List Int)) (ps : List Int) : PickOk c ws ps [] := ⟨fun y h => (by cases h), List.nodup_nil, fun k h => (by simp at h)⟩
theorem getD_app_l {a b : List Int} {k : Nat} (h : k < a.length) : (a ++ b).getD k 0 = a.getD k 0 := by
  simp only [List.getD_eq_getElem?_getD, List.getElem?_append_left h]
theorem getD_app_at (a : List Int) (x : Int) (b : List Int) : (a ++ x :: b).getD a.length 0 = x := by
  simp [List.getD_eq_getElem?_getD]
theorem PickOk.pre {c : Cs} {ws : List (List Int)} {ps a b : List Int} (h : PickOk c ws ps (a ++ b)) : PickOk c ws ps a :=
  ⟨fun y hy => h.rng y (by simp [hy]), (List.nodup_append.1 h.nodup).1, fun k hk => by
    have := h.fit k (by simp; omega)
    rwa [getD_app_l hk] at this⟩
theorem PickOk.snoc {c : Cs} {ws : List (List Int)} {ps b : List Int} (h : PickOk c ws ps b) {i : Nat} (hi : i < ps.length) (hf : c.fits ws ps b i = true) : PickOk c ws ps (b ++ [(i : Int)]) := by
  unfold Cs.fits at hf
  rw [Bool.and_eq_true, decide_eq_true_eq] at hf
  have hn : (i : Int) ∉ b := fun hm => by rw [contB_iff.2 hm] at hf; exact absurd hf.1 (by decide)
  refine ⟨fun y hy => ?_, ?_, fun k hk => ?_⟩
  · rcases List.mem_append.1 hy with hy | hy
    · exact h.rng y hy
    · have : y = (i : Int) := by simpa using hy
      omega
  · rw [List.nodup_append]
    exact ⟨h.nodup, by simp, fun x hx y hy e => by
      have : y = (i : Int) := by simpa using hy
      subst this; subst e; exact hn hx⟩
  · rw [List.length_append, List.length_singleton] at hk
    by_cases hkb : k < b.length
    · rw [getD_app_l hkb]; exact h.fit k hkb
    · have : k = b.length := by omega
      subst this
      rw [getD_app_at]
      simpa [plateOf] using hf.2
theorem PickOk.fits {c : Cs} {ws : List (List Int)} {ps b t : List Int} {i : Nat} (h : PickOk c ws ps (b ++ (i : Int) :: t)) : i < ps.length ∧ c.fits ws ps b i = true := by
  have h1 := h.rng (i : Int) (by simp)
  have h2 := h.fit b.length (by simp)
  rw [getD_app_at] at h2
  have h3 : (i : Int) ∉ b := fun hm => (List.nodup_append.1 h.nodup).2.2 _ hm _ (by simp) rfl
  refine ⟨by omega, ?_⟩
  unfold Cs.fits
  rw [Bool.and_eq_true, decide_eq_true_eq]
  refine ⟨?_, by simpa [plateOf] using h2⟩
  cases e : contB b (i : Int) with
  | false => rfl
  | true => exact absurd (contB_iff.1 e) h3

theorem picks_iff (c : Cs) (ws : List (List Int)) (ps : List Int) : ∀ (n : Nat) (b x : List Int), PickOk c ws ps b → (x ∈ picksN c ws ps n b ↔ ∃ t, t.length = n ∧ x = b ++ t ∧ PickOk c ws ps x)
  | 0, b, x, h => by
    constructor
    · intro hx
      have : x = b := by simpa [picksN] using hx
      subst this
      exact ⟨[], rfl, by simp, h⟩
    · rintro ⟨t, h1, rfl, -⟩
      have : t = [] := List.eq_nil_of_length_eq_zero h1
      subst this
      simp [picksN]
  | n + 1, b, x, h => by
    rw [picksN, List.mem_flatMap]
    constructor
    · rintro ⟨i, hi, hx⟩
      have hil : i < ps.length := by simpa using hi
      split at hx
      · rename_i hf
        obtain ⟨t, h1, h2, h3⟩ := (picks_iff c ws ps n (b ++ [(i : Int)]) x (h.snoc hil hf)).1 hx
        exact ⟨(i : Int) :: t, by simp [h1], by rw [h2]; simp, h3⟩
      · cases hx
    · rintro ⟨t, h1, rfl, h3⟩
      cases t with
      | nil => simp at h1
      | cons y t =>
        have hy := h3.rng y (by simp)
        obtain ⟨i, rfl⟩ : ∃ i : Nat, y = (i : Int) := ⟨y.toNat, by omega⟩
        obtain ⟨hil, hf⟩ := h3.fits
        refine ⟨i, by simpa using hil, ?_⟩
        rw [if_pos hf]
        exact (picks_iff c ws ps n (b ++ [(i : Int)]) _ (h.snoc hil hf)).2 ⟨t, by simpa using h1, by simp, h3⟩
/-- What 'pick' finds. -/
theorem pick_found {c : Cs} {ws : List (List Int)} {ps : List Int} {n : Nat} {r : List Int × Int} (h : pickF ps (picksN c ws ps n []) = some r) :
    r.1.length = n ∧ PickOk c ws ps r.1 ∧ r.2 = pickLen ps r.1 ∧ ∀ x : List Int, x.length = n → PickOk c ws ps x → pickLen ps r.1 ≤ pickLen ps x ∧ (pickLen ps x = pickLen ps r.1 → lessF x r.1 = false) := by
  obtain ⟨h1, h2, h3⟩ := pickF_some h (picksN_sorted c ws ps n [])
  obtain ⟨t, e1, e2, e3⟩ := (picks_iff c ws ps n [] _ (PickOk.nil c ws ps)).1 h1
  refine ⟨by rw [e2]; simpa using e1, e3, h2, fun x hx hok => ?_⟩
  obtain ⟨g1, g2⟩ := h3 x ((picks_iff c ws ps n [] _ (PickOk.nil c ws ps)).2 ⟨x, hx, rfl, hok⟩)
  exact ⟨g1, fun e => less_no _ _ (g2 e)⟩
theorem pick_lost {c : Cs} {ws : List (List Int)} {ps : List Int} {n : Nat} (h : pickF ps (picksN c ws ps n []) = none) (x : List Int) (hx : x.length = n) : ¬ PickOk c ws ps x := fun hok => by
  have h1 := pickF_none h (picksN_sorted c ws ps n [])
  have h2 := (picks_iff c ws ps n [] x (PickOk.nil c ws ps)).2 ⟨x, hx, rfl, hok⟩
  rw [h1] at h2; cases h2
end Go.Proofs.YtaekibilldjnmaaGreat
namespace Go.Proofs.YtaekibilldjnmaaGreat
open Go.Proofs

/-- A slice of bytes within another slice: one of nothing may lie anywhere. -/
abbrev RX := Option (Bool × List Int)
def rowX : RX → AV
  | none => .em
  | some p => .sl p.1 false p.2.length (p.2.map vbyte)
def wordX : RX → List Int
  | none => [0]
  | some p => wordF p.2
def RX.ok (r : RX) : Prop := ∀ p, r = some p → (∀ n ∈ p.2, 0 ≤ n ∧ n ≤ 255) ∧ p.2.length ≤ 9223372036854775807
def rowOf (r : RX) : Row := (false, (match r with | none => true | some p => decide (p.2.length = 0)), wordX r)
theorem word_em (H : Hp) : CallV Tryz.prog 9 [.em] H (fun r H' => r = vints false true [0] ∧ H' = H) := by
  refine CallV.body Tryz.func9 rfl Tryz.ntmps9 (by rfl) ?_
  refine WpV.seq (WpV.regionE (by simp only [go_sem, reduceCtorEq, Nat.reduceAdd, Nat.reduceMul, Nat.reduceSub, Nat.reduceLT, Nat.reduceLeDiff, Nat.reduceEqDiff, Nat.reduceBEq, Nat.reducePow]; rfl) (Marks.nil _) ?_)
  simp only [Vthen, VinBlock, if_true, if_false, Nat.reduceEqDiff, reduceCtorEq]
  refine WpV.seq (WpV.regionE (by simp only [go_sem, reduceCtorEq, Nat.reduceAdd, Nat.reduceMul, Nat.reduceSub, Nat.reduceLT, Nat.reduceLeDiff, Nat.reduceEqDiff, Nat.reduceBEq, Nat.reducePow]; rfl) (Marks.nil _) ?_)
  simp only [Vthen, VinBlock, if_true, if_false, Nat.reduceEqDiff, reduceCtorEq]
  refine WpV.seq ?_
  refine WpV.seq (WpV.regionE (by simp only [go_sem, reduceCtorEq, Nat.reduceAdd, Nat.reduceMul, Nat.reduceSub, Nat.reduceLT, Nat.reduceLeDiff, Nat.reduceEqDiff, Nat.reduceBEq, Nat.reducePow]; rfl) (Marks.nil _) ?_)
  simp only [Vthen, VinBlock, if_true, if_false, Nat.reduceEqDiff, reduceCtorEq]
  refine WpV.block (WpV.loopN 0 (fun k => [(0, .em), (3, .sl false true 0 []), (4, vint 0)]) (fun _ => H) ?_ rfl ?_)
  · exact .cons rfl rfl (.cons rfl rfl (.cons rfl rfl (.nil _)))
  · intro k hk
    refine WpV.seq ?_
    refine WpV.seq (WpV.regionE (by simp only [go_sem, reduceCtorEq, Nat.reduceAdd, Nat.reduceMul, Nat.reduceSub, Nat.reduceLT, Nat.reduceLeDiff, Nat.reduceEqDiff, Nat.reduceBEq, Nat.reducePow, Int.lt_irrefl]; rfl) (Marks.nil _) ?_)
    simp only [Vthen, VinBlock, if_true, if_false, Nat.reduceEqDiff, reduceCtorEq]
    refine WpV.cond rfl (fun hb => by cases hb) (fun hb => WpV.exit ?_)
    simp only [Vthen, VinBlock, if_true, if_false, Nat.reduceEqDiff, reduceCtorEq]
    refine WpV.seq ?_
    refine WpV.seq (WpV.regionE (by simp only [go_sem, reduceCtorEq, Nat.reduceAdd, Nat.reduceMul, Nat.reduceSub, Nat.reduceLT, Nat.reduceLeDiff, Nat.reduceEqDiff, Nat.reduceBEq, Nat.reducePow]; rfl) (Marks.nil _) ?_)
    simp only [Vthen, VinBlock, if_true, if_false, Nat.reduceEqDiff, reduceCtorEq]
    refine WpV.cond rfl (fun hb => ?_) (fun hb => by cases hb)
    refine WpV.seq (WpV.regionE (by simp only [go_sem, reduceCtorEq, Nat.reduceAdd, Nat.reduceMul, Nat.reduceSub, Nat.reduceLT, Nat.reduceLeDiff, Nat.reduceEqDiff, Nat.reduceBEq, Nat.reducePow]; rfl) (Marks.nil _) ?_)
    simp only [Vthen, VinBlock, if_true, if_false, Nat.reduceEqDiff, reduceCtorEq]
    refine WpV.ret ⟨Marks.nil _, List.nodup_nil, _, by simp only [Tryz.results9]; simp only [go_sem, reduceCtorEq, Nat.reduceAdd, Nat.reduceMul, Nat.reduceSub, Nat.reduceLT, Nat.reduceLeDiff, Nat.reduceEqDiff, Nat.reduceBEq, Nat.reducePow]; rfl, ?_⟩
    exact ⟨rfl, rfl⟩
theorem word_row (H : Hp) (r : RX) (hr : r.ok) : CallV Tryz.prog 9 [rowX r] H (fun x H' => x = rowV (rowOf r) ∧ H' = H) := by
  cases r with
  | none => exact word_em H
  | some p => exact word_bytes H p.1 false p.2 (hr p rfl).2 (hr p rfl).1

def manyN (l : List RX) (k : Nat) : List Row := (l.take k).map rowOf
abbrev manyF (l : List RX) : List Row := manyN l (min l.length 5)
theorem manyN_succ (l : List RX) {k : Nat} (hk : k < l.length) : manyN l (k + 1) = manyN l k ++ [rowOf l[k]] := by
  unfold manyN; rw [List.take_add_one, List.getElem?_eq_getElem hk, List.map_append]; rfl
theorem manyN_len (l : List RX) {k : Nat} (hk : k ≤ l.length) : (manyN l k).length = k := by simp [manyN]; omega

theorem many_any (H : Hp) (nl clip : Bool) (l : List RX) (hl : l.length ≤ 9223372036854775807) (hr : ∀ r ∈ l, r.ok) :
    CallV Tryz.prog 28 [.sl nl clip l.length (l.map rowX)] H (fun r H' => r = vrows false (decide ((manyF l).length = 0)) (manyF l) ∧ H' = H) := by
  have hm5 : min l.length 5 ≤ 5 := Nat.min_le_right _ _
  have hml : min l.length 5 ≤ l.length := Nat.min_le_left _ _
  refine CallV.body Tryz.func28 rfl Tryz.ntmps28 (by rfl) ?_
  refine WpV.seq (WpV.regionE (by simp only [go_sem, reduceCtorEq, Nat.reduceAdd, Nat.reduceMul, Nat.reduceSub, Nat.reduceLT, Nat.reduceLeDiff, Nat.reduceEqDiff, Nat.reduceBEq, Nat.reducePow]; rfl) (Marks.nil _) ?_)
  simp only [Vthen, VinBlock, if_true, if_false, Nat.reduceEqDiff, reduceCtorEq]
  refine WpV.seq (WpV.regionE (by simp only [go_sem, reduceCtorEq, Nat.reduceAdd, Nat.reduceMul, Nat.reduceSub, Nat.reduceLT, Nat.reduceLeDiff, Nat.reduceEqDiff, Nat.reduceBEq, Nat.reducePow]; rfl) (Marks.nil _) ?_)
  simp only [Vthen, VinBlock, if_true, if_false, Nat.reduceEqDiff, reduceCtorEq]
  refine WpV.seq ?_
  refine WpV.seq (WpV.regionE (by simp only [go_sem, reduceCtorEq, Nat.reduceAdd, Nat.reduceMul, Nat.reduceSub, Nat.reduceLT, Nat.reduceLeDiff, Nat.reduceEqDiff, Nat.reduceBEq, Nat.reducePow]; rfl) (Marks.nil _) ?_)
  simp only [Vthen, VinBlock, if_true, if_false, Nat.reduceEqDiff, reduceCtorEq]
  refine WpV.block (WpV.loopB 29 1 false (min l.length 5) (fun _ => True) (fun k => k) (fun k => (manyN l k).map rowV) (fun k v => [(0, .sl nl clip l.length (l.map rowX)), (3, v), (4, vint k)]) trivial (Bld.nil H 29 1 false) ?_ ?_)
  · exact .cons rfl rfl (.cons rfl rfl (.cons rfl rfl (.nil _)))
  · intro k hk _ v H1 hB
    have hk' : k ≤ l.length := by omega
    refine WpV.seq ?_
    by_cases h1 : (k : Int) < (l.length : Int)
    · by_cases h5 : (k : Int) < 5
      · have hlt' : k < l.length := by omega
        have hg : (l.map rowX)[k]? = some (rowX l[k]) := by simp [hlt']
        have hw := word_row H1 l[k] (hr _ (List.getElem_mem _))
        refine WpV.seq (WpV.regionE (by simp only [go_sem, reduceCtorEq, Nat.reduceAdd, Nat.reduceMul, Nat.reduceSub, Nat.reduceLT, Nat.reduceLeDiff, Nat.reduceEqDiff, Nat.reduceBEq, Nat.reducePow, h1, h5]; rfl) (Marks.nil _) ?_)
        simp only [Vthen, VinBlock, if_true, if_false, Nat.reduceEqDiff, reduceCtorEq]
        refine WpV.cond rfl (fun hb => WpV.skip ?_) (fun hb => by cases hb)
        simp only [Vthen, VinBlock, if_true, if_false, Nat.reduceEqDiff, reduceCtorEq]
        refine WpV.seq (WpV.block ?_)
        refine WpV.region ?_
        refine WpOps.take 5 (by simp only [go_sem, reduceCtorEq, Nat.reduceAdd, Nat.reduceMul, Nat.reduceSub, Nat.reduceLT, Nat.reduceLeDiff, Nat.reduceEqDiff, Nat.reduceBEq, Nat.reducePow, h1, hg]; rfl) ?_
        refine WpOps.step (by rfl) (by rfl) (OpW.callY rfl (by rfl) (by rfl) (by rfl) (enters_of Tryz.func9 (by kernel_rfl) rfl) ((hw).mono ?_))
        rintro _ _ ⟨rfl, hH⟩
        replace hH := hH.symm
        subst hH
        refine WpOps.take 1 (by simp only [go_sem, reduceCtorEq, Nat.reduceAdd, Nat.reduceMul, Nat.reduceSub, Nat.reduceLT, Nat.reduceLeDiff, Nat.reduceEqDiff, Nat.reduceBEq, Nat.reducePow]; rfl) ?_
        refine WpOps.step (by rfl) (by rfl) (OpW.appendB (m := 1) (ys := [rowV (rowOf l[k])]) rfl hB rfl rfl rfl (Tryz.el60 (by omega)) Tryz.underlying60 rfl rfl (by decide) (fun v' H' hB' => ?_))
        refine WpOps.take 1 (by simp only [go_sem, reduceCtorEq, Nat.reduceAdd, Nat.reduceMul, Nat.reduceSub, Nat.reduceLT, Nat.reduceLeDiff, Nat.reduceEqDiff, Nat.reduceBEq, Nat.reducePow]; rfl) (WpOps.nil ⟨Marks.nil _, ?_⟩)
        simp only [Vthen, VinBlock, if_true, if_false, Nat.reduceEqDiff, reduceCtorEq]
        refine WpV.regionE (by simp only [go_sem, reduceCtorEq, Nat.reduceAdd, Nat.reduceMul, Nat.reduceSub, Nat.reduceLT, Nat.reduceLeDiff, Nat.reduceEqDiff, Nat.reduceBEq, Nat.reducePow]; rfl) (Marks.nil _) ?_
        simp only [Vthen, VinBlock, if_true, if_false, Nat.reduceEqDiff, reduceCtorEq]
        refine ⟨by first | rfl | trivial, by omega, trivial, v', ?_, .cons rfl rfl (.cons rfl rfl (.cons rfl ?_ (.nil _)))⟩
        · rw [manyN_succ l hlt', List.map_append]; exact hB'
        · rw [wrap64 (by omega)]; rfl
      · have hkm : k = min l.length 5 := by omega
        have hkl := manyN_len l hk'
        refine WpV.seq (WpV.regionE (by simp only [go_sem, reduceCtorEq, Nat.reduceAdd, Nat.reduceMul, Nat.reduceSub, Nat.reduceLT, Nat.reduceLeDiff, Nat.reduceEqDiff, Nat.reduceBEq, Nat.reducePow, h1, h5]; rfl) (Marks.nil _) ?_)
        simp only [Vthen, VinBlock, if_true, if_false, Nat.reduceEqDiff, reduceCtorEq]
        refine WpV.cond rfl (fun hb => by cases hb) (fun hb => WpV.exit ?_)
        simp only [Vthen, VinBlock, if_true, if_false, Nat.reduceEqDiff, reduceCtorEq]
        refine WpV.pre (hB.frz (t := 3) rfl) (Marks.nil _) ?_
        refine WpV.seq (WpV.regionE (by simp only [go_sem, reduceCtorEq, Nat.reduceAdd, Nat.reduceMul, Nat.reduceSub, Nat.reduceLT, Nat.reduceLeDiff, Nat.reduceEqDiff, Nat.reduceBEq, Nat.reducePow]; rfl) (Marks.nil _) ?_)
        simp only [Vthen, VinBlock, if_true, if_false, Nat.reduceEqDiff, reduceCtorEq]
        refine WpV.ret ⟨Marks.nil _, List.nodup_nil, _, by simp only [Tryz.results28]; simp only [go_sem, reduceCtorEq, Nat.reduceAdd, Nat.reduceMul, Nat.reduceSub, Nat.reduceLT, Nat.reduceLeDiff, Nat.reduceEqDiff, Nat.reduceBEq, Nat.reducePow]; rfl, ?_⟩
        refine ⟨?_, rfl⟩
        show AV.sl _ _ _ _ = AV.sl _ _ (manyF l).length _
        unfold manyF
        rw [← hkm, hkl]
    · have hkm : k = min l.length 5 := by omega
      have hkl := manyN_len l hk'
      refine WpV.seq (WpV.regionE (by simp only [go_sem, reduceCtorEq, Nat.reduceAdd, Nat.reduceMul, Nat.reduceSub, Nat.reduceLT, Nat.reduceLeDiff, Nat.reduceEqDiff, Nat.reduceBEq, Nat.reducePow, h1]; rfl) (Marks.nil _) ?_)
      simp only [Vthen, VinBlock, if_true, if_false, Nat.reduceEqDiff, reduceCtorEq]
      refine WpV.cond rfl (fun hb => by cases hb) (fun hb => WpV.exit ?_)
      simp only [Vthen, VinBlock, if_true, if_false, Nat.reduceEqDiff, reduceCtorEq]
      refine WpV.pre (hB.frz (t := 3) rfl) (Marks.nil _) ?_
      refine WpV.seq (WpV.regionE (by simp only [go_sem, reduceCtorEq, Nat.reduceAdd, Nat.reduceMul, Nat.reduceSub, Nat.reduceLT, Nat.reduceLeDiff, Nat.reduceEqDiff, Nat.reduceBEq, Nat.reducePow]; rfl) (Marks.nil _) ?_)
      simp only [Vthen, VinBlock, if_true, if_false, Nat.reduceEqDiff, reduceCtorEq]
      refine WpV.ret ⟨Marks.nil _, List.nodup_nil, _, by simp only [Tryz.results28]; simp only [go_sem, reduceCtorEq, Nat.reduceAdd, Nat.reduceMul, Nat.reduceSub, Nat.reduceLT, Nat.reduceLeDiff, Nat.reduceEqDiff, Nat.reduceBEq, Nat.reducePow]; rfl, ?_⟩
      refine ⟨?_, rfl⟩
      show AV.sl _ _ _ _ = AV.sl _ _ (manyF l).length _
      unfold manyF
      rw [← hkm, hkl]

/-- A copy of lists. -/
def copyR (r : Row) : Row := (false, decide (r.2.2.length = 0), r.2.2)
theorem lists_copy (H : Hp) (nl clip : Bool) (l : List Row) (hl : l.length ≤ 1000) (hr : ∀ r ∈ l, r.2.2.length < 1000000) :
    CallV Tryz.prog 30 [vrows nl clip l] H (fun r H' => r = vrows false (decide (l.length = 0)) (l.map copyR) ∧ H' = H) := by
  refine CallV.body Tryz.func30 rfl Tryz.ntmps30 (by rfl) ?_
  refine WpV.seq (WpV.regionE (by simp only [go_sem, reduceCtorEq, Nat.reduceAdd, Nat.reduceMul, Nat.reduceSub, Nat.reduceLT, Nat.reduceLeDiff, Nat.reduceEqDiff, Nat.reduceBEq, Nat.reducePow]; rfl) (Marks.nil _) ?_)
  simp only [Vthen, VinBlock, if_true, if_false, Nat.reduceEqDiff, reduceCtorEq]
  refine WpV.seq (WpV.regionE (by simp only [go_sem, reduceCtorEq, Nat.reduceAdd, Nat.reduceMul, Nat.reduceSub, Nat.reduceLT, Nat.reduceLeDiff, Nat.reduceEqDiff, Nat.reduceBEq, Nat.reducePow]; rfl) (Marks.nil _) ?_)
  simp only [Vthen, VinBlock, if_true, if_false, Nat.reduceEqDiff, reduceCtorEq]
  refine WpV.seq ?_
  refine WpV.seq (WpV.regionE (by simp only [go_sem, reduceCtorEq, Nat.reduceAdd, Nat.reduceMul, Nat.reduceSub, Nat.reduceLT, Nat.reduceLeDiff, Nat.reduceEqDiff, Nat.reduceBEq, Nat.reducePow]; rfl) (Marks.nil _) ?_)
  simp only [Vthen, VinBlock, if_true, if_false, Nat.reduceEqDiff, reduceCtorEq]
  refine WpV.block (WpV.loopB 29 1 false l.length (fun _ => True) (fun k => k) (fun k => ((l.take k).map copyR).map rowV) (fun k v => [(0, vrows nl clip l), (3, v), (4, vint k)]) trivial (Bld.nil H 29 1 false) ?_ ?_)
  · exact .cons rfl rfl (.cons rfl rfl (.cons rfl rfl (.nil _)))
  · intro k hk _ v H1 hB
    refine WpV.seq ?_
    refine WpV.seq (WpV.regionE (by simp only [go_sem, reduceCtorEq, Nat.reduceAdd, Nat.reduceMul, Nat.reduceSub, Nat.reduceLT, Nat.reduceLeDiff, Nat.reduceEqDiff, Nat.reduceBEq, Nat.reducePow]; rfl) (Marks.nil _) ?_)
    simp only [Vthen, VinBlock, if_true, if_false, Nat.reduceEqDiff, reduceCtorEq]
    refine WpV.cond rfl (fun hb => WpV.skip ?_) (fun hb => WpV.exit ?_)
    · have hlt : (k : Int) < (l.length : Int) := of_decide_eq_true ‹_›
      have hlt' : k < l.length := by omega
      have hg : (l.map rowV)[k]? = some (vints l[k].1 l[k].2.1 l[k].2.2) := by simp [hlt', rowV]
      have hw := ints_any H1 l[k].1 l[k].2.1 l[k].2.2 (hr _ (List.getElem_mem _))
      simp only [Vthen, VinBlock, if_true, if_false, Nat.reduceEqDiff, reduceCtorEq]
      refine WpV.seq (WpV.block ?_)
      refine WpV.region ?_
      refine WpOps.take 5 (by simp only [go_sem, reduceCtorEq, Nat.reduceAdd, Nat.reduceMul, Nat.reduceSub, Nat.reduceLT, Nat.reduceLeDiff, Nat.reduceEqDiff, Nat.reduceBEq, Nat.reducePow, hlt, hg]; rfl) ?_
      refine WpOps.step (by rfl) (by rfl) (OpW.callY rfl (by rfl) (by rfl) (by rfl) (enters_of Tryz.func12 (by kernel_rfl) rfl) ((hw).mono ?_))
      rintro _ _ ⟨rfl, hH⟩
      replace hH := hH.symm
      subst hH
      refine WpOps.take 1 (by simp only [go_sem, reduceCtorEq, Nat.reduceAdd, Nat.reduceMul, Nat.reduceSub, Nat.reduceLT, Nat.reduceLeDiff, Nat.reduceEqDiff, Nat.reduceBEq, Nat.reducePow]; rfl) ?_
      refine WpOps.step (by rfl) (by rfl) (OpW.appendB (m := 1) (ys := [rowV (copyR l[k])]) rfl hB rfl rfl rfl (Tryz.el60 (by omega)) Tryz.underlying60 rfl rfl (by decide) (fun v' H' hB' => ?_))
      refine WpOps.take 1 (by simp only [go_sem, reduceCtorEq, Nat.reduceAdd, Nat.reduceMul, Nat.reduceSub, Nat.reduceLT, Nat.reduceLeDiff, Nat.reduceEqDiff, Nat.reduceBEq, Nat.reducePow]; rfl) (WpOps.nil ⟨Marks.nil _, ?_⟩)
      simp only [Vthen, VinBlock, if_true, if_false, Nat.reduceEqDiff, reduceCtorEq]
      refine WpV.regionE (by simp only [go_sem, reduceCtorEq, Nat.reduceAdd, Nat.reduceMul, Nat.reduceSub, Nat.reduceLT, Nat.reduceLeDiff, Nat.reduceEqDiff, Nat.reduceBEq, Nat.reducePow]; rfl) (Marks.nil _) ?_
      simp only [Vthen, VinBlock, if_true, if_false, Nat.reduceEqDiff, reduceCtorEq]
      refine ⟨by first | rfl | trivial, by omega, trivial, v', ?_, .cons rfl rfl (.cons rfl rfl (.cons rfl ?_ (.nil _)))⟩
      · rw [List.take_add_one, List.getElem?_eq_getElem hlt', List.map_append, List.map_append]; exact hB'
      · rw [wrap64 (by omega)]; rfl
    · have hge : k = l.length := by have := of_decide_eq_false ‹_›; omega
      subst hge
      simp only [Vthen, VinBlock, if_true, if_false, Nat.reduceEqDiff, reduceCtorEq]
      refine WpV.pre (hB.frz (t := 3) rfl) (Marks.nil _) ?_
      refine WpV.seq (WpV.regionE (by simp only [go_sem, reduceCtorEq, Nat.reduceAdd, Nat.reduceMul, Nat.reduceSub, Nat.reduceLT, Nat.reduceLeDiff, Nat.reduceEqDiff, Nat.reduceBEq, Nat.reducePow]; rfl) (Marks.nil _) ?_)
      simp only [Vthen, VinBlock, if_true, if_false, Nat.reduceEqDiff, reduceCtorEq]
      refine WpV.ret ⟨Marks.nil _, List.nodup_nil, _, by simp only [Tryz.results30]; simp only [go_sem, reduceCtorEq, Nat.reduceAdd, Nat.reduceMul, Nat.reduceSub, Nat.reduceLT, Nat.reduceLeDiff, Nat.reduceEqDiff, Nat.reduceBEq, Nat.reducePow]; rfl, ?_⟩
      refine ⟨?_, rfl⟩
      show AV.sl _ _ _ _ = AV.sl _ _ (l.map copyR).length _
      rw [List.length_map]
end Go.Proofs.YtaekibilldjnmaaGreat
