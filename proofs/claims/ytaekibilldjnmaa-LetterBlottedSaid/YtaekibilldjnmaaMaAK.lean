/- LetterBlotted: for every case in bytes, every word in bytes and every six bytes the function returns true, and what it was handed reads as it did. No conditions. -/
import Derived.Test.YtaekibilldjnmaaMaAJ
import Derived.Test.YtaekibilldjnmaaRows
import Derived.WalkKit
import Derived.ProofKit
import Derived.OpenShut
import Derived.ShutString
import Derived.ChangeOld
import Derived.Below
set_option linter.unusedVariables false
set_option linter.unusedSimpArgs false
set_option linter.unusedSectionVars false
namespace Go.Proofs.Ytaekibilldjnmaa
open Go.Proofs

theorem getD_set {w : List Int} {k : Nat} (hk : k < w.length) (x : Int) (j : Nat) : (w.set k x).getD j 0 = if j = k then x else w.getD j 0 := by
  rw [List.getD_eq_getElem?_getD, List.getD_eq_getElem?_getD, List.getElem?_set]
  by_cases e : k = j
  · subst e; simp [hk]
  · rw [if_neg e, if_neg (Ne.symm e)]
/-- f has letters where w has blots. -/
structure Fills (c : Cs) (f w : List Int) : Prop where
  len : f.length = w.length
  letters : c.Letters f
  agr : ∀ k, k < w.length → w.getD k 0 = -1 ∨ f.getD k 0 = w.getD k 0
theorem agrees_iff (c : Cs) (gs : List Int) (lo hi : Int) : ∀ (n : Nat) (w : List Int), c.Blotted w → w.count (-1) = n → (agreesF c gs lo hi n w = true ↔ ∃ f, Fills c f w ∧ inB lo hi (2 * c.rim + c.longF f gs) = true)
  | 0, w, hw, h0 => by
    have hl := hw.letters h0
    constructor
    · intro h; exact ⟨w, ⟨rfl, hl, fun k _ => .inr rfl⟩, h⟩
    · rintro ⟨f, hf, h⟩
      have : f = w := eq_getD hf.len fun j hj => by
        have hj' : j < w.length := by rw [← hf.len]; exact hj
        refine (hf.agr j hj').resolve_left fun e => ?_
        have := hl _ (getD_mem hj')
        omega
      rw [this] at h; exact h
  | n + 1, w, hw, h0 => by
    obtain ⟨k, hk, hb, hwk⟩ := blotAt_some (w := w) (by omega)
    have ih := fun (l : Nat) (hl : l < c.ws.length) => agrees_iff c gs lo hi n (w.set k (l : Int)) (hw.set (by omega)) (by have := count_set_blot hk (l := (l : Int)) hwk (by omega); omega)
    rw [agreesF, List.any_eq_true, hb, Int.toNat_natCast]
    constructor
    · rintro ⟨l, hl, h⟩
      obtain ⟨f, hf, h2⟩ := (ih l (List.mem_range.1 hl)).1 h
      refine ⟨f, ⟨by rw [hf.len]; simp, hf.letters, fun j hj => ?_⟩, h2⟩
      have := hf.agr j (by simpa using hj)
      rw [getD_set hk] at this
      by_cases e : j = k
      · left; subst e; rw [List.getD_eq_getElem?_getD, List.getElem?_eq_getElem hk]; exact hwk
      · rw [if_neg e] at this; exact this
    · rintro ⟨f, hf, h⟩
      have hfk := hf.letters _ (getD_mem (xs := f) (k := k) (by rw [hf.len]; exact hk))
      refine ⟨(f.getD k 0).toNat, List.mem_range.2 (by omega), (ih _ (by omega)).2 ⟨f, ⟨by rw [hf.len]; simp, hf.letters, fun j hj => ?_⟩, h⟩⟩
      rw [getD_set hk]
      by_cases e : j = k
      · right; rw [if_pos e, e]; omega
      · rw [if_neg e]; exact hf.agr j (by simpa using hj)

theorem lettersN_mem {c : Cs} {gs : List Int} {lo hi : Int} {n : Nat} {w : List Int} {p m : Nat} {x : Int} : x ∈ lettersN c gs lo hi n w p m ↔ ∃ l : Nat, l < m ∧ agreesF c gs lo hi n (w.set p (l : Int)) = true ∧ x = (l : Int) := by
  unfold lettersN
  rw [List.mem_map]
  constructor
  · rintro ⟨l, h, rfl⟩
    rw [List.mem_filter, List.mem_range] at h
    exact ⟨l, h.1, h.2, rfl⟩
  · rintro ⟨l, h1, h2, rfl⟩
    exact ⟨l, by rw [List.mem_filter, List.mem_range]; exact ⟨h1, h2⟩, rfl⟩
theorem lettersN_up (c : Cs) (gs : List Int) (lo hi : Int) (n : Nat) (w : List Int) (p m : Nat) : (lettersN c gs lo hi n w p m).Pairwise (· < ·) := by
  unfold lettersN
  rw [List.pairwise_map]
  refine List.Pairwise.filter _ ?_
  exact List.pairwise_lt_range.imp (fun h => by omega)
theorem up_at {L : List Int} (h : L.Pairwise (· < ·)) {i : Nat} (hi : i + 1 < L.length) : L.getD i 0 < L.getD (i + 1) 0 := by
  rw [List.getD_eq_getElem?_getD, List.getD_eq_getElem?_getD, List.getElem?_eq_getElem hi, List.getElem?_eq_getElem (by omega)]
  exact List.pairwise_iff_getElem.1 h i (i + 1) (by omega) hi (by omega)

/-! ### A word, of which two letters are blotted -/
section
variable {c : Cs} {w : List Int} (hw : c.Word w) {a b : Nat} (ha : a < w.length) (hb : b < w.length)
include hw ha
theorem one_blotted : c.Blotted (w.set a (-1)) := fun x hx => by
  rcases List.mem_or_eq_of_mem_set hx with h | rfl
  · exact .inr (hw.2.2 x h)
  · exact .inl rfl
theorem word_count : w.count (-1) = 0 := List.count_eq_zero.2 fun h => by have := hw.2.2 _ h; omega
theorem one_count : (w.set a (-1)).count (-1) = 1 := by
  have h := count_set_blot (w := w.set a (-1)) (k := a) (by simpa using ha) (l := w[a]) (by simp) (hw.2.2 _ (List.getElem_mem _)).1
  rw [List.set_set, List.set_getElem_self, word_count hw ha] at h
  omega
include hb
theorem two_blotted : c.Blotted ((w.set a (-1)).set b (-1)) := fun x hx => by
  rcases List.mem_or_eq_of_mem_set hx with h | rfl
  · exact one_blotted hw ha x h
  · exact .inl rfl
theorem two_count (h : a ≠ b) : ((w.set a (-1)).set b (-1)).count (-1) = 2 := by
  have h1 : ((w.set a (-1)).set b (-1)).length = w.length := by simp
  have hbl : b < ((w.set a (-1)).set b (-1)).length := by omega
  have h2 := count_set_blot (w := (w.set a (-1)).set b (-1)) (k := b) hbl (l := w[b]) (by simp) (hw.2.2 _ (List.getElem_mem _)).1
  rw [List.set_set] at h2
  have h3 : (w.set a (-1)).set b w[b] = w.set a (-1) := by
    refine eq_getD (by simp) fun j hj => ?_
    rw [getD_set (by simpa using hb)]
    by_cases e : j = b
    · subst e; rw [if_pos rfl, getD_set ha, if_neg (Ne.symm h), List.getD_eq_getElem?_getD, List.getElem?_eq_getElem hb]; rfl
    · rw [if_neg e]
  rw [h3, one_count hw ha] at h2
  omega
end
theorem blots_fin : ∀ n : Fin 8, ∀ a b : Fin 8, b.val < n.val → ((List.range n.val).filter fun i => i == b.val) = [b.val] ∧ (a.val < b.val → ((List.range n.val).filter fun i => i == a.val || i == b.val) = [a.val, b.val]) := by decide
theorem two_getD {c : Cs} {w : List Int} (hw : c.Word w) {a b : Nat} (ha : a < w.length) (hb : b < w.length) {j : Nat} (hj : j < w.length) : (((w.set a (-1)).set b (-1)).getD j 0 == -1) = (j == a || j == b) := by
  rw [getD_set (by simpa using hb), getD_set ha]
  have := hw.2.2 _ (getD_mem hj)
  by_cases e1 : j = b
  · subst e1; simp
  · by_cases e2 : j = a
    · subst e2; simp
    · rw [if_neg e1, if_neg e2]
      have h1 : (j == a) = false := by simpa using e2
      have h2 : (j == b) = false := by simpa using e1
      have h3 : (w.getD j 0 == -1) = false := by rw [beq_eq_false_iff_ne]; omega
      rw [h1, h2, h3]; rfl
theorem one_blots {c : Cs} {w : List Int} (hw : c.Word w) {a : Nat} (ha : a < w.length) : blotsF (w.set a (-1)) = [(a : Int)] := by
  have h := (blots_fin ⟨w.length, by have := hw.2.1; omega⟩ ⟨a, by have := hw.2.1; omega⟩ ⟨a, by have := hw.2.1; omega⟩ ha).1
  unfold blotsF blotN
  rw [List.length_set, List.filter_congr (q := fun i => i == a) fun i hi => ?_]
  · simp only at h; rw [h]; rfl
  · have := two_getD hw ha ha (List.mem_range.1 hi)
    rw [List.set_set, Bool.or_self] at this
    exact this
theorem two_blots {c : Cs} {w : List Int} (hw : c.Word w) {a b : Nat} (ha : a < w.length) (hb : b < w.length) (h : a ≠ b) : blotsF ((w.set a (-1)).set b (-1)) = [((min a b : Nat) : Int), ((max a b : Nat) : Int)] := by
  unfold blotsF blotN
  rw [List.length_set, List.length_set, List.filter_congr (q := fun i => i == min a b || i == max a b) fun i hi => ?_]
  · have hl := hw.2.1
    have := (blots_fin ⟨w.length, by omega⟩ ⟨min a b, by omega⟩ ⟨max a b, by omega⟩ (by simp only; omega)).2 (by simp only; omega)
    simp only at this
    rw [this]; rfl
  · rw [two_getD hw ha hb (List.mem_range.1 hi)]
    rcases Nat.lt_or_gt_of_ne h with h1 | h1
    · rw [Nat.min_eq_left (by omega), Nat.max_eq_right (by omega)]
    · rw [Nat.min_eq_right (by omega), Nat.max_eq_left (by omega), Bool.or_comm]
end Go.Proofs.Ytaekibilldjnmaa
namespace Go.Proofs.Ytaekibilldjnmaa
open Go.Proofs

theorem madeP_mem {x : TyA} : ∀ (k : Nat) (p : Int × Int × Int), p ∈ madeP x k → ∃ pr ∈ x.prs, p = pairOf pr
  | 0, p, h => by simp [madeP] at h
  | k + 1, p, h => by
    by_cases hk : k < x.prs.length
    · rw [madeP_succ hk] at h
      unfold addP at h
      split at h
      · exact madeP_mem k p h
      · rcases List.mem_append.1 h with h | h
        · exact madeP_mem k p h
        · exact ⟨_, List.getElem_mem hk, by simpa using h⟩
    · have : madeP x (k + 1) = madeP x k := by unfold madeP; rw [List.take_of_length_le (by omega), List.take_of_length_le (by omega)]
      rw [this] at h; exact madeP_mem k p h
theorem madeP_nodup (x : TyA) : ∀ k, ((madeP x k).map fun p => (p.1, p.2.1)).Nodup
  | 0 => by simp [madeP]
  | k + 1 => by
    by_cases hk : k < x.prs.length
    · rw [madeP_succ hk]
      unfold addP
      split
      · exact madeP_nodup x k
      · rename_i h
        rw [List.map_append, List.nodup_append]
        refine ⟨madeP_nodup x k, by simp, fun a ha b hb e => h ?_⟩
        obtain ⟨p, hp, rfl⟩ := List.mem_map.1 ha
        simp only [List.map_cons, List.map_nil, List.mem_singleton] at hb
        subst hb
        simp only [Prod.mk.injEq] at e
        unfold twiceB
        rw [List.any_eq_true]
        exact ⟨p, hp, by simp [e.1, e.2]⟩
    · have : madeP x (k + 1) = madeP x k := by unfold madeP; rw [List.take_of_length_le (by omega), List.take_of_length_le (by omega)]
      rw [this]; exact madeP_nodup x k
theorem made_valid {x : TyA} (hx : x.Ok) : x.made.Valid := by
  have hwl : (madeW x).length = 6 := by simp [madeW, hx.wd]
  refine ⟨Cs.base_iff.2 ⟨?_, ?_, ?_, ?_, ?_, ?_⟩, madeP_len x 10, ?_, madeP_nodup x 10⟩
  · show 1 ≤ (madeW x).length; omega
  · show (madeW x).length ≤ 8; omega
  · intro n hn
    obtain ⟨m, -, rfl⟩ := List.mem_map.1 (show n ∈ madeW x from hn)
    omega
  · show 0 ≤ x.f0 % 12 ∧ x.f0 % 12 ≤ 20; omega
  · show 0 ≤ x.f1 % 6 ∧ x.f1 % 6 ≤ 10; omega
  · show 0 ≤ x.f2 % 15 ∧ x.f2 % 15 ≤ 30; omega
  · rw [List.all_eq_true]
    intro p hp
    obtain ⟨pr, hpr, rfl⟩ := madeP_mem 10 p hp
    obtain ⟨h1, h2⟩ := hx.pb pr hpr
    unfold Byte at h1 h2
    have e6 : x.made.ws.length = 6 := hwl
    unfold Cs.pairOk Cs.letters
    rw [Bool.and_eq_true, insB_iff, insB_iff, e6]
    unfold pairOf
    refine ⟨?_, ?_⟩
    · intro y hy
      simp only [List.mem_cons, List.not_mem_nil, or_false] at hy
      rcases hy with rfl | rfl <;> omega
    · intro y hy
      simp only [List.mem_cons, List.not_mem_nil, or_false] at hy
      subst hy; omega
theorem own_valid {c : Cs} (h : c.Valid) : c.own.Valid := ⟨h.base, h.few, h.pairs, h.nodup⟩
theorem made_len {x : TyA} (hx : x.Ok) : x.made.ws.length = 6 := by show (madeW x).length = 6; simp [madeW, hx.wd]
theorem wordF_word {l : List Int} (hb : ∀ x ∈ l, 0 ≤ x ∧ x ≤ 255) {c : Cs} (hc : c.ws.length = 6) : c.Word (wordF l) := by
  unfold wordF
  by_cases h0 : l.length = 0
  · rw [if_pos h0]; exact ⟨by simp, by simp, fun x hx => by simp only [List.mem_singleton] at hx; subst hx; omega⟩
  · rw [if_neg h0]
    have hl := wordN_len l (k := min l.length 7) (Nat.min_le_left _ _)
    refine ⟨by rw [hl]; omega, by rw [hl]; omega, fun x hx => ?_⟩
    unfold wordN at hx
    obtain ⟨y, hy, rfl⟩ := List.mem_map.1 hx
    have := hb y (List.mem_of_mem_take hy)
    unfold letterOf
    rw [Int.tmod_eq_emod_of_nonneg this.1]; omega

/-- A copy of a list, as an object of one's own. -/
theorem ints_own (H : Hp) (nl clip : Bool) (xs : List Int) (hl : xs.length < 1000000) (h0 : 0 < xs.length) : CallV Try.prog 8 [vints nl clip xs] H (fun r H' => ∃ id, H id = none ∧ r = .rs id 0 1 0 xs.length false ∧ H' = H.set id (some (.cells 3 0 (xs.map vint)))) := by
  refine CallV.body Try.func8 rfl Try.ntmps8 (by rfl) ?_
  refine WpV.seq (WpV.regionE (by simp only [go_sem, reduceCtorEq, Nat.reduceAdd, Nat.reduceMul, Nat.reduceSub, Nat.reduceLT, Nat.reduceLeDiff, Nat.reduceEqDiff, Nat.reduceBEq, Nat.reducePow]; rfl) (Marks.nil _) ?_)
  simp only [Vthen, VinBlock, if_true, if_false, Nat.reduceEqDiff, reduceCtorEq]
  refine WpV.seq (WpV.region ?_)
  refine WpOps.take 2 (by simp only [go_sem, reduceCtorEq, Nat.reduceAdd, Nat.reduceMul, Nat.reduceSub, Nat.reduceLT, Nat.reduceLeDiff, Nat.reduceEqDiff, Nat.reduceBEq, Nat.reducePow]; rfl) ?_
  refine WpOps.step (by rfl) (by rfl) ?_
  refine OpW.append (nl := false) (len := 0) (cells := []) (m := xs.length) (ys := xs.map vint) rfl rfl rfl rfl (Try.el28 (by omega)) Try.underlying28 (by simp) (by simp) (all_one_ints _) (by omega) (fun id hid => ?_)
  refine WpOps.take 1 (by simp only [go_sem, reduceCtorEq, Nat.reduceAdd, Nat.reduceMul, Nat.reduceSub, Nat.reduceLT, Nat.reduceLeDiff, Nat.reduceEqDiff, Nat.reduceBEq, Nat.reducePow]; rfl) (WpOps.nil ⟨Marks.nil _, ?_⟩)
  simp only [Vthen, VinBlock, if_true, if_false, Nat.reduceEqDiff, reduceCtorEq]
  refine WpV.ret ⟨Marks.nil _, List.nodup_nil, _, by simp only [Try.results8]; simp only [go_sem, reduceCtorEq, Nat.reduceAdd, Nat.reduceMul, Nat.reduceSub, Nat.reduceLT, Nat.reduceLeDiff, Nat.reduceEqDiff, Nat.reduceBEq, Nat.reducePow]; rfl, ?_⟩
  exact ⟨id, hid, rfl, by simp [killA]⟩

/-! ### What was measured -/
def gapsN (v : Int) (m : Nat) : List Int := (List.range m).map fun (j : Nat) => v / ((j : Int) + 1) % 20
theorem gapsN_len (v : Int) (m : Nat) : (gapsN v m).length = m := by simp [gapsN]
theorem gapsN_succ (v : Int) (m : Nat) : gapsN v (m + 1) = gapsN v m ++ [v / ((m : Int) + 1) % 20] := by
  unfold gapsN; rw [List.range_succ, List.map_append]; rfl
theorem gapsN_le (v : Int) (m : Nat) : ∀ x ∈ gapsN v m, 0 ≤ x ∧ x ≤ 19 := fun x hx => by
  obtain ⟨j, -, rfl⟩ := List.mem_map.1 hx; omega
def lngN (c : Cs) (w : List Int) (v : Int) (k : Nat) : Int := 2 * c.rim + ((w.take k).map c.widthOf).sum + (gapsN v (k - 1)).sum
theorem lngN_all (c : Cs) (w : List Int) (v : Int) : lngN c w v w.length = 2 * c.rim + c.longF w (gapsN v (w.length - 1)) := by
  unfold lngN Cs.longF; rw [List.take_length]; omega
theorem lngN_le {c : Cs} (hc : c.Fair) {w : List Int} (hw : c.Word w) (v : Int) (k : Nat) (hk : k ≤ w.length) : 0 ≤ lngN c w v k ∧ lngN c w v k ≤ 1000 := by
  have h1 := sum_bound (xs := gapsN v (k - 1)) (a := 0) (b := 19) (gapsN_le v _)
  have h2 := sum_bound (xs := (w.take k).map c.widthOf) (a := 0) (b := 30) (fun y hy => by
    obtain ⟨x, hx, rfl⟩ := List.mem_map.1 hy; exact Cs.width_le hc.ws (hw.2.2 x (List.mem_of_mem_take hx)))
  have h3 := hc.rim
  rw [gapsN_len] at h1
  rw [List.length_map, List.length_take] at h2
  have := hw.2.1
  unfold lngN
  omega
theorem lngN_succ (c : Cs) (w : List Int) (v : Int) {k : Nat} (hk : k < w.length) : lngN c w v (k + 1) = if k = 0 then lngN c w v k + c.widthOf (w.getD k 0) else lngN c w v k + c.widthOf (w.getD k 0) + v / (k : Int) % 20 := by
  have e : ((w.take (k + 1)).map c.widthOf).sum = ((w.take k).map c.widthOf).sum + c.widthOf (w.getD k 0) := by
    rw [List.take_add_one, List.getElem?_eq_getElem hk, List.map_append, List.sum_append, List.getD_eq_getElem?_getD, List.getElem?_eq_getElem hk]; simp
  unfold lngN
  rw [e]
  by_cases h : k = 0
  · rw [if_pos h]; subst h; simp; omega
  · rw [if_neg h, show k + 1 - 1 = (k - 1) + 1 by omega, gapsN_succ, List.sum_append, show ((k - 1 : Nat) : Int) + 1 = (k : Int) by omega]
    simp; omega
end Go.Proofs.Ytaekibilldjnmaa
namespace Go.Proofs.Ytaekibilldjnmaa
open Go.Proofs

def atK (a b k : Nat) : Nat := if k = 1 then max a b else min a b
structure Blots (w : List Int) (a b : Nat) (L0 : List Int) (Q R : List (List Int)) (k : Nat) : Prop where
  lt : atK a b k < w.length
  inQ : w.getD (atK a b k) 0 ∈ Q.getD k []
  inR : w.getD (atK a b k) 0 ∈ R.getD k []
  in0 : atK a b k = a → w.getD (atK a b k) 0 ∈ L0
  up : (Q.getD k []).Pairwise (· < ·)
  low : ∀ y ∈ Q.getD k [], 0 ≤ y ∧ y ≤ 5
  subR : ∀ y ∈ R.getD k [], y ∈ Q.getD k []
  sub0 : atK a b k = a → ∀ y ∈ L0, y ∈ Q.getD k []
  lenQ : (Q.getD k []).length ≤ 6
  lenR : (R.getD k []).length ≤ 6
  len0 : L0.length ≤ 6

variable {d : Cs} {w gs : List Int} {lo hi lg : Int} {a b : Nat}
theorem fills_self (hw : d.Word w) {w' : List Int} (hl : w'.length = w.length) (h : ∀ k, k < w.length → w'.getD k 0 = -1 ∨ w'.getD k 0 = w.getD k 0) : Fills d w w' :=
  ⟨hl.symm, hw.2.2, fun k hk => (h k (by omega)).imp id Eq.symm⟩
theorem two_getD' (ha : a < w.length) (hb : b < w.length) (j : Nat) : ((w.set a (-1)).set b (-1)).getD j 0 = if j = b then -1 else if j = a then -1 else w.getD j 0 := by
  rw [getD_set (by simpa using hb), getD_set ha]
theorem one_agrees (hw : d.Word w) (ha : a < w.length) (hm : inB lo hi (2 * d.rim + d.longF w gs) = true) : agreesF d gs lo hi 1 (w.set a (-1)) = true :=
  (agrees_iff d gs lo hi 1 _ (one_blotted hw ha) (one_count hw ha)).2 ⟨w, fills_self hw (by simp) (fun k hk => by rw [getD_set ha]; split <;> simp), hm⟩
theorem two_agrees (hw : d.Word w) (ha : a < w.length) (hb : b < w.length) {n : Nat} (hn : ((w.set a (-1)).set b (-1)).count (-1) = n) (hm : inB lo hi (2 * d.rim + d.longF w gs) = true) : agreesF d gs lo hi n ((w.set a (-1)).set b (-1)) = true :=
  (agrees_iff d gs lo hi n _ (two_blotted hw ha hb) hn).2 ⟨w, fills_self hw (by simp) (fun k hk => by rw [two_getD' ha hb]; split; exact .inl rfl; split; exact .inl rfl; exact .inr rfl), hm⟩
/-- What a blot of two can be: what some filling has there. -/
theorem two_mem (hw : d.Word w) (ha : a < w.length) (hb : b < w.length) {n p : Nat} (hn : ((w.set a (-1)).set b (-1)).count (-1) = n + 1) (hp : p = a ∨ p = b) (y : Int) :
    y ∈ lettersN d gs lo hi n ((w.set a (-1)).set b (-1)) p d.ws.length ↔ ∃ f, Fills d f ((w.set a (-1)).set b (-1)) ∧ f.getD p 0 = y ∧ inB lo hi (2 * d.rim + d.longF f gs) = true := by
  have hpl : p < ((w.set a (-1)).set b (-1)).length := by rcases hp with rfl | rfl <;> simpa
  have hpm : ((w.set a (-1)).set b (-1))[p] = -1 := by
    have := two_getD' ha hb p
    rw [List.getD_eq_getElem?_getD, List.getElem?_eq_getElem hpl, Option.getD_some] at this
    rw [this]
    rcases hp with rfl | rfl
    · split <;> simp
    · simp
  have hB := two_blotted hw ha hb
  generalize (w.set a (-1)).set b (-1) = w2 at *
  rw [lettersN_mem]
  have ih := fun (l : Nat) (hl : l < d.ws.length) => agrees_iff d gs lo hi n (w2.set p (l : Int)) (hB.set (by omega)) (by have := count_set_blot hpl (l := (l : Int)) hpm (by omega); omega)
  constructor
  · rintro ⟨l, hl, h, rfl⟩
    obtain ⟨f, hf, h2⟩ := (ih l hl).1 h
    have hfp := hf.agr p (by simpa using hpl)
    rw [getD_set hpl, if_pos rfl] at hfp
    refine ⟨f, ⟨by rw [hf.len]; simp, hf.letters, fun j hj => ?_⟩, hfp.resolve_left (by omega), h2⟩
    have := hf.agr j (by simpa using hj)
    rw [getD_set hpl] at this
    by_cases e : j = p
    · left; subst e; rw [List.getD_eq_getElem?_getD, List.getElem?_eq_getElem hpl]; exact hpm
    · rw [if_neg e] at this; exact this
  · rintro ⟨f, hf, rfl, h⟩
    have hfk := hf.letters _ (getD_mem (xs := f) (k := p) (by rw [hf.len]; exact hpl))
    refine ⟨(f.getD p 0).toNat, by omega, (ih _ (by omega)).2 ⟨f, ⟨by rw [hf.len]; simp, hf.letters, fun j hj => ?_⟩, h⟩, by omega⟩
    rw [getD_set hpl]
    by_cases e : j = p
    · right; rw [if_pos e, e]; omega
    · rw [if_neg e]; exact hf.agr j (by simpa using hj)
theorem blots_k (h6 : d.ws.length = 6) (hw : d.Word w) (ha : a < w.length) (hb : b < w.length) {n : Nat} (hn : ((w.set a (-1)).set b (-1)).count (-1) = n + 1) (hlg : lg = 2 * d.rim + d.longF w gs) (hlo : lo ≤ lg) (hhi : lg ≤ hi) {Q R : List (List Int)} {k : Nat}
    (hQ : Q.getD k [] = lettersN d gs lo hi n ((w.set a (-1)).set b (-1)) (atK a b k) d.ws.length) (hR : R.getD k [] = lettersN d gs lg lg n ((w.set a (-1)).set b (-1)) (atK a b k) d.ws.length) :
    Blots w a b (lettersN d gs lo hi 0 (w.set a (-1)) a d.ws.length) Q R k := by
  have hp : atK a b k = a ∨ atK a b k = b := by unfold atK; split <;> omega
  have hlt : atK a b k < w.length := by rcases hp with e | e <;> rw [e] <;> assumption
  have hmq : inB lo hi (2 * d.rim + d.longF w gs) = true := inB_iff.2 (by omega)
  have hmr : inB lg lg (2 * d.rim + d.longF w gs) = true := inB_iff.2 (by omega)
  have hfw : Fills d w ((w.set a (-1)).set b (-1)) := fills_self hw (by simp) (fun k hk => by rw [two_getD' ha hb]; split; exact .inl rfl; split; exact .inl rfl; exact .inr rfl)
  -- a letter that 'one' can be
  have h0 : ∀ y, y ∈ lettersN d gs lo hi 0 (w.set a (-1)) a d.ws.length ↔ ∃ l : Nat, l < d.ws.length ∧ inB lo hi (2 * d.rim + d.longF (w.set a (l : Int)) gs) = true ∧ y = (l : Int) := by
    intro y
    rw [lettersN_mem]
    simp only [List.set_set]
    rfl
  refine ⟨hlt, ?_, ?_, fun e => ?_, ?_, fun y hy => ?_, fun y hy => ?_, fun e y hy => ?_, by rw [hQ, ← h6]; exact lettersN_len _ _ _ _ _ _ _ _, by rw [hR, ← h6]; exact lettersN_len _ _ _ _ _ _ _ _, by rw [← h6]; exact lettersN_len _ _ _ _ _ _ _ _⟩
  · rw [hQ]; exact (two_mem hw ha hb hn hp _).2 ⟨w, hfw, rfl, hmq⟩
  · rw [hR]; exact (two_mem hw ha hb hn hp _).2 ⟨w, hfw, rfl, hmr⟩
  · rw [e]
    have hl := hw.2.2 _ (getD_mem ha)
    refine (h0 _).2 ⟨(w.getD a 0).toNat, by omega, ?_, by omega⟩
    rw [Int.toNat_of_nonneg hl.1, show w.set a (w.getD a 0) = w by
      refine eq_getD (by simp) fun j hj => ?_
      rw [getD_set ha]; split
      · rename_i e; rw [e]
      · rfl]
    exact hmq
  · rw [hQ]; exact lettersN_up _ _ _ _ _ _ _ _
  · rw [hQ] at hy
    obtain ⟨l, hl, -, rfl⟩ := lettersN_mem.1 hy
    omega
  · rw [hR] at hy
    obtain ⟨f, hf, h1, h2⟩ := (two_mem hw ha hb hn hp _).1 hy
    rw [hQ]
    refine (two_mem hw ha hb hn hp _).2 ⟨f, hf, h1, ?_⟩
    have := inB_iff.1 h2
    exact inB_iff.2 (by omega)
  · obtain ⟨l, hl, h1, rfl⟩ := (h0 y).1 hy
    rw [hQ, e]
    refine (two_mem hw ha hb hn (.inl rfl) _).2 ⟨w.set a (l : Int), ⟨by simp, fun x hx => ?_, fun j hj => ?_⟩, by rw [getD_set ha, if_pos rfl], h1⟩
    · rcases List.mem_or_eq_of_mem_set hx with h | rfl
      · exact hw.2.2 x h
      · omega
    · rw [two_getD' ha hb, getD_set ha]
      by_cases e1 : j = b
      · left; rw [if_pos e1]
      · by_cases e2 : j = a
        · left; rw [if_neg e1, if_pos e2]
        · right; rw [if_neg e1, if_neg e2, if_neg e2]

abbrev vself (L : List Int) : AV := vints (decide (L.length = 0)) (decide (L.length = 0)) L
theorem blot_facts (h6 : d.ws.length = 6) (hw : d.Word w) (ha : a < w.length) (hb : b < w.length) (hlg : lg = 2 * d.rim + d.longF w gs) (hlo : lo ≤ lg) (hhi : lg ≤ hi) :
    ∃ (n : Nat) (Q R : List (List Int)), ((w.set a (-1)).set b (-1)).count (-1) = n + 1 ∧ (blotsF ((w.set a (-1)).set b (-1))).length ≤ 2 ∧ (n + 1 = if a = b then 1 else 2) ∧ Q.length = n + 1 ∧ R.length = n + 1 ∧
      canF d gs lo hi n ((w.set a (-1)).set b (-1)) = Q.map selfRow ∧ canF d gs lg lg n ((w.set a (-1)).set b (-1)) = R.map selfRow ∧ ∀ k, k < n + 1 → Blots w a b (lettersN d gs lo hi 0 (w.set a (-1)) a d.ws.length) Q R k := by
  by_cases h : a = b
  · subst h
    have hc := one_count hw ha
    have hbl := one_blots hw ha
    have hc2 : ((w.set a (-1)).set a (-1)).count (-1) = 0 + 1 := by rw [List.set_set]; exact hc
    refine ⟨0, [lettersN d gs lo hi 0 ((w.set a (-1)).set a (-1)) a d.ws.length], [lettersN d gs lg lg 0 ((w.set a (-1)).set a (-1)) a d.ws.length], hc2, ?_, by simp, rfl, rfl, ?_, ?_, fun k hk => ?_⟩
    · rw [List.set_set, hbl]; simp
    · unfold canF; rw [List.set_set, hbl]; simp
    · unfold canF; rw [List.set_set, hbl]; simp
    · have : k = 0 := by omega
      subst this
      exact blots_k h6 hw ha hb hc2 hlg hlo hhi (by simp [atK]) (by simp [atK])
  · have hc := two_count hw ha hb h
    have hbl := two_blots hw ha hb h
    refine ⟨1, [lettersN d gs lo hi 1 ((w.set a (-1)).set b (-1)) (min a b) d.ws.length, lettersN d gs lo hi 1 ((w.set a (-1)).set b (-1)) (max a b) d.ws.length], [lettersN d gs lg lg 1 ((w.set a (-1)).set b (-1)) (min a b) d.ws.length, lettersN d gs lg lg 1 ((w.set a (-1)).set b (-1)) (max a b) d.ws.length], hc, ?_, by simp [h], rfl, rfl, ?_, ?_, fun k hk => ?_⟩
    · rw [hbl]; simp
    · unfold canF; rw [hbl]; simp
    · unfold canF; rw [hbl]; simp
    · have : k = 0 ∨ k = 1 := by omega
      rcases this with rfl | rfl
      · exact blots_k h6 hw ha hb hc hlg hlo hhi (by simp [atK]) (by simp [atK])
      · exact blots_k h6 hw ha hb hc hlg hlo hhi (by simp [atK]) (by simp [atK])
end Go.Proofs.Ytaekibilldjnmaa
namespace Go.Proofs.Ytaekibilldjnmaa
open Go.Proofs

/-- After the first piece these slots are told. -/
theorem WpV.seqS {P : Program} {r : Option Nat} {N : Nat} {x y : Code} {Q : Exit → Fr → List Nat → Hp → Prop} {fr : Fr} {D : List Nat} {H : Hp} (S : Fr) (hx : WpV P r N x (Vthen (fun fr' D' H' => D' = D ∧ H' = H ∧ Sub S fr') Q) fr D H) (hy : WpV P r N y Q S D H) : WpV P r N (x.seq y) Q fr D H := by
  refine WpV.seq (hx.mono fun e fr' D' H' h => ?_)
  cases e with
  | normal => obtain ⟨rfl, rfl, hs⟩ := h; exact hy.weaken hs
  | _ => exact h
theorem atK_min (a b : Nat) : (if (b : Int) < (a : Int) then (b : Int) else (a : Int)) = ((min a b : Nat) : Int) := by split <;> omega
theorem atK_max (a b : Nat) : (if (b : Int) > (a : Int) then (b : Int) else (a : Int)) = ((max a b : Nat) : Int) := by split <;> omega
theorem row_at {Q : List (List Int)} {k : Nat} (h : k < Q.length) : ((Q.map selfRow).map rowV)[k]? = some (vself (Q.getD k [])) := by
  rw [List.getElem?_map, List.getElem?_map, List.getElem?_eq_getElem h, List.getD_eq_getElem?_getD, List.getElem?_eq_getElem h]; rfl
theorem int_at {L : List Int} {k : Nat} (h : k < L.length) : (L.map vint)[k]? = some (vint (L.getD k 0)) := by
  rw [ints_get L h, List.getD_eq_getElem?_getD, List.getElem?_eq_getElem h]; rfl
theorem any_in {L : List Int} {y : Int} (h : y ∈ L) : (L.any fun x => x == y) = true := List.any_eq_true.2 ⟨y, h, by simp⟩
theorem has_in (H : Hp) (L : List Int) (hl : L.length < 1000000) {y : Int} (h : y ∈ L) : CallV Try.prog 11 [vself L, vint y] H (fun r H' => r = .bool true ∧ H' = H) :=
  (has_any H _ _ L hl y).mono (by rintro r H' ⟨rfl, h2⟩; exact ⟨by rw [any_in h], h2⟩)
theorem up_len : ∀ (n : Nat) (L : List Int), L.Pairwise (· < ·) → (∀ y ∈ L, 0 ≤ y ∧ y < n) → L.length ≤ n
  | 0, [], _, _ => by simp
  | 0, y :: L, _, h => by have := h y (by simp); omega
  | n + 1, L, hp, h => by
    rcases List.eq_nil_or_concat L with rfl | ⟨L', z, rfl⟩
    · simp
    · rw [List.concat_eq_append, List.pairwise_append] at hp
      have := up_len n L' hp.1 (fun y hy => by
        have h1 := h y (by simp [hy])
        have h2 := hp.2.2 y hy z (by simp)
        have h3 := h z (by simp)
        omega)
      simp; omega

set_option maxRecDepth 100000 in
set_option maxHeartbeats 8000000 in
theorem Blotted_any (H : Hp) (x : TyA) (hx : x.Ok) (nl clip : Bool) (l : List Int) (hl : l.length ≤ 9223372036854775807) (hlb : ∀ n ∈ l, 0 ≤ n ∧ n ≤ 255) (v : List Int) (hv : v.length = 6) (hvb : ∀ n ∈ v, Byte n) :
    CallV Try.prog 3 [.agg x.cells, .sl nl clip l.length (l.map vbyte), .agg (v.map vbyte)] H (fun r H' => r = .bool true ∧ H' = H) := by
  have hone : (x.cells.all AV.one) = true := by
    unfold TyA.cells
    rw [List.all_append]
    simp [AV.one]
  have hone2 : ((v.map vbyte).all AV.one) = true := by simp [AV.one]
  have hmk := made_any H x hx
  have hcV := made_valid hx
  have hc6 := made_len hx
  generalize x.made = c at hmk hcV hc6
  have hw := wordF_word hlb hc6
  have hwd := word_bytes H nl clip l hl hlb
  generalize hfl : decide (l.length = 0) = fl at hwd
  generalize wordF l = w at hw hwd
  have hwl := hw.2.1
  have hw1 := hw.1
  have hF := hcV.fair
  obtain ⟨v0, v1, v2, v3, v4, v5, rfl⟩ : ∃ v0 v1 v2 v3 v4 v5, v = [v0, v1, v2, v3, v4, v5] := by
    rcases v with _ | ⟨a0, _ | ⟨a1, _ | ⟨a2, _ | ⟨a3, _ | ⟨a4, _ | ⟨a5, _ | ⟨a6, r⟩⟩⟩⟩⟩⟩⟩ <;> simp at hv
    exact ⟨_, _, _, _, _, _, rfl⟩
  have b0 : Byte v0 := hvb _ (by simp)
  have b1 : Byte v1 := hvb _ (by simp)
  have b2 : Byte v2 := hvb _ (by simp)
  have b3 : Byte v3 := hvb _ (by simp)
  have b4 : Byte v4 := hvb _ (by simp)
  have htk : x.cells.take 10 = x.cells := List.take_of_length_le (by unfold TyA.cells; simp [hx.wd])
  have hlen : x.cells.length = 10 := by unfold TyA.cells; simp [hx.wd]
  clear hvb hv
  have hrim := hF.rim
  have hwr2 : IntKind.i64.wrap (2 * c.rim) = 2 * c.rim := wrap64 (by omega)
  have hln := fun k hk => lngN_le hF hw v0 k hk
  have hls := fun k (hk : k < w.length) => lngN_succ c w v0 hk
  have a0 : (0 : Int) ≤ 0 ∧ (0 : Int) < ((6 : Nat) : Int) := by decide
  have t0 : Int.toNat 0 = 0 := rfl
  have w0 := byte_wrap b0
  show CallV Try.prog 3 [.agg x.cells, .sl nl clip l.length (l.map vbyte), .agg [vbyte v0, vbyte v1, vbyte v2, vbyte v3, vbyte v4, vbyte v5]] H _
  refine CallV.body Try.func3 rfl Try.ntmps3 (by rfl) ?_
  refine WpV.seq (WpV.regionE (by simp only [go_sem, reduceCtorEq, Nat.reduceAdd, Nat.reduceMul, Nat.reduceSub, Nat.reduceLT, Nat.reduceLeDiff, Nat.reduceEqDiff, Nat.reduceBEq, Nat.reducePow, hone]; rfl) (Marks.nil _) ?_)
  simp only [Vthen, VinBlock, if_true, if_false, Nat.reduceEqDiff, reduceCtorEq]
  refine WpV.seq (WpV.region ?_)
  refine WpOps.take 1 (by simp only [go_sem, reduceCtorEq, Nat.reduceAdd, Nat.reduceMul, Nat.reduceSub, Nat.reduceLT, Nat.reduceLeDiff, Nat.reduceEqDiff, Nat.reduceBEq, Nat.reducePow, htk, hlen]; rfl) ?_
  refine WpOps.step (by rfl) (by rfl) (OpW.callY rfl (by rfl) (by rfl) (by rfl) (enters_of Try.func4 (by kernel_rfl) rfl) ((hmk).mono ?_))
  rintro _ _ ⟨rfl, hH⟩
  replace hH := hH.symm
  subst hH
  refine WpOps.take 1 (by simp only [go_sem, reduceCtorEq, Nat.reduceAdd, Nat.reduceMul, Nat.reduceSub, Nat.reduceLT, Nat.reduceLeDiff, Nat.reduceEqDiff, Nat.reduceBEq, Nat.reducePow]; rfl) ?_
  refine WpOps.step (by rfl) (by rfl) (OpW.callY rfl (by rfl) (by rfl) (by rfl) (enters_of Try.func5 (by kernel_rfl) rfl) ((hwd).mono ?_))
  rintro _ _ ⟨rfl, hH⟩
  replace hH := hH.symm
  subst hH
  refine WpOps.step (by rfl) (by rfl) (OpW.alloc rfl (Try.ze31) (fun i7 f7 => ?_))
  refine WpOps.step (by rfl) (by rfl) (OpW.store (ty := 31) (id := i7) (ver := 0) (off := 0) rfl (by simp only [go_sem, reduceCtorEq, Nat.reduceAdd, Nat.reduceMul, Nat.reduceSub, Nat.reduceLT, Nat.reduceLeDiff, Nat.reduceEqDiff, Nat.reduceBEq, Nat.reducePow]; try rfl) (by simp only [go_sem, reduceCtorEq, Nat.reduceAdd, Nat.reduceMul, Nat.reduceSub, Nat.reduceLT, Nat.reduceLeDiff, Nat.reduceEqDiff, Nat.reduceBEq, Nat.reducePow]; try rfl) (Hp.set_eq _ _ _) (by simp only [go_sem, reduceCtorEq, Nat.reduceAdd, Nat.reduceMul, Nat.reduceSub, Nat.reduceLT, Nat.reduceLeDiff, Nat.reduceEqDiff, Nat.reduceBEq, Nat.reducePow]; try rfl) (by exact Try.sz31) (by simp) ?_)
  rw [Hp.set_set]
  refine WpOps.take 1 (by simp only [go_sem, reduceCtorEq, Nat.reduceAdd, Nat.reduceMul, Nat.reduceSub, Nat.reduceLT, Nat.reduceLeDiff, Nat.reduceEqDiff, Nat.reduceBEq, Nat.reducePow]; rfl) (WpOps.nil ⟨Marks.nil _, ?_⟩)
  simp only [Vthen, VinBlock, if_true, if_false, Nat.reduceEqDiff, reduceCtorEq]
  refine WpV.pre (Frz.ptr (t := 7) (id := i7) rfl (Hp.set_eq _ _ _)) (Marks.nil _) ?_
  rw [Hp.set_set, Hp.set_same _ _ _ f7]
  refine WpV.seq (WpV.regionE (by simp only [go_sem, reduceCtorEq, Nat.reduceAdd, Nat.reduceMul, Nat.reduceSub, Nat.reduceLT, Nat.reduceLeDiff, Nat.reduceEqDiff, Nat.reduceBEq, Nat.reducePow, hwr2]; rfl) (Marks.nil _) ?_)
  simp only [Vthen, VinBlock, if_true, if_false, Nat.reduceEqDiff, reduceCtorEq]
  refine WpV.seq ?_
  refine WpV.seq (WpV.regionE (by simp only [go_sem, reduceCtorEq, Nat.reduceAdd, Nat.reduceMul, Nat.reduceSub, Nat.reduceLT, Nat.reduceLeDiff, Nat.reduceEqDiff, Nat.reduceBEq, Nat.reducePow]; rfl) (Marks.nil _) ?_)
  simp only [Vthen, VinBlock, if_true, if_false, Nat.reduceEqDiff, reduceCtorEq]
  refine WpV.block (WpV.loopB 3 1 false w.length (fun _ => True) (fun k => k - 1) (fun k => (gapsN v0 (k - 1)).map vint) (fun k vv => [(5, .cp [vbyte v0, vbyte v1, vbyte v2, vbyte v3, vbyte v4, vbyte v5] 0), (7, .cp c.cells 0), (8, vints false fl w), (9, vint (lngN c w v0 k)), (10, vv), (11, vint k)]) trivial (Bld.nil H 3 1 false) ?_ ?_)
  · exact .cons rfl rfl (.cons rfl rfl (.cons rfl rfl (.cons rfl (by simp [lngN, gapsN]) (.cons rfl rfl (.cons rfl rfl (.nil _))))))
  · intro k hk _ vv H1 hB
    refine WpV.seq ?_
    refine WpV.seq (WpV.regionE (by simp only [go_sem, reduceCtorEq, Nat.reduceAdd, Nat.reduceMul, Nat.reduceSub, Nat.reduceLT, Nat.reduceLeDiff, Nat.reduceEqDiff, Nat.reduceBEq, Nat.reducePow]; rfl) (Marks.nil _) ?_)
    simp only [Vthen, VinBlock, if_true, if_false, Nat.reduceEqDiff, reduceCtorEq]
    refine WpV.cond rfl (fun hb => WpV.skip ?_) (fun hb => WpV.exit ?_)
    · have hlt : (k : Int) < (w.length : Int) := of_decide_eq_true ‹_›
      have hlt' : k < w.length := by omega
      have hg : (w.map vint)[k]? = some (vint (w.getD k 0)) := by rw [ints_get w hlt']; simp [List.getD_eq_getElem?_getD, hlt']
      have hxl := hw.2.2 _ (getD_mem (xs := w) hlt')
      have hls := hls k hlt'
      have hln0 := hln k hk
      have hln1 := hln (k + 1) hlt'
      have hwx := Cs.width_le hF.ws hxl
      have hto : (w.getD k 0).toNat < c.ws.length := by omega
      generalize w.getD k 0 = y at hg hxl hls hwx hto
      have hgw : (c.ws.map vint)[y.toNat]? = some (vint (c.widthOf y)) := by
        rw [ints_get c.ws hto]; simp [Cs.widthOf, List.getD_eq_getElem?_getD, hto]
      obtain ⟨hx0, hx1⟩ := hxl
      have hnext : IntKind.i64.wrap ((k : Int) + 1) = ((k + 1 : Nat) : Int) := by rw [wrap64 (by omega)]; rfl
      have hwl1 : IntKind.i64.wrap (lngN c w v0 k + c.widthOf y) = lngN c w v0 k + c.widthOf y := wrap64 (by omega)
      simp only [Vthen, VinBlock, if_true, if_false, Nat.reduceEqDiff, reduceCtorEq]
      refine WpV.seq (WpV.block ?_)
      refine WpV.seq (WpV.regionTN 10 Try.mixed (by kernel_rfl) (by kernel_rfl) (by kernel_rfl) ?_)
      refine LexD.take 8 (by rfl) (by simp only [go_sem, reduceCtorEq, Nat.reduceAdd, Nat.reduceMul, Nat.reduceSub, Nat.reduceLT, Nat.reduceLeDiff, Nat.reduceEqDiff, Nat.reduceBEq, Nat.reducePow, hlt, hg, hx0, hx1, hgw, hwl1]; rfl) ?_
      refine LexD.take 2 (by rfl) (by simp only [go_sem, reduceCtorEq, Nat.reduceAdd, Nat.reduceMul, Nat.reduceSub, Nat.reduceLT, Nat.reduceLeDiff, Nat.reduceEqDiff, Nat.reduceBEq, Nat.reducePow, hlt, hg, hx0, hx1, hgw, hwl1]; rfl) ?_
      refine LexD.nilE ?_
      refine LexT.take 1 (by simp only [go_sem, reduceCtorEq, Nat.reduceAdd, Nat.reduceMul, Nat.reduceSub, Nat.reduceLT, Nat.reduceLeDiff, Nat.reduceEqDiff, Nat.reduceBEq, Nat.reducePow, hlt, hg, hx0, hx1, hgw, hwl1]; rfl) (LexT.nilE ⟨Marks.nil _, ?_⟩)
      simp only [Vthen, VinBlock, if_true, if_false, Nat.reduceEqDiff, reduceCtorEq]
      by_cases hk0 : k = 0
      · have e0 : ¬ ((k : Int) > 0) := by omega
        rw [if_pos hk0] at hls
        refine WpV.seq (WpV.regionE (by simp only [go_sem, reduceCtorEq, Nat.reduceAdd, Nat.reduceMul, Nat.reduceSub, Nat.reduceLT, Nat.reduceLeDiff, Nat.reduceEqDiff, Nat.reduceBEq, Nat.reducePow, e0]; rfl) (Marks.nil _) ?_)
        simp only [Vthen, VinBlock, if_true, if_false, Nat.reduceEqDiff, reduceCtorEq]
        refine WpV.cond rfl (fun hb => by cases hb) (fun hb => WpV.skip ?_)
        simp only [Vthen, VinBlock, if_true, if_false, Nat.reduceEqDiff, reduceCtorEq]
        refine WpV.regionE (by simp only [go_sem, reduceCtorEq, Nat.reduceAdd, Nat.reduceMul, Nat.reduceSub, Nat.reduceLT, Nat.reduceLeDiff, Nat.reduceEqDiff, Nat.reduceBEq, Nat.reducePow, hnext]; rfl) (Marks.nil _) ?_
        simp only [Vthen, VinBlock, if_true, if_false, Nat.reduceEqDiff, reduceCtorEq]
        subst hk0
        exact ⟨trivial, hlt', trivial, vv, hB, .cons rfl rfl (.cons rfl rfl (.cons rfl rfl (.cons rfl (by rw [hls]) (.cons rfl rfl (.cons rfl rfl (.nil _))))))⟩
      · have e0 : (k : Int) > 0 := by omega
        have e1 : ¬ ((k : Int) = 0) := by omega
        rw [if_neg hk0] at hls
        have hq : v0.tdiv (k : Int) = v0 / (k : Int) := Int.tdiv_eq_ediv_of_nonneg b0.1
        have hq0 : 0 ≤ v0 / (k : Int) := Int.ediv_nonneg b0.1 (by omega)
        have hq1 : v0 / (k : Int) ≤ v0 := Int.ediv_le_self _ b0.1
        have hqw : IntKind.i64.wrap (v0 / (k : Int)) = v0 / (k : Int) := wrap64 (by unfold Byte at b0; omega)
        have hqm : (v0 / (k : Int)).tmod 20 = v0 / (k : Int) % 20 := Int.tmod_eq_emod_of_nonneg hq0
        have hwl2 : IntKind.i64.wrap (lngN c w v0 k + c.widthOf y + v0 / (k : Int) % 20) = lngN c w v0 k + c.widthOf y + v0 / (k : Int) % 20 := wrap64 (by omega)
        have hk1 : IntKind.i64.wrap ((k : Int) - 1) = ((k - 1 : Nat) : Int) := by rw [wrap64 (by omega)]; omega
        refine WpV.seq (WpV.regionE (by simp only [go_sem, reduceCtorEq, Nat.reduceAdd, Nat.reduceMul, Nat.reduceSub, Nat.reduceLT, Nat.reduceLeDiff, Nat.reduceEqDiff, Nat.reduceBEq, Nat.reducePow, e0]; rfl) (Marks.nil _) ?_)
        simp only [Vthen, VinBlock, if_true, if_false, Nat.reduceEqDiff, reduceCtorEq]
        refine WpV.cond rfl (fun hb => ?_) (fun hb => by cases hb)
        refine WpV.seq (WpV.region ?_)
        refine WpOps.take 8 (by simp only [go_sem, reduceCtorEq, Nat.reduceAdd, Nat.reduceMul, Nat.reduceSub, Nat.reduceLT, Nat.reduceLeDiff, Nat.reduceEqDiff, Nat.reduceBEq, Nat.reducePow, a0, t0, w0, e1, hq, hqw, hqm, Int.reduceEq]; rfl) ?_
        refine WpOps.step (by rfl) (by rfl) (OpW.appendB (m := 1) (ys := [vint (v0 / (k : Int) % 20)]) rfl hB rfl rfl rfl (Try.el28 (by omega)) Try.underlying28 rfl rfl (by decide) (fun v' H' hB' => ?_))
        refine WpOps.take 1 (by simp only [go_sem, reduceCtorEq, Nat.reduceAdd, Nat.reduceMul, Nat.reduceSub, Nat.reduceLT, Nat.reduceLeDiff, Nat.reduceEqDiff, Nat.reduceBEq, Nat.reducePow]; rfl) (WpOps.nil ⟨Marks.nil _, ?_⟩)
        simp only [Vthen, VinBlock, if_true, if_false, Nat.reduceEqDiff, reduceCtorEq]
        rw [show (gapsN v0 (k - 1)).map vint ++ [vint (v0 / (k : Int) % 20)] = (gapsN v0 k).map vint by rw [show k = (k - 1) + 1 by omega, gapsN_succ, List.map_append]; simp <;> congr 2 <;> omega, show k - 1 + 1 = k by omega] at hB'
        obtain ⟨hBl, ⟨h0, -⟩ | ⟨-, id, ver, hid, rfl, rfl⟩⟩ := hB'
        · omega
        have hgk : ((gapsN v0 k).map vint)[k - 1]? = some (vint (v0 / (k : Int) % 20)) := by
          rw [show k = (k - 1) + 1 by omega, gapsN_succ, List.map_append, List.getElem?_append_right (by simp [gapsN_len])]
          simp [gapsN_len] <;> congr 2 <;> omega
        have hkl : ((k - 1 : Nat) : Int) < (k : Int) := by omega
        have yid : (H.set id (some (.cells 3 ver ((gapsN v0 k).map vint)))) id = some (.cells 3 ver ((gapsN v0 k).map vint)) := Hp.set_eq _ _ _
        refine WpV.regionE (by simp only [go_sem, reduceCtorEq, Nat.reduceAdd, Nat.reduceMul, Nat.reduceSub, Nat.reduceLT, Nat.reduceLeDiff, Nat.reduceEqDiff, Nat.reduceBEq, Nat.reducePow, hk1, yid, hkl, hgk, hwl2]; rfl) (Marks.nil _) ?_
        simp only [Vthen, VinBlock, if_true, if_false, Nat.reduceEqDiff, reduceCtorEq]
        refine WpV.regionE (by simp only [go_sem, reduceCtorEq, Nat.reduceAdd, Nat.reduceMul, Nat.reduceSub, Nat.reduceLT, Nat.reduceLeDiff, Nat.reduceEqDiff, Nat.reduceBEq, Nat.reducePow, hnext]; rfl) (Marks.nil _) ?_
        simp only [Vthen, VinBlock, if_true, if_false, Nat.reduceEqDiff, reduceCtorEq]
        exact ⟨trivial, hlt', trivial, _, ⟨by simp [gapsN_len], .inr ⟨by omega, id, ver, hid, rfl, rfl⟩⟩, .cons rfl rfl (.cons rfl rfl (.cons rfl rfl (.cons rfl (by rw [hls]) (.cons rfl rfl (.cons rfl rfl (.nil _))))))⟩
    · have hge : k = w.length := by have := of_decide_eq_false ‹_›; omega
      subst hge
      simp only [Vthen, VinBlock, if_true, if_false, Nat.reduceEqDiff, reduceCtorEq]
      refine WpV.pre (hB.frz (t := 10) rfl) (Marks.nil _) ?_
      have hlgA := lngN_all c w v0
      have hlgB := hln w.length (Nat.le_refl _)
      have hgl := gapsN_len v0 (w.length - 1)
      have hgb := gapsN_le v0 (w.length - 1)
      generalize lngN c w v0 w.length = lg at hlgA hlgB ⊢
      generalize gapsN v0 (w.length - 1) = gs at hlgA hgl hgb ⊢
      clear hB hls hln H1
      simp only [Bool.false_and, ← hgl]
      generalize decide (gs.length = 0) = gf
      have hlg1 : 1 ≤ lg := by
        have hBs := Cs.base_iff.1 hcV.base
        have h1 : 0 ≤ gs.sum := by
          have := sum_bound (xs := gs) (a := 0) (b := 19) hgb
          omega
        have h2 : 1 * ((w.map c.widthOf).length : Int) ≤ (w.map c.widthOf).sum := (sum_bound (xs := w.map c.widthOf) (a := 1) (b := 30) (fun y hy => by
          obtain ⟨x, hx, rfl⟩ := List.mem_map.1 hy
          have hxl := hw.2.2 x hx
          have hto : x.toNat < c.ws.length := by omega
          have : c.widthOf x = c.ws[x.toNat] := by simp [Cs.widthOf, List.getD_eq_getElem?_getD, hto]
          rw [this]
          exact hBs.ws _ (List.getElem_mem _))).1
        rw [List.length_map] at h2
        unfold Cs.longF at hlgA
        omega
      refine WpV.seq ?_
      by_cases h380 : lg > 380
      · refine WpV.seq (WpV.regionE (by simp only [go_sem, reduceCtorEq, Nat.reduceAdd, Nat.reduceMul, Nat.reduceSub, Nat.reduceLT, Nat.reduceLeDiff, Nat.reduceEqDiff, Nat.reduceBEq, Nat.reducePow, h380]; rfl) (Marks.nil _) ?_)
        simp only [Vthen, VinBlock, if_true, if_false, Nat.reduceEqDiff, reduceCtorEq]
        refine WpV.cond rfl (fun hb => ?_) (fun hb => by cases hb)
        refine WpV.seq (WpV.region ?_)
        refine WpOps.step (by rfl) (by rfl) (OpW.callY rfl (by rfl) (by rfl) (by rfl) (enters_of Try.func6 (by kernel_rfl) rfl) ((known_any H).mono ?_))
        rintro _ _ ⟨rfl, hH⟩
        replace hH := hH.symm
        subst hH
        refine WpOps.take 1 (by simp only [go_sem, reduceCtorEq, Nat.reduceAdd, Nat.reduceMul, Nat.reduceSub, Nat.reduceLT, Nat.reduceLeDiff, Nat.reduceEqDiff, Nat.reduceBEq, Nat.reducePow]; rfl) (WpOps.nil ⟨Marks.nil _, ?_⟩)
        simp only [Vthen, VinBlock, if_true, if_false, Nat.reduceEqDiff, reduceCtorEq]
        refine WpV.ret ⟨Marks.nil _, List.nodup_nil, _, by simp only [Try.results3]; simp only [go_sem, reduceCtorEq, Nat.reduceAdd, Nat.reduceMul, Nat.reduceSub, Nat.reduceLT, Nat.reduceLeDiff, Nat.reduceEqDiff, Nat.reduceBEq, Nat.reducePow]; rfl, ?_⟩
        exact ⟨rfl, rfl⟩
      · refine WpV.seq (WpV.regionE (by simp only [go_sem, reduceCtorEq, Nat.reduceAdd, Nat.reduceMul, Nat.reduceSub, Nat.reduceLT, Nat.reduceLeDiff, Nat.reduceEqDiff, Nat.reduceBEq, Nat.reducePow, h380]; rfl) (Marks.nil _) ?_)
        simp only [Vthen, VinBlock, if_true, if_false, Nat.reduceEqDiff, reduceCtorEq]
        refine WpV.cond rfl (fun hb => by cases hb) (fun hb => WpV.skip ?_)
        simp only [Vthen, VinBlock, if_true, if_false, Nat.reduceEqDiff, reduceCtorEq]
        have a1 : (0 : Int) ≤ 1 ∧ (1 : Int) < ((6 : Nat) : Int) := by decide
        have a2 : (0 : Int) ≤ 2 ∧ (2 : Int) < ((6 : Nat) : Int) := by decide
        have a3 : (0 : Int) ≤ 3 ∧ (3 : Int) < ((6 : Nat) : Int) := by decide
        have a4 : (0 : Int) ≤ 4 ∧ (4 : Int) < ((6 : Nat) : Int) := by decide
        have t1 : Int.toNat 1 = 1 := rfl
        have t2 : Int.toNat 2 = 2 := rfl
        have t3 : Int.toNat 3 = 3 := rfl
        have t4 : Int.toNat 4 = 4 := rfl
        have w1 := byte_wrap b1
        have w2 := byte_wrap b2
        have w3 := byte_wrap b3
        have w4 := byte_wrap b4
        have m1 := byte_mod b1 10
        have m2 := byte_mod b2 10
        have m3 := byte_mod b3 (w.length : Int)
        have m4 := byte_mod b4 (w.length : Int)
        have s1 : IntKind.i64.wrap (lg - v1 % 10) = lg - v1 % 10 := wrap64 (by omega)
        have s2 : IntKind.i64.wrap (lg + v2 % 10) = lg + v2 % 10 := wrap64 (by omega)
        have hlo : 1 ≤ (if lg - v1 % 10 > 1 then lg - v1 % 10 else 1) ∧ (if lg - v1 % 10 > 1 then lg - v1 % 10 else 1) ≤ lg := by split <;> omega
        have hhi : lg ≤ lg + v2 % 10 ∧ lg + v2 % 10 ≤ 400 := by omega
        refine WpV.seq (WpV.region ?_)
        refine WpOps.take 6 (by simp only [go_sem, reduceCtorEq, Nat.reduceAdd, Nat.reduceMul, Nat.reduceSub, Nat.reduceLT, Nat.reduceLeDiff, Nat.reduceEqDiff, Nat.reduceBEq, Nat.reducePow, a1, t1, w1, m1, s1, Int.reduceEq]; rfl) ?_
        refine WpOps.take 1 (by simp only [go_sem, reduceCtorEq, Nat.reduceAdd, Nat.reduceMul, Nat.reduceSub, Nat.reduceLT, Nat.reduceLeDiff, Nat.reduceEqDiff, Nat.reduceBEq, Nat.reducePow]; rfl) ?_
        generalize (if lg - v1 % 10 > 1 then lg - v1 % 10 else 1) = lo at hlo ⊢
        refine WpOps.take 6 (by simp only [go_sem, reduceCtorEq, Nat.reduceAdd, Nat.reduceMul, Nat.reduceSub, Nat.reduceLT, Nat.reduceLeDiff, Nat.reduceEqDiff, Nat.reduceBEq, Nat.reducePow, a2, t2, w2, m2, s2, Int.reduceEq]; rfl) ?_
        generalize lg + v2 % 10 = hi at hhi s2 ⊢
        refine WpOps.step (by rfl) (by rfl) (OpW.callY rfl (by rfl) (by rfl) (by rfl) (enters_of Try.func7 (by kernel_rfl) rfl) ((span_any H lo hi).mono ?_))
        rintro _ _ ⟨rfl, hH⟩
        replace hH := hH.symm
        subst hH
        refine WpOps.step (by rfl) (by rfl) (OpW.alloc rfl (Try.ze36) (fun i12 f12 => ?_))
        refine WpOps.step (by rfl) (by rfl) (OpW.store (ty := 36) (id := i12) (ver := 0) (off := 0) rfl (by simp only [go_sem, reduceCtorEq, Nat.reduceAdd, Nat.reduceMul, Nat.reduceSub, Nat.reduceLT, Nat.reduceLeDiff, Nat.reduceEqDiff, Nat.reduceBEq, Nat.reducePow]; try rfl) (by simp only [go_sem, reduceCtorEq, Nat.reduceAdd, Nat.reduceMul, Nat.reduceSub, Nat.reduceLT, Nat.reduceLeDiff, Nat.reduceEqDiff, Nat.reduceBEq, Nat.reducePow]; try rfl) (Hp.set_eq _ _ _) (by simp only [go_sem, reduceCtorEq, Nat.reduceAdd, Nat.reduceMul, Nat.reduceSub, Nat.reduceLT, Nat.reduceLeDiff, Nat.reduceEqDiff, Nat.reduceBEq, Nat.reducePow]; try rfl) (by exact Try.sz36) (by simp) ?_)
        rw [Hp.set_set]
        refine WpOps.nil ⟨Marks.nil _, ?_⟩
        simp only [Vthen, VinBlock, if_true, if_false, Nat.reduceEqDiff, reduceCtorEq]
        refine WpV.pre (Frz.ptr (t := 12) (id := i12) rfl (Hp.set_eq _ _ _)) (Marks.nil _) ?_
        rw [Hp.set_set, Hp.set_same _ _ _ f12]
        refine WpV.seq (WpV.region ?_)
        refine WpOps.take 1 (by simp only [go_sem, reduceCtorEq, Nat.reduceAdd, Nat.reduceMul, Nat.reduceSub, Nat.reduceLT, Nat.reduceLeDiff, Nat.reduceEqDiff, Nat.reduceBEq, Nat.reducePow]; rfl) ?_
        refine WpOps.step (by rfl) (by rfl) (OpW.callY rfl (by rfl) (by rfl) (by rfl) (enters_of Try.func8 (by kernel_rfl) rfl) ((ints_own H false fl w (by omega) hw1).mono ?_))
        rintro _ _ ⟨i13, f13, rfl, rfl⟩
        refine WpOps.take 1 (by simp only [go_sem, reduceCtorEq, Nat.reduceAdd, Nat.reduceMul, Nat.reduceSub, Nat.reduceLT, Nat.reduceLeDiff, Nat.reduceEqDiff, Nat.reduceBEq, Nat.reducePow]; rfl) ?_
        refine WpOps.step (by rfl) (by rfl) (OpW.callY rfl (by rfl) (by rfl) (by rfl) (enters_of Try.func8 (by kernel_rfl) rfl) ((ints_own _ false fl w (by omega) hw1).mono ?_))
        rintro _ _ ⟨i14, f14, rfl, rfl⟩
        obtain ⟨n14, f14'⟩ := fresh_ne f14
        refine WpOps.take 2 (by simp only [go_sem, reduceCtorEq, Nat.reduceAdd, Nat.reduceMul, Nat.reduceSub, Nat.reduceLT, Nat.reduceLeDiff, Nat.reduceEqDiff, Nat.reduceBEq, Nat.reducePow]; rfl) (WpOps.nil ⟨Marks.nil _, ?_⟩)
        simp only [Vthen, VinBlock, if_true, if_false, Nat.reduceEqDiff, reduceCtorEq]
        have hl0 : ¬ ((w.length : Int) = 0) := by omega
        obtain ⟨a, ha, hva⟩ : ∃ a : Nat, a < w.length ∧ v3 % (w.length : Int) = (a : Int) := by
          have h1 := Int.emod_nonneg v3 hl0
          have h2 := Int.emod_lt_of_pos v3 (b := (w.length : Int)) (by omega)
          exact ⟨(v3 % (w.length : Int)).toNat, by omega, by omega⟩
        obtain ⟨b, hb, hvb⟩ : ∃ b : Nat, b < w.length ∧ v4 % (w.length : Int) = (b : Int) := by
          have h1 := Int.emod_nonneg v4 hl0
          have h2 := Int.emod_lt_of_pos v4 (b := (w.length : Int)) (by omega)
          exact ⟨(v4 % (w.length : Int)).toNat, by omega, by omega⟩
        rw [hva] at m3
        rw [hvb] at m4
        refine WpV.seq (WpV.regionD Try.mixed (by kernel_rfl) (by kernel_rfl) ?_)
        refine LexD.take 6 (by rfl) (by simp only [go_sem, reduceCtorEq, Nat.reduceAdd, Nat.reduceMul, Nat.reduceSub, Nat.reduceLT, Nat.reduceLeDiff, Nat.reduceEqDiff, Nat.reduceBEq, Nat.reducePow, a3, t3, w3, m3, hl0]; rfl) ?_
        refine LexD.take 6 (by rfl) (by simp only [go_sem, reduceCtorEq, Nat.reduceAdd, Nat.reduceMul, Nat.reduceSub, Nat.reduceLT, Nat.reduceLeDiff, Nat.reduceEqDiff, Nat.reduceBEq, Nat.reducePow, a4, t4, w4, m4, hl0]; rfl) ?_
        refine LexD.take 2 (by rfl) (by simp only [go_sem, reduceCtorEq, Nat.reduceAdd, Nat.reduceMul, Nat.reduceSub, Nat.reduceLT, Nat.reduceLeDiff, Nat.reduceEqDiff, Nat.reduceBEq, Nat.reducePow]; rfl) (LexD.nilE ⟨Marks.nil _, ?_⟩)
        simp only [Vthen, VinBlock, if_true, if_false, Nat.reduceEqDiff, reduceCtorEq]
        have hlta : (a : Int) < (w.length : Int) := by omega
        have hltb : (b : Int) < (w.length : Int) := by omega
        have y13 : ((H.set i13 (some (.cells 3 0 (w.map vint)))).set i14 (some (.cells 3 0 (w.map vint)))) i13 = some (.cells 3 0 (w.map vint)) := by rw [Hp.set_ne _ _ n14.symm]; exact Hp.set_eq _ _ _
        have hput1 : putC (w.map vint) a [vint (-1)] = (w.set a (-1)).map vint := by rw [putC_set _ _ _ (by simpa using ha), ← List.map_set]
        have hput2 : putC ((w.set a (-1)).map vint) b [vint (-1)] = ((w.set a (-1)).set b (-1)).map vint := by rw [putC_set _ _ _ (by simpa using hb), ← List.map_set]
        have ho1 : (w.set a (-1)).length = w.length := by simp
        have ho2 : ((w.set a (-1)).set b (-1)).length = w.length := by simp
        obtain ⟨n, Q, R, hcnt, hbl2, hnM, hQl, hRl, hcQ, hcR, hfk⟩ := blot_facts (d := c.own) (gs := gs) (lo := lo) (hi := hi) (lg := lg) hc6 hw ha hb hlgA hlo.2 hhi.1
        have hc1 : canF c.own gs lo hi 0 (w.set a (-1)) = [selfRow (lettersN c.own gs lo hi 0 (w.set a (-1)) a c.own.ws.length)] := by
          unfold canF; rw [one_blots (c := c.own) hw ha]; simp
        have hb1 : (blotsF (w.set a (-1))).length ≤ 2 := by rw [one_blots (c := c.own) hw ha]; simp
        have hd1 : c.own.Blotted (w.set a (-1)) := one_blotted hw ha
        have hd2 : c.own.Blotted ((w.set a (-1)).set b (-1)) := two_blotted hw ha hb
        have hk1 : (w.set a (-1)).count (-1) = 0 + 1 := one_count (c := c.own) hw ha
        have hmm : ∀ {lo' hi' : Int}, lo' ≤ lg → lg ≤ hi' → inB lo' hi' (2 * c.own.rim + c.own.longF w gs) = true := fun h1 h2 => inB_iff.2 (by show _ ≤ 2 * c.rim + c.longF w gs ∧ 2 * c.rim + c.longF w gs ≤ _; omega)
        have hg1 : agreesF c.own gs lo hi 1 (w.set a (-1)) = true := one_agrees (d := c.own) hw ha (hmm hlo.2 hhi.1)
        have hg2 : agreesF c.own gs lo hi (n + 1) ((w.set a (-1)).set b (-1)) = true := two_agrees (d := c.own) hw ha hb hcnt (hmm hlo.2 hhi.1)
        have hg3 : agreesF c.own gs lg lg (n + 1) ((w.set a (-1)).set b (-1)) = true := two_agrees (d := c.own) hw ha hb hcnt (hmm (Int.le_refl _) (Int.le_refl _))
        have hgap : ∀ w' : List Int, w'.length = w.length → gapsB w' gs = true := fun w' h => by
          unfold gapsB
          rw [Bool.and_eq_true, insB_iff]
          exact ⟨by simp only [beq_iff_eq]; omega, fun x hx => by have := hgb x hx; omega⟩
        have hblt : ∀ w' : List Int, w'.length = w.length → c.own.Blotted w' → c.own.blotted w' = true := fun w' h hB => by
          unfold Cs.blotted
          rw [Bool.and_eq_true, insB_iff, List.all_eq_true]
          refine ⟨fun x hx => by simp only [List.mem_singleton] at hx; omega, fun x hx => ?_⟩
          rcases hB x hx with rfl | h
          · rfl
          · rw [Bool.or_eq_true]; right; exact Cs.letters_iff.2 (fun y hy => by simp only [List.mem_singleton] at hy; subst hy; exact h)
        have hgt : Tame gs := ⟨by omega, fun x hx => by have := hgb x hx; omega⟩
        have hoV := own_valid hcV
        have hP := Can_any H c.own hoV false (decide ((w.set a (-1)).length = 0)) (decide (gs.length = 0)) (w.set a (-1)) gs lo hi (by omega) hgt ⟨hblt _ ho1 hd1, hgap _ ho1, hb1, hlo.1, by omega, hhi.2⟩ hd1 0 hk1 hg1
        have hQc := Can_any H c.own hoV false (decide (((w.set a (-1)).set b (-1)).length = 0)) (decide (gs.length = 0)) ((w.set a (-1)).set b (-1)) gs lo hi (by omega) hgt ⟨hblt _ ho2 hd2, hgap _ ho2, hbl2, hlo.1, by omega, hhi.2⟩ hd2 n hcnt hg2
        have hRc := Can_any H c.own hoV false (decide (((w.set a (-1)).set b (-1)).length = 0)) (decide (gs.length = 0)) ((w.set a (-1)).set b (-1)) gs lg lg (by omega) hgt ⟨hblt _ ho2 hd2, hgap _ ho2, hbl2, hlg1, by omega, by omega⟩ hd2 n hcnt hg3
        have hQn : decide ((Q.map selfRow).length = 0) = false := by simp; intro e; rw [e] at hQl; simp at hQl
        have hRn : decide ((R.map selfRow).length = 0) = false := by simp; intro e; rw [e] at hRl; simp at hRl
        rw [hc1] at hP
        rw [hcQ, hQn, List.length_map, hQl] at hQc
        rw [hcR, hRn, List.length_map, hRl] at hRc
        simp only [List.map_cons, List.map_nil, List.length_singleton, Nat.one_ne_zero, decide_false, Bool.and_false] at hP hQc hRc
        generalize lettersN c.own gs lo hi 0 (w.set a (-1)) a c.own.ws.length = L0 at hP hfk
        rw [show rowV (selfRow L0) = vself L0 from rfl] at hP
        clear hc1 hcQ hcR hg1 hg2 hg3 hd1 hd2 hcnt hbl2 hb1 hk1
        have hiO := ints_any H false false (w.set a (-1)) (by omega)
        have hiT := ints_any H false false ((w.set a (-1)).set b (-1)) (by omega)
        have hiG := ints_any H false gf gs (by omega)
        have hdn := own_any H c hcV.ok
        generalize w.set a (-1) = one at *
        generalize one.set b (-1) = two at *
        refine WpV.seq (WpV.region ?_)
        refine WpOps.take 7 (by simp only [go_sem, reduceCtorEq, Nat.reduceAdd, Nat.reduceMul, Nat.reduceSub, Nat.reduceLT, Nat.reduceLeDiff, Nat.reduceEqDiff, Nat.reduceBEq, Nat.reducePow, y13, hlta]; rfl) ?_
        refine WpOps.step (by rfl) (by rfl) (OpW.store (ty := 3) (cs := w.map vint) (id := i13) (ver := 0) (off := a) rfl (by simp only [go_sem, reduceCtorEq, Nat.reduceAdd, Nat.reduceMul, Nat.reduceSub, Nat.reduceLT, Nat.reduceLeDiff, Nat.reduceEqDiff, Nat.reduceBEq, Nat.reducePow]; try rfl) (by simp only [go_sem, reduceCtorEq, Nat.reduceAdd, Nat.reduceMul, Nat.reduceSub, Nat.reduceLT, Nat.reduceLeDiff, Nat.reduceEqDiff, Nat.reduceBEq, Nat.reducePow]; try rfl) y13 (by simp only [go_sem, reduceCtorEq, Nat.reduceAdd, Nat.reduceMul, Nat.reduceSub, Nat.reduceLT, Nat.reduceLeDiff, Nat.reduceEqDiff, Nat.reduceBEq, Nat.reducePow]; try rfl) (by exact Try.sz3) (by simp; omega) ?_)
        rw [hput1, Hp.set_comm _ _ _ n14, Hp.set_set]
        have y14 : ((H.set i13 (some (.cells 3 0 (one.map vint)))).set i14 (some (.cells 3 0 (w.map vint)))) i14 = some (.cells 3 0 (w.map vint)) := Hp.set_eq _ _ _
        refine WpOps.take 1 (by simp only [go_sem, reduceCtorEq, Nat.reduceAdd, Nat.reduceMul, Nat.reduceSub, Nat.reduceLT, Nat.reduceLeDiff, Nat.reduceEqDiff, Nat.reduceBEq, Nat.reducePow, y14, hlta]; rfl) ?_
        refine WpOps.step (by rfl) (by rfl) (OpW.store (ty := 3) (cs := w.map vint) (id := i14) (ver := 0) (off := a) rfl (by simp only [go_sem, reduceCtorEq, Nat.reduceAdd, Nat.reduceMul, Nat.reduceSub, Nat.reduceLT, Nat.reduceLeDiff, Nat.reduceEqDiff, Nat.reduceBEq, Nat.reducePow]; try rfl) (by simp only [go_sem, reduceCtorEq, Nat.reduceAdd, Nat.reduceMul, Nat.reduceSub, Nat.reduceLT, Nat.reduceLeDiff, Nat.reduceEqDiff, Nat.reduceBEq, Nat.reducePow]; try rfl) y14 (by simp only [go_sem, reduceCtorEq, Nat.reduceAdd, Nat.reduceMul, Nat.reduceSub, Nat.reduceLT, Nat.reduceLeDiff, Nat.reduceEqDiff, Nat.reduceBEq, Nat.reducePow]; try rfl) (by exact Try.sz3) (by simp; omega) ?_)
        rw [hput1, Hp.set_set]
        have y15 : ((H.set i13 (some (.cells 3 0 (one.map vint)))).set i14 (some (.cells 3 0 (one.map vint)))) i14 = some (.cells 3 0 (one.map vint)) := Hp.set_eq _ _ _
        refine WpOps.take 1 (by simp only [go_sem, reduceCtorEq, Nat.reduceAdd, Nat.reduceMul, Nat.reduceSub, Nat.reduceLT, Nat.reduceLeDiff, Nat.reduceEqDiff, Nat.reduceBEq, Nat.reducePow, y15, hltb]; rfl) ?_
        refine WpOps.step (by rfl) (by rfl) (OpW.store (ty := 3) (cs := one.map vint) (id := i14) (ver := 0) (off := b) rfl (by simp only [go_sem, reduceCtorEq, Nat.reduceAdd, Nat.reduceMul, Nat.reduceSub, Nat.reduceLT, Nat.reduceLeDiff, Nat.reduceEqDiff, Nat.reduceBEq, Nat.reducePow]; try rfl) (by simp only [go_sem, reduceCtorEq, Nat.reduceAdd, Nat.reduceMul, Nat.reduceSub, Nat.reduceLT, Nat.reduceLeDiff, Nat.reduceEqDiff, Nat.reduceBEq, Nat.reducePow]; try rfl) y15 (by simp only [go_sem, reduceCtorEq, Nat.reduceAdd, Nat.reduceMul, Nat.reduceSub, Nat.reduceLT, Nat.reduceLeDiff, Nat.reduceEqDiff, Nat.reduceBEq, Nat.reducePow]; try rfl) (by exact Try.sz3) (by simp; omega) ?_)
        rw [hput2, Hp.set_set]
        refine WpOps.nil ⟨Marks.nil _, ?_⟩
        simp only [Vthen, VinBlock, if_true, if_false, Nat.reduceEqDiff, reduceCtorEq]
        have z13 : ((H.set i13 (some (.cells 3 0 (one.map vint)))).set i14 (some (.cells 3 0 (two.map vint)))) i13 = some (.cells 3 0 (one.map vint)) := by rw [Hp.set_ne _ _ n14.symm]; exact Hp.set_eq _ _ _
        refine WpV.pre (Frz.slice (t := 14) rfl (Hp.set_eq _ _ _)) (Marks.nil _) ?_
        rw [Hp.set_set, Hp.set_same _ _ _ (show (H.set i13 (some (.cells 3 0 (one.map vint)))) i14 = none by rw [Hp.set_ne _ _ n14]; exact f14')]
        refine WpV.pre (Frz.slice (t := 13) rfl (Hp.set_eq _ _ _)) (Marks.nil _) ?_
        rw [Hp.set_set, Hp.set_same _ _ _ f13]
        rw [show AV.sl false false w.length (((one.map vint).drop 0).take (w.length * 1)) = vints false false one by rw [List.drop_zero, List.take_of_length_le (by simp; omega), ← ho1], show AV.sl false false w.length (((two.map vint).drop 0).take (w.length * 1)) = vints false false two by rw [List.drop_zero, List.take_of_length_le (by simp; omega), ← ho2]]
        clear y13 y14 y15 z13 hput1 hput2
        have n0 : ((0 : Int) != 0) = false := rfl
        have n1 : ((1 : Int) != 1) = false := rfl
        refine WpV.seq (WpV.regionD Try.mixed (by kernel_rfl) (by kernel_rfl) ?_)
        refine LexD.take 1 (by rfl) (by simp only [go_sem, reduceCtorEq, Nat.reduceAdd, Nat.reduceMul, Nat.reduceSub, Nat.reduceLT, Nat.reduceLeDiff, Nat.reduceEqDiff, Nat.reduceBEq, Nat.reducePow]; rfl) ?_
        refine LexD.step (by rfl) (by rfl) (OpW.callY rfl (by rfl) (by rfl) (by rfl) (enters_of Try.func10 (by kernel_rfl) rfl) (hdn)) ?_
        refine LexD.take 1 (by rfl) (by simp only [go_sem, reduceCtorEq, Nat.reduceAdd, Nat.reduceMul, Nat.reduceSub, Nat.reduceLT, Nat.reduceLeDiff, Nat.reduceEqDiff, Nat.reduceBEq, Nat.reducePow]; rfl) ?_
        refine LexD.step (by rfl) (by rfl) (OpW.callY rfl (by rfl) (by rfl) (by rfl) (enters_of Try.func8 (by kernel_rfl) rfl) (hiO)) ?_
        refine LexD.take 1 (by rfl) (by simp only [go_sem, reduceCtorEq, Nat.reduceAdd, Nat.reduceMul, Nat.reduceSub, Nat.reduceLT, Nat.reduceLeDiff, Nat.reduceEqDiff, Nat.reduceBEq, Nat.reducePow]; rfl) ?_
        refine LexD.step (by rfl) (by rfl) (OpW.callY rfl (by rfl) (by rfl) (by rfl) (enters_of Try.func8 (by kernel_rfl) rfl) (hiG)) ?_
        refine LexD.take 1 (by rfl) (by simp only [go_sem, reduceCtorEq, Nat.reduceAdd, Nat.reduceMul, Nat.reduceSub, Nat.reduceLT, Nat.reduceLeDiff, Nat.reduceEqDiff, Nat.reduceBEq, Nat.reducePow]; rfl) ?_
        refine LexD.step (by rfl) (by rfl) (OpW.callY rfl (by rfl) (by rfl) (by rfl) (enters_of Try.func9 (by kernel_rfl) rfl) (hP)) ?_
        refine LexD.take 5 (by rfl) (by simp only [go_sem, reduceCtorEq, Nat.reduceAdd, Nat.reduceMul, Nat.reduceSub, Nat.reduceLT, Nat.reduceLeDiff, Nat.reduceEqDiff, Nat.reduceBEq, Nat.reducePow]; rfl) (LexD.nilE ⟨Marks.nil _, ?_⟩)
        simp only [Vthen, VinBlock, if_true, if_false, Nat.reduceEqDiff, reduceCtorEq]
        refine WpV.seq (WpV.regionD Try.mixed (by kernel_rfl) (by kernel_rfl) ?_)
        refine LexD.take 1 (by rfl) (by simp only [go_sem, reduceCtorEq, Nat.reduceAdd, Nat.reduceMul, Nat.reduceSub, Nat.reduceLT, Nat.reduceLeDiff, Nat.reduceEqDiff, Nat.reduceBEq, Nat.reducePow]; rfl) ?_
        refine LexD.step (by rfl) (by rfl) (OpW.callY rfl (by rfl) (by rfl) (by rfl) (enters_of Try.func10 (by kernel_rfl) rfl) (hdn)) ?_
        refine LexD.take 1 (by rfl) (by simp only [go_sem, reduceCtorEq, Nat.reduceAdd, Nat.reduceMul, Nat.reduceSub, Nat.reduceLT, Nat.reduceLeDiff, Nat.reduceEqDiff, Nat.reduceBEq, Nat.reducePow]; rfl) ?_
        refine LexD.step (by rfl) (by rfl) (OpW.callY rfl (by rfl) (by rfl) (by rfl) (enters_of Try.func8 (by kernel_rfl) rfl) (hiT)) ?_
        refine LexD.take 1 (by rfl) (by simp only [go_sem, reduceCtorEq, Nat.reduceAdd, Nat.reduceMul, Nat.reduceSub, Nat.reduceLT, Nat.reduceLeDiff, Nat.reduceEqDiff, Nat.reduceBEq, Nat.reducePow]; rfl) ?_
        refine LexD.step (by rfl) (by rfl) (OpW.callY rfl (by rfl) (by rfl) (by rfl) (enters_of Try.func8 (by kernel_rfl) rfl) (hiG)) ?_
        refine LexD.take 1 (by rfl) (by simp only [go_sem, reduceCtorEq, Nat.reduceAdd, Nat.reduceMul, Nat.reduceSub, Nat.reduceLT, Nat.reduceLeDiff, Nat.reduceEqDiff, Nat.reduceBEq, Nat.reducePow]; rfl) ?_
        refine LexD.step (by rfl) (by rfl) (OpW.callY rfl (by rfl) (by rfl) (by rfl) (enters_of Try.func9 (by kernel_rfl) rfl) (hQc)) ?_
        refine LexD.take 5 (by rfl) (by simp only [go_sem, reduceCtorEq, Nat.reduceAdd, Nat.reduceMul, Nat.reduceSub, Nat.reduceLT, Nat.reduceLeDiff, Nat.reduceEqDiff, Nat.reduceBEq, Nat.reducePow]; rfl) (LexD.nilE ⟨Marks.nil _, ?_⟩)
        simp only [Vthen, VinBlock, if_true, if_false, Nat.reduceEqDiff, reduceCtorEq]
        refine WpV.seq (WpV.region ?_)
        refine WpOps.take 1 (by simp only [go_sem, reduceCtorEq, Nat.reduceAdd, Nat.reduceMul, Nat.reduceSub, Nat.reduceLT, Nat.reduceLeDiff, Nat.reduceEqDiff, Nat.reduceBEq, Nat.reducePow]; rfl) ?_
        refine WpOps.step (by rfl) (by rfl) (OpW.callY rfl (by rfl) (by rfl) (by rfl) (enters_of Try.func10 (by kernel_rfl) rfl) ((hdn).mono ?_))
        rintro _ _ ⟨rfl, hH⟩
        replace hH := hH.symm
        subst hH
        refine WpOps.take 1 (by simp only [go_sem, reduceCtorEq, Nat.reduceAdd, Nat.reduceMul, Nat.reduceSub, Nat.reduceLT, Nat.reduceLeDiff, Nat.reduceEqDiff, Nat.reduceBEq, Nat.reducePow]; rfl) ?_
        refine WpOps.step (by rfl) (by rfl) (OpW.callY rfl (by rfl) (by rfl) (by rfl) (enters_of Try.func8 (by kernel_rfl) rfl) ((hiT).mono ?_))
        rintro _ _ ⟨rfl, hH⟩
        replace hH := hH.symm
        subst hH
        refine WpOps.take 1 (by simp only [go_sem, reduceCtorEq, Nat.reduceAdd, Nat.reduceMul, Nat.reduceSub, Nat.reduceLT, Nat.reduceLeDiff, Nat.reduceEqDiff, Nat.reduceBEq, Nat.reducePow]; rfl) ?_
        refine WpOps.step (by rfl) (by rfl) (OpW.callY rfl (by rfl) (by rfl) (by rfl) (enters_of Try.func8 (by kernel_rfl) rfl) ((hiG).mono ?_))
        rintro _ _ ⟨rfl, hH⟩
        replace hH := hH.symm
        subst hH
        refine WpOps.take 2 (by simp only [go_sem, reduceCtorEq, Nat.reduceAdd, Nat.reduceMul, Nat.reduceSub, Nat.reduceLT, Nat.reduceLeDiff, Nat.reduceEqDiff, Nat.reduceBEq, Nat.reducePow]; rfl) ?_
        refine WpOps.step (by rfl) (by rfl) (OpW.callY rfl (by rfl) (by rfl) (by rfl) (enters_of Try.func7 (by kernel_rfl) rfl) ((span_any H lg lg).mono ?_))
        rintro _ _ ⟨rfl, hH⟩
        replace hH := hH.symm
        subst hH
        refine WpOps.step (by rfl) (by rfl) (OpW.callY rfl (by rfl) (by rfl) (by rfl) (enters_of Try.func9 (by kernel_rfl) rfl) ((hRc).mono ?_))
        rintro _ _ ⟨rfl, hH⟩
        replace hH := hH.symm
        subst hH
        refine WpOps.take 5 (by simp only [go_sem, reduceCtorEq, Nat.reduceAdd, Nat.reduceMul, Nat.reduceSub, Nat.reduceLT, Nat.reduceLeDiff, Nat.reduceEqDiff, Nat.reduceBEq, Nat.reducePow]; rfl) (WpOps.nil ⟨Marks.nil _, ?_⟩)
        simp only [Vthen, VinBlock, if_true, if_false, Nat.reduceEqDiff, reduceCtorEq]
        refine WpV.seq (WpV.regionE (by simp only [go_sem, reduceCtorEq, Nat.reduceAdd, Nat.reduceMul, Nat.reduceSub, Nat.reduceLT, Nat.reduceLeDiff, Nat.reduceEqDiff, Nat.reduceBEq, Nat.reducePow]; rfl) (Marks.nil _) ?_)
        simp only [Vthen, VinBlock, if_true, if_false, Nat.reduceEqDiff, reduceCtorEq]
        refine WpV.seqS [(8, vints false fl w), (15, vint a), (16, vint b), (17, .sl false false 1 [vself L0]), (19, .sl false false (n + 1) ((Q.map selfRow).map rowV)), (21, .sl false false (n + 1) ((R.map selfRow).map rowV)), (23, vint ((n + 1 : Nat) : Int)), (18, vint 0), (20, vint 0), (22, vint 0)] ?_ ?_
        · by_cases hab : a = b
          · have e1 : ((a : Int) == (b : Int)) = true := by simp; omega
            rw [if_pos hab] at hnM
            refine WpV.seq (WpV.regionE (by simp only [go_sem, reduceCtorEq, Nat.reduceAdd, Nat.reduceMul, Nat.reduceSub, Nat.reduceLT, Nat.reduceLeDiff, Nat.reduceEqDiff, Nat.reduceBEq, Nat.reducePow, e1]; rfl) (Marks.nil _) ?_)
            simp only [Vthen, VinBlock, if_true, if_false, Nat.reduceEqDiff, reduceCtorEq]
            refine WpV.cond rfl (fun hb => ?_) (fun hb => by cases hb)
            refine WpV.regionE (by simp only [go_sem, reduceCtorEq, Nat.reduceAdd, Nat.reduceMul, Nat.reduceSub, Nat.reduceLT, Nat.reduceLeDiff, Nat.reduceEqDiff, Nat.reduceBEq, Nat.reducePow]; rfl) (Marks.nil _) ?_
            simp only [Vthen, VinBlock, if_true, if_false, Nat.reduceEqDiff, reduceCtorEq]
            exact ⟨by first | rfl | trivial, by first | rfl | trivial, Sub.cons rfl rfl (Sub.cons rfl rfl (Sub.cons rfl rfl (Sub.cons rfl rfl (Sub.cons rfl rfl (Sub.cons rfl rfl (Sub.cons rfl (by rw [hnM]; rfl) (Sub.cons rfl rfl (Sub.cons rfl rfl (Sub.cons rfl rfl (Sub.nil _))))))))))⟩
          · have e1 : ((a : Int) == (b : Int)) = false := by simp; omega
            rw [if_neg hab] at hnM
            refine WpV.seq (WpV.regionE (by simp only [go_sem, reduceCtorEq, Nat.reduceAdd, Nat.reduceMul, Nat.reduceSub, Nat.reduceLT, Nat.reduceLeDiff, Nat.reduceEqDiff, Nat.reduceBEq, Nat.reducePow, e1]; rfl) (Marks.nil _) ?_)
            simp only [Vthen, VinBlock, if_true, if_false, Nat.reduceEqDiff, reduceCtorEq]
            refine WpV.cond rfl (fun hb => by cases hb) (fun hb => WpV.skip ?_)
            simp only [Vthen, VinBlock, if_true, if_false, Nat.reduceEqDiff, reduceCtorEq]
            exact ⟨by first | rfl | trivial, by first | rfl | trivial, Sub.cons rfl rfl (Sub.cons rfl rfl (Sub.cons rfl rfl (Sub.cons rfl rfl (Sub.cons rfl rfl (Sub.cons rfl rfl (Sub.cons rfl (by rw [hnM]; rfl) (Sub.cons rfl rfl (Sub.cons rfl rfl (Sub.cons rfl rfl (Sub.nil _))))))))))⟩
        have nM : (((n + 1 : Nat) : Int) != ((n + 1 : Nat) : Int)) = false := by simp
        have n1' : (((1 : Nat) : Int) != 1) = false := rfl
        have i01 : (0 : Int) ≤ 0 ∧ (0 : Int) < ((1 : Nat) : Int) := by decide
        refine WpV.seq ?_
        refine WpV.seq (WpV.region ?_)
        refine WpOps.take 8 (by simp only [go_sem, reduceCtorEq, Nat.reduceAdd, Nat.reduceMul, Nat.reduceSub, Nat.reduceLT, Nat.reduceLeDiff, Nat.reduceEqDiff, Nat.reduceBEq, Nat.reducePow, n0, n1, n1', nM]; rfl) ?_
        refine WpOps.take 8 (by simp only [go_sem, reduceCtorEq, Nat.reduceAdd, Nat.reduceMul, Nat.reduceSub, Nat.reduceLT, Nat.reduceLeDiff, Nat.reduceEqDiff, Nat.reduceBEq, Nat.reducePow, n0, n1, n1', nM]; rfl) ?_
        refine WpOps.take 8 (by simp only [go_sem, reduceCtorEq, Nat.reduceAdd, Nat.reduceMul, Nat.reduceSub, Nat.reduceLT, Nat.reduceLeDiff, Nat.reduceEqDiff, Nat.reduceBEq, Nat.reducePow, n0, n1, n1', nM]; rfl) ?_
        refine WpOps.take 3 (by simp only [go_sem, reduceCtorEq, Nat.reduceAdd, Nat.reduceMul, Nat.reduceSub, Nat.reduceLT, Nat.reduceLeDiff, Nat.reduceEqDiff, Nat.reduceBEq, Nat.reducePow, n0, n1, n1', nM]; rfl) (WpOps.nil ⟨Marks.nil _, ?_⟩)
        simp only [Vthen, VinBlock, if_true, if_false, Nat.reduceEqDiff, reduceCtorEq]
        refine WpV.cond rfl (fun hb => by cases hb) (fun hb => WpV.skip ?_)
        simp only [Vthen, VinBlock, if_true, if_false, Nat.reduceEqDiff, reduceCtorEq]
        refine WpV.seq ?_
        refine WpV.seq (WpV.regionE (by simp only [go_sem, reduceCtorEq, Nat.reduceAdd, Nat.reduceMul, Nat.reduceSub, Nat.reduceLT, Nat.reduceLeDiff, Nat.reduceEqDiff, Nat.reduceBEq, Nat.reducePow]; rfl) (Marks.nil _) ?_)
        simp only [Vthen, VinBlock, if_true, if_false, Nat.reduceEqDiff, reduceCtorEq]
        have hn2 : n + 1 ≤ 2 := by split at hnM <;> omega
        refine WpV.block (WpV.loopN (n + 1) (fun k => [(8, vints false fl w), (15, vint a), (16, vint b), (17, .sl false false 1 [vself L0]), (19, .sl false false (n + 1) ((Q.map selfRow).map rowV)), (21, .sl false false (n + 1) ((R.map selfRow).map rowV)), (23, vint ((n + 1 : Nat) : Int)), (24, vint k)]) (fun _ => H) ?_ rfl ?_)
        · exact .cons rfl rfl (.cons rfl rfl (.cons rfl rfl (.cons rfl rfl (.cons rfl rfl (.cons rfl rfl (.cons rfl rfl (.cons rfl rfl (.nil _))))))))
        · intro k hk
          refine WpV.seq ?_
          refine WpV.seq (WpV.regionE (by simp only [go_sem, reduceCtorEq, Nat.reduceAdd, Nat.reduceMul, Nat.reduceSub, Nat.reduceLT, Nat.reduceLeDiff, Nat.reduceEqDiff, Nat.reduceBEq, Nat.reducePow]; rfl) (Marks.nil _) ?_)
          simp only [Vthen, VinBlock, if_true, if_false, Nat.reduceEqDiff, reduceCtorEq]
          refine WpV.cond rfl (fun hb => WpV.skip ?_) (fun hb => WpV.exit ?_)
          · have hlt1 : (k : Int) < ((n + 1 : Nat) : Int) := of_decide_eq_true ‹_›
            have hlt' : k < n + 1 := by omega
            have hf := hfk k hlt'
            have hQk := row_at (Q := Q) (k := k) (by omega)
            have hRk := row_at (Q := R) (k := k) (by omega)
            have hwat := int_at (L := w) hf.lt
            have hatl : ((atK a b k : Nat) : Int) < (w.length : Int) := by have := hf.lt; omega
            have hlQ := hf.lenQ
            have hlR := hf.lenR
            have hl0' := hf.len0
            have hnk : IntKind.i64.wrap ((k : Int) + 1) = ((k + 1 : Nat) : Int) := by rw [wrap64 (by omega)]; rfl
            simp only [Vthen, VinBlock, if_true, if_false, Nat.reduceEqDiff, reduceCtorEq]
            refine WpV.seq (WpV.block ?_)
            refine WpV.seq (WpV.regionE (by simp only [go_sem, reduceCtorEq, Nat.reduceAdd, Nat.reduceMul, Nat.reduceSub, Nat.reduceLT, Nat.reduceLeDiff, Nat.reduceEqDiff, Nat.reduceBEq, Nat.reducePow, atK_min]; rfl) (Marks.nil _) ?_)
            simp only [Vthen, VinBlock, if_true, if_false, Nat.reduceEqDiff, reduceCtorEq]
            refine WpV.seqS [(8, vints false fl w), (15, vint a), (16, vint b), (17, .sl false false 1 [vself L0]), (19, .sl false false (n + 1) ((Q.map selfRow).map rowV)), (21, .sl false false (n + 1) ((R.map selfRow).map rowV)), (23, vint ((n + 1 : Nat) : Int)), (24, vint k), (25, vint (atK a b k))] ?_ ?_
            · by_cases hk1 : k = 1
              · have e1 : ((k : Int) == 1) = true := by simp; omega
                refine WpV.seq (WpV.regionE (by simp only [go_sem, reduceCtorEq, Nat.reduceAdd, Nat.reduceMul, Nat.reduceSub, Nat.reduceLT, Nat.reduceLeDiff, Nat.reduceEqDiff, Nat.reduceBEq, Nat.reducePow, e1]; rfl) (Marks.nil _) ?_)
                simp only [Vthen, VinBlock, if_true, if_false, Nat.reduceEqDiff, reduceCtorEq]
                refine WpV.cond rfl (fun hb => ?_) (fun hb => by cases hb)
                refine WpV.regionE (by simp only [go_sem, reduceCtorEq, Nat.reduceAdd, Nat.reduceMul, Nat.reduceSub, Nat.reduceLT, Nat.reduceLeDiff, Nat.reduceEqDiff, Nat.reduceBEq, Nat.reducePow, atK_max]; rfl) (Marks.nil _) ?_
                simp only [Vthen, VinBlock, if_true, if_false, Nat.reduceEqDiff, reduceCtorEq]
                exact ⟨by first | rfl | trivial, by first | rfl | trivial, Sub.cons rfl rfl (Sub.cons rfl rfl (Sub.cons rfl rfl (Sub.cons rfl rfl (Sub.cons rfl rfl (Sub.cons rfl rfl (Sub.cons rfl rfl (Sub.cons rfl rfl (Sub.cons rfl (by rw [atK, if_pos hk1]) (Sub.nil _)))))))))⟩
              · have e1 : ((k : Int) == 1) = false := by simp; omega
                refine WpV.seq (WpV.regionE (by simp only [go_sem, reduceCtorEq, Nat.reduceAdd, Nat.reduceMul, Nat.reduceSub, Nat.reduceLT, Nat.reduceLeDiff, Nat.reduceEqDiff, Nat.reduceBEq, Nat.reducePow, e1]; rfl) (Marks.nil _) ?_)
                simp only [Vthen, VinBlock, if_true, if_false, Nat.reduceEqDiff, reduceCtorEq]
                refine WpV.cond rfl (fun hb => by cases hb) (fun hb => WpV.skip ?_)
                simp only [Vthen, VinBlock, if_true, if_false, Nat.reduceEqDiff, reduceCtorEq]
                exact ⟨by first | rfl | trivial, by first | rfl | trivial, Sub.cons rfl rfl (Sub.cons rfl rfl (Sub.cons rfl rfl (Sub.cons rfl rfl (Sub.cons rfl rfl (Sub.cons rfl rfl (Sub.cons rfl rfl (Sub.cons rfl rfl (Sub.cons rfl (by rw [atK, if_neg hk1]) (Sub.nil _)))))))))⟩
            refine WpV.seqS [(8, vints false fl w), (15, vint a), (16, vint b), (17, .sl false false 1 [vself L0]), (19, .sl false false (n + 1) ((Q.map selfRow).map rowV)), (21, .sl false false (n + 1) ((R.map selfRow).map rowV)), (23, vint ((n + 1 : Nat) : Int)), (24, vint k), (25, vint (atK a b k))] ?_ ?_
            · by_cases hata : atK a b k = a
              · have e1 : (((atK a b k : Nat) : Int) == (a : Int)) = true := by rw [hata]; simp
                refine WpV.seq (WpV.regionD Try.mixed (by kernel_rfl) (by kernel_rfl) ?_)
                refine LexD.take 8 (by rfl) (by simp only [go_sem, reduceCtorEq, Nat.reduceAdd, Nat.reduceMul, Nat.reduceSub, Nat.reduceLT, Nat.reduceLeDiff, Nat.reduceEqDiff, Nat.reduceBEq, Nat.reducePow, hlt1, hQk, hRk, hatl, hwat, e1, i01, t0]; rfl) ?_
                refine LexD.step (by rfl) (by rfl) (OpW.callY rfl (by rfl) (by rfl) (by rfl) (enters_of Try.func11 (by kernel_rfl) rfl) (has_in H _ (by omega) hf.inQ)) ?_
                refine LexD.take 8 (by rfl) (by simp only [go_sem, reduceCtorEq, Nat.reduceAdd, Nat.reduceMul, Nat.reduceSub, Nat.reduceLT, Nat.reduceLeDiff, Nat.reduceEqDiff, Nat.reduceBEq, Nat.reducePow, hlt1, hQk, hRk, hatl, hwat, e1, i01, t0]; rfl) ?_
                refine LexD.take 2 (by rfl) (by simp only [go_sem, reduceCtorEq, Nat.reduceAdd, Nat.reduceMul, Nat.reduceSub, Nat.reduceLT, Nat.reduceLeDiff, Nat.reduceEqDiff, Nat.reduceBEq, Nat.reducePow, hlt1, hQk, hRk, hatl, hwat, e1, i01, t0]; rfl) ?_
                refine LexD.step (by rfl) (by rfl) (OpW.callY rfl (by rfl) (by rfl) (by rfl) (enters_of Try.func11 (by kernel_rfl) rfl) (has_in H _ (by omega) hf.inR)) ?_
                refine LexD.take 8 (by rfl) (by simp only [go_sem, reduceCtorEq, Nat.reduceAdd, Nat.reduceMul, Nat.reduceSub, Nat.reduceLT, Nat.reduceLeDiff, Nat.reduceEqDiff, Nat.reduceBEq, Nat.reducePow, hlt1, hQk, hRk, hatl, hwat, e1, i01, t0]; rfl) ?_
                refine LexD.take 6 (by rfl) (by simp only [go_sem, reduceCtorEq, Nat.reduceAdd, Nat.reduceMul, Nat.reduceSub, Nat.reduceLT, Nat.reduceLeDiff, Nat.reduceEqDiff, Nat.reduceBEq, Nat.reducePow, hlt1, hQk, hRk, hatl, hwat, e1, i01, t0]; rfl) ?_
                refine LexD.step (by rfl) (by rfl) (OpW.callY rfl (by rfl) (by rfl) (by rfl) (enters_of Try.func11 (by kernel_rfl) rfl) (has_in H L0 (by omega) (hf.in0 hata))) ?_
                refine LexD.take 3 (by rfl) (by simp only [go_sem, reduceCtorEq, Nat.reduceAdd, Nat.reduceMul, Nat.reduceSub, Nat.reduceLT, Nat.reduceLeDiff, Nat.reduceEqDiff, Nat.reduceBEq, Nat.reducePow, hlt1, hQk, hRk, hatl, hwat, e1, i01, t0]; rfl) (LexD.nilE ⟨Marks.nil _, ?_⟩)
                simp only [Vthen, VinBlock, if_true, if_false, Nat.reduceEqDiff, reduceCtorEq]
                refine WpV.cond rfl (fun hb => by cases hb) (fun hb => WpV.skip ?_)
                simp only [Vthen, VinBlock, if_true, if_false, Nat.reduceEqDiff, reduceCtorEq]
                exact ⟨by first | rfl | trivial, by first | rfl | trivial, Sub.cons rfl rfl (Sub.cons rfl rfl (Sub.cons rfl rfl (Sub.cons rfl rfl (Sub.cons rfl rfl (Sub.cons rfl rfl (Sub.cons rfl rfl (Sub.cons rfl rfl (Sub.cons rfl rfl (Sub.nil _)))))))))⟩
              · have e1 : (((atK a b k : Nat) : Int) == (a : Int)) = false := by simp; omega
                refine WpV.seq (WpV.regionD Try.mixed (by kernel_rfl) (by kernel_rfl) ?_)
                refine LexD.take 8 (by rfl) (by simp only [go_sem, reduceCtorEq, Nat.reduceAdd, Nat.reduceMul, Nat.reduceSub, Nat.reduceLT, Nat.reduceLeDiff, Nat.reduceEqDiff, Nat.reduceBEq, Nat.reducePow, hlt1, hQk, hRk, hatl, hwat, e1]; rfl) ?_
                refine LexD.step (by rfl) (by rfl) (OpW.callY rfl (by rfl) (by rfl) (by rfl) (enters_of Try.func11 (by kernel_rfl) rfl) (has_in H _ (by omega) hf.inQ)) ?_
                refine LexD.take 8 (by rfl) (by simp only [go_sem, reduceCtorEq, Nat.reduceAdd, Nat.reduceMul, Nat.reduceSub, Nat.reduceLT, Nat.reduceLeDiff, Nat.reduceEqDiff, Nat.reduceBEq, Nat.reducePow, hlt1, hQk, hRk, hatl, hwat, e1]; rfl) ?_
                refine LexD.take 2 (by rfl) (by simp only [go_sem, reduceCtorEq, Nat.reduceAdd, Nat.reduceMul, Nat.reduceSub, Nat.reduceLT, Nat.reduceLeDiff, Nat.reduceEqDiff, Nat.reduceBEq, Nat.reducePow, hlt1, hQk, hRk, hatl, hwat, e1]; rfl) ?_
                refine LexD.step (by rfl) (by rfl) (OpW.callY rfl (by rfl) (by rfl) (by rfl) (enters_of Try.func11 (by kernel_rfl) rfl) (has_in H _ (by omega) hf.inR)) ?_
                refine LexD.take 8 (by rfl) (by simp only [go_sem, reduceCtorEq, Nat.reduceAdd, Nat.reduceMul, Nat.reduceSub, Nat.reduceLT, Nat.reduceLeDiff, Nat.reduceEqDiff, Nat.reduceBEq, Nat.reducePow, hlt1, hQk, hRk, hatl, hwat, e1]; rfl) ?_
                refine LexD.take 8 (by rfl) (by simp only [go_sem, reduceCtorEq, Nat.reduceAdd, Nat.reduceMul, Nat.reduceSub, Nat.reduceLT, Nat.reduceLeDiff, Nat.reduceEqDiff, Nat.reduceBEq, Nat.reducePow, hlt1, hQk, hRk, hatl, hwat, e1]; rfl) ?_
                refine LexD.take 2 (by rfl) (by simp only [go_sem, reduceCtorEq, Nat.reduceAdd, Nat.reduceMul, Nat.reduceSub, Nat.reduceLT, Nat.reduceLeDiff, Nat.reduceEqDiff, Nat.reduceBEq, Nat.reducePow, hlt1, hQk, hRk, hatl, hwat, e1]; rfl) (LexD.nilE ⟨Marks.nil _, ?_⟩)
                simp only [Vthen, VinBlock, if_true, if_false, Nat.reduceEqDiff, reduceCtorEq]
                refine WpV.cond rfl (fun hb => by cases hb) (fun hb => WpV.skip ?_)
                simp only [Vthen, VinBlock, if_true, if_false, Nat.reduceEqDiff, reduceCtorEq]
                exact ⟨by first | rfl | trivial, by first | rfl | trivial, Sub.cons rfl rfl (Sub.cons rfl rfl (Sub.cons rfl rfl (Sub.cons rfl rfl (Sub.cons rfl rfl (Sub.cons rfl rfl (Sub.cons rfl rfl (Sub.cons rfl rfl (Sub.cons rfl rfl (Sub.nil _)))))))))⟩
            have hlow := hf.low
            have hup := hf.up
            have hsub := hf.subR
            have hinQ := fun y hy => has_in H (Q.getD k []) (by omega) (y := y) hy
            have hs0 := hf.sub0
            generalize Q.getD k [] = LQ at *
            generalize R.getD k [] = LR at *
            refine WpV.seqS [(8, vints false fl w), (15, vint a), (16, vint b), (17, .sl false false 1 [vself L0]), (19, .sl false false (n + 1) ((Q.map selfRow).map rowV)), (21, .sl false false (n + 1) ((R.map selfRow).map rowV)), (23, vint ((n + 1 : Nat) : Int)), (24, vint k), (25, vint (atK a b k))] ?_ ?_
            · refine WpV.seq (WpV.regionE (by simp only [go_sem, reduceCtorEq, Nat.reduceAdd, Nat.reduceMul, Nat.reduceSub, Nat.reduceLT, Nat.reduceLeDiff, Nat.reduceEqDiff, Nat.reduceBEq, Nat.reducePow]; rfl) (Marks.nil _) ?_)
              simp only [Vthen, VinBlock, if_true, if_false, Nat.reduceEqDiff, reduceCtorEq]
              refine WpV.block (WpV.loopN LQ.length (fun i => [(8, vints false fl w), (15, vint a), (16, vint b), (17, .sl false false 1 [vself L0]), (19, .sl false false (n + 1) ((Q.map selfRow).map rowV)), (21, .sl false false (n + 1) ((R.map selfRow).map rowV)), (23, vint ((n + 1 : Nat) : Int)), (24, vint k), (25, vint (atK a b k)), (26, vint i)]) (fun _ => H) ?_ rfl ?_)
              · exact .cons rfl rfl (.cons rfl rfl (.cons rfl rfl (.cons rfl rfl (.cons rfl rfl (.cons rfl rfl (.cons rfl rfl (.cons rfl rfl (.cons rfl rfl (.cons rfl rfl (.nil _))))))))))
              · intro i hi
                have hnext : IntKind.i64.wrap ((i : Int) + 1) = ((i + 1 : Nat) : Int) := by rw [wrap64 (by omega)]; rfl
                refine WpV.seq ?_
                refine WpV.seq (WpV.regionE (by simp only [go_sem, reduceCtorEq, Nat.reduceAdd, Nat.reduceMul, Nat.reduceSub, Nat.reduceLT, Nat.reduceLeDiff, Nat.reduceEqDiff, Nat.reduceBEq, Nat.reducePow, hlt1, hQk]; rfl) (Marks.nil _) ?_)
                simp only [Vthen, VinBlock, if_true, if_false, Nat.reduceEqDiff, reduceCtorEq]
                refine WpV.cond rfl (fun hb => WpV.skip ?_) (fun hb => WpV.exit ?_)
                · have hlt2 : (i : Int) < (LQ.length : Int) := of_decide_eq_true ‹_›
                  have hlt2' : i < LQ.length := by omega
                  have hqi := int_at hlt2'
                  have hyl := hlow _ (getD_mem hlt2')
                  have y0 : ¬ (LQ.getD i 0 < 0) := by omega
                  have y5 : ¬ (LQ.getD i 0 > 5) := by omega
                  simp only [Vthen, VinBlock, if_true, if_false, Nat.reduceEqDiff, reduceCtorEq]
                  refine WpV.seq (WpV.block ?_)
                  by_cases hi0 : i = 0
                  · have e0 : ¬ ((i : Int) > 0) := by omega
                    refine WpV.seq (WpV.regionD Try.mixed (by kernel_rfl) (by kernel_rfl) ?_)
                    refine LexD.take 8 (by rfl) (by simp only [go_sem, reduceCtorEq, Nat.reduceAdd, Nat.reduceMul, Nat.reduceSub, Nat.reduceLT, Nat.reduceLeDiff, Nat.reduceEqDiff, Nat.reduceBEq, Nat.reducePow, hlt1, hQk, hlt2, hqi, y0, y5, e0]; rfl) ?_
                    refine LexD.take 8 (by rfl) (by simp only [go_sem, reduceCtorEq, Nat.reduceAdd, Nat.reduceMul, Nat.reduceSub, Nat.reduceLT, Nat.reduceLeDiff, Nat.reduceEqDiff, Nat.reduceBEq, Nat.reducePow, hlt1, hQk, hlt2, hqi, y0, y5, e0]; rfl) ?_
                    refine LexD.take 8 (by rfl) (by simp only [go_sem, reduceCtorEq, Nat.reduceAdd, Nat.reduceMul, Nat.reduceSub, Nat.reduceLT, Nat.reduceLeDiff, Nat.reduceEqDiff, Nat.reduceBEq, Nat.reducePow, hlt1, hQk, hlt2, hqi, y0, y5, e0]; rfl) ?_
                    refine LexD.take 8 (by rfl) (by simp only [go_sem, reduceCtorEq, Nat.reduceAdd, Nat.reduceMul, Nat.reduceSub, Nat.reduceLT, Nat.reduceLeDiff, Nat.reduceEqDiff, Nat.reduceBEq, Nat.reducePow, hlt1, hQk, hlt2, hqi, y0, y5, e0]; rfl) ?_
                    refine LexD.take 8 (by rfl) (by simp only [go_sem, reduceCtorEq, Nat.reduceAdd, Nat.reduceMul, Nat.reduceSub, Nat.reduceLT, Nat.reduceLeDiff, Nat.reduceEqDiff, Nat.reduceBEq, Nat.reducePow, hlt1, hQk, hlt2, hqi, y0, y5, e0]; rfl) (LexD.nilE ⟨Marks.nil _, ?_⟩)
                    simp only [Vthen, VinBlock, if_true, if_false, Nat.reduceEqDiff, reduceCtorEq]
                    refine WpV.cond rfl (fun hb => by cases hb) (fun hb => WpV.skip ?_)
                    simp only [Vthen, VinBlock, if_true, if_false, Nat.reduceEqDiff, reduceCtorEq]
                    refine WpV.regionE (by simp only [go_sem, reduceCtorEq, Nat.reduceAdd, Nat.reduceMul, Nat.reduceSub, Nat.reduceLT, Nat.reduceLeDiff, Nat.reduceEqDiff, Nat.reduceBEq, Nat.reducePow, hnext]; rfl) (Marks.nil _) ?_
                    simp only [Vthen, VinBlock, if_true, if_false, Nat.reduceEqDiff, reduceCtorEq]
                    exact ⟨by first | rfl | trivial, hlt2', .cons rfl rfl (.cons rfl rfl (.cons rfl rfl (.cons rfl rfl (.cons rfl rfl (.cons rfl rfl (.cons rfl rfl (.cons rfl rfl (.cons rfl rfl (.cons rfl rfl (.nil _)))))))))), by first | rfl | trivial⟩
                  · have e0 : (i : Int) > 0 := by omega
                    have wi : IntKind.i64.wrap ((i : Int) - 1) = ((i - 1 : Nat) : Int) := by rw [wrap64 (by omega)]; omega
                    have hlt3 : ((i - 1 : Nat) : Int) < (LQ.length : Int) := by omega
                    have hqj := int_at (L := LQ) (k := i - 1) (by omega)
                    have hua := up_at hup (i := i - 1) (by omega)
                    rw [show i - 1 + 1 = i by omega] at hua
                    have yle : ¬ (LQ.getD i 0 ≤ LQ.getD (i - 1) 0) := by omega
                    refine WpV.seq (WpV.regionD Try.mixed (by kernel_rfl) (by kernel_rfl) ?_)
                    refine LexD.take 8 (by rfl) (by simp only [go_sem, reduceCtorEq, Nat.reduceAdd, Nat.reduceMul, Nat.reduceSub, Nat.reduceLT, Nat.reduceLeDiff, Nat.reduceEqDiff, Nat.reduceBEq, Nat.reducePow, hlt1, hQk, hlt2, hqi, y0, y5, e0, wi, hlt3, hqj, yle]; rfl) ?_
                    refine LexD.take 8 (by rfl) (by simp only [go_sem, reduceCtorEq, Nat.reduceAdd, Nat.reduceMul, Nat.reduceSub, Nat.reduceLT, Nat.reduceLeDiff, Nat.reduceEqDiff, Nat.reduceBEq, Nat.reducePow, hlt1, hQk, hlt2, hqi, y0, y5, e0, wi, hlt3, hqj, yle]; rfl) ?_
                    refine LexD.take 8 (by rfl) (by simp only [go_sem, reduceCtorEq, Nat.reduceAdd, Nat.reduceMul, Nat.reduceSub, Nat.reduceLT, Nat.reduceLeDiff, Nat.reduceEqDiff, Nat.reduceBEq, Nat.reducePow, hlt1, hQk, hlt2, hqi, y0, y5, e0, wi, hlt3, hqj, yle]; rfl) ?_
                    refine LexD.take 8 (by rfl) (by simp only [go_sem, reduceCtorEq, Nat.reduceAdd, Nat.reduceMul, Nat.reduceSub, Nat.reduceLT, Nat.reduceLeDiff, Nat.reduceEqDiff, Nat.reduceBEq, Nat.reducePow, hlt1, hQk, hlt2, hqi, y0, y5, e0, wi, hlt3, hqj, yle]; rfl) ?_
                    refine LexD.take 8 (by rfl) (by simp only [go_sem, reduceCtorEq, Nat.reduceAdd, Nat.reduceMul, Nat.reduceSub, Nat.reduceLT, Nat.reduceLeDiff, Nat.reduceEqDiff, Nat.reduceBEq, Nat.reducePow, hlt1, hQk, hlt2, hqi, y0, y5, e0, wi, hlt3, hqj, yle]; rfl) (LexD.nilE ⟨Marks.nil _, ?_⟩)
                    simp only [Vthen, VinBlock, if_true, if_false, Nat.reduceEqDiff, reduceCtorEq]
                    refine WpV.cond rfl (fun hb => by cases hb) (fun hb => WpV.skip ?_)
                    simp only [Vthen, VinBlock, if_true, if_false, Nat.reduceEqDiff, reduceCtorEq]
                    refine WpV.regionE (by simp only [go_sem, reduceCtorEq, Nat.reduceAdd, Nat.reduceMul, Nat.reduceSub, Nat.reduceLT, Nat.reduceLeDiff, Nat.reduceEqDiff, Nat.reduceBEq, Nat.reducePow, hnext]; rfl) (Marks.nil _) ?_
                    simp only [Vthen, VinBlock, if_true, if_false, Nat.reduceEqDiff, reduceCtorEq]
                    exact ⟨by first | rfl | trivial, hlt2', .cons rfl rfl (.cons rfl rfl (.cons rfl rfl (.cons rfl rfl (.cons rfl rfl (.cons rfl rfl (.cons rfl rfl (.cons rfl rfl (.cons rfl rfl (.cons rfl rfl (.nil _)))))))))), by first | rfl | trivial⟩
                · have hge : i = LQ.length := by have := of_decide_eq_false ‹_›; omega
                  simp only [Vthen, VinBlock, if_true, if_false, Nat.reduceEqDiff, reduceCtorEq]
                  exact ⟨by first | rfl | trivial, by first | rfl | trivial, Sub.cons rfl rfl (Sub.cons rfl rfl (Sub.cons rfl rfl (Sub.cons rfl rfl (Sub.cons rfl rfl (Sub.cons rfl rfl (Sub.cons rfl rfl (Sub.cons rfl rfl (Sub.cons rfl rfl (Sub.nil _)))))))))⟩
            refine WpV.seqS [(8, vints false fl w), (15, vint a), (16, vint b), (17, .sl false false 1 [vself L0]), (19, .sl false false (n + 1) ((Q.map selfRow).map rowV)), (21, .sl false false (n + 1) ((R.map selfRow).map rowV)), (23, vint ((n + 1 : Nat) : Int)), (24, vint k), (25, vint (atK a b k))] ?_ ?_
            · refine WpV.seq (WpV.regionE (by simp only [go_sem, reduceCtorEq, Nat.reduceAdd, Nat.reduceMul, Nat.reduceSub, Nat.reduceLT, Nat.reduceLeDiff, Nat.reduceEqDiff, Nat.reduceBEq, Nat.reducePow]; rfl) (Marks.nil _) ?_)
              simp only [Vthen, VinBlock, if_true, if_false, Nat.reduceEqDiff, reduceCtorEq]
              refine WpV.block (WpV.loopN LR.length (fun i => [(8, vints false fl w), (15, vint a), (16, vint b), (17, .sl false false 1 [vself L0]), (19, .sl false false (n + 1) ((Q.map selfRow).map rowV)), (21, .sl false false (n + 1) ((R.map selfRow).map rowV)), (23, vint ((n + 1 : Nat) : Int)), (24, vint k), (25, vint (atK a b k)), (27, vint i)]) (fun _ => H) ?_ rfl ?_)
              · exact .cons rfl rfl (.cons rfl rfl (.cons rfl rfl (.cons rfl rfl (.cons rfl rfl (.cons rfl rfl (.cons rfl rfl (.cons rfl rfl (.cons rfl rfl (.cons rfl rfl (.nil _))))))))))
              · intro i hi
                have hnext : IntKind.i64.wrap ((i : Int) + 1) = ((i + 1 : Nat) : Int) := by rw [wrap64 (by omega)]; rfl
                refine WpV.seq ?_
                refine WpV.seq (WpV.regionE (by simp only [go_sem, reduceCtorEq, Nat.reduceAdd, Nat.reduceMul, Nat.reduceSub, Nat.reduceLT, Nat.reduceLeDiff, Nat.reduceEqDiff, Nat.reduceBEq, Nat.reducePow, hlt1, hRk]; rfl) (Marks.nil _) ?_)
                simp only [Vthen, VinBlock, if_true, if_false, Nat.reduceEqDiff, reduceCtorEq]
                refine WpV.cond rfl (fun hb => WpV.skip ?_) (fun hb => WpV.exit ?_)
                · have hlt2 : (i : Int) < (LR.length : Int) := of_decide_eq_true ‹_›
                  have hlt2' : i < LR.length := by omega
                  have hri := int_at hlt2'
                  simp only [Vthen, VinBlock, if_true, if_false, Nat.reduceEqDiff, reduceCtorEq]
                  refine WpV.seq (WpV.block ?_)
                  refine WpV.seq (WpV.regionD Try.mixed (by kernel_rfl) (by kernel_rfl) ?_)
                  refine LexD.take 8 (by rfl) (by simp only [go_sem, reduceCtorEq, Nat.reduceAdd, Nat.reduceMul, Nat.reduceSub, Nat.reduceLT, Nat.reduceLeDiff, Nat.reduceEqDiff, Nat.reduceBEq, Nat.reducePow, hlt1, hQk, hRk, hlt2, hri]; rfl) ?_
                  refine LexD.take 3 (by rfl) (by simp only [go_sem, reduceCtorEq, Nat.reduceAdd, Nat.reduceMul, Nat.reduceSub, Nat.reduceLT, Nat.reduceLeDiff, Nat.reduceEqDiff, Nat.reduceBEq, Nat.reducePow, hlt1, hQk, hRk, hlt2, hri]; rfl) ?_
                  refine LexD.step (by rfl) (by rfl) (OpW.callY rfl (by rfl) (by rfl) (by rfl) (enters_of Try.func11 (by kernel_rfl) rfl) (hinQ _ (hsub _ (getD_mem hlt2')))) ?_
                  refine LexD.take 1 (by rfl) (by simp only [go_sem, reduceCtorEq, Nat.reduceAdd, Nat.reduceMul, Nat.reduceSub, Nat.reduceLT, Nat.reduceLeDiff, Nat.reduceEqDiff, Nat.reduceBEq, Nat.reducePow, hlt1, hQk, hRk, hlt2, hri]; rfl) (LexD.nilE ⟨Marks.nil _, ?_⟩)
                  simp only [Vthen, VinBlock, if_true, if_false, Nat.reduceEqDiff, reduceCtorEq]
                  refine WpV.cond rfl (fun hb => by cases hb) (fun hb => WpV.skip ?_)
                  simp only [Vthen, VinBlock, if_true, if_false, Nat.reduceEqDiff, reduceCtorEq]
                  refine WpV.regionE (by simp only [go_sem, reduceCtorEq, Nat.reduceAdd, Nat.reduceMul, Nat.reduceSub, Nat.reduceLT, Nat.reduceLeDiff, Nat.reduceEqDiff, Nat.reduceBEq, Nat.reducePow, hnext]; rfl) (Marks.nil _) ?_
                  simp only [Vthen, VinBlock, if_true, if_false, Nat.reduceEqDiff, reduceCtorEq]
                  exact ⟨by first | rfl | trivial, hlt2', .cons rfl rfl (.cons rfl rfl (.cons rfl rfl (.cons rfl rfl (.cons rfl rfl (.cons rfl rfl (.cons rfl rfl (.cons rfl rfl (.cons rfl rfl (.cons rfl rfl (.nil _)))))))))), by first | rfl | trivial⟩
                · have hge : i = LR.length := by have := of_decide_eq_false ‹_›; omega
                  simp only [Vthen, VinBlock, if_true, if_false, Nat.reduceEqDiff, reduceCtorEq]
                  exact ⟨by first | rfl | trivial, by first | rfl | trivial, Sub.cons rfl rfl (Sub.cons rfl rfl (Sub.cons rfl rfl (Sub.cons rfl rfl (Sub.cons rfl rfl (Sub.cons rfl rfl (Sub.cons rfl rfl (Sub.cons rfl rfl (Sub.cons rfl rfl (Sub.nil _)))))))))⟩
            by_cases hata : atK a b k = a
            · have e1 : (((atK a b k : Nat) : Int) == (a : Int)) = true := by rw [hata]; simp
              refine WpV.seq (WpV.regionE (by simp only [go_sem, reduceCtorEq, Nat.reduceAdd, Nat.reduceMul, Nat.reduceSub, Nat.reduceLT, Nat.reduceLeDiff, Nat.reduceEqDiff, Nat.reduceBEq, Nat.reducePow]; rfl) (Marks.nil _) ?_)
              simp only [Vthen, VinBlock, if_true, if_false, Nat.reduceEqDiff, reduceCtorEq]
              refine WpV.block (WpV.loopN L0.length (fun i => [(8, vints false fl w), (15, vint a), (16, vint b), (17, .sl false false 1 [vself L0]), (19, .sl false false (n + 1) ((Q.map selfRow).map rowV)), (21, .sl false false (n + 1) ((R.map selfRow).map rowV)), (23, vint ((n + 1 : Nat) : Int)), (24, vint k), (25, vint (atK a b k)), (28, vint i)]) (fun _ => H) ?_ rfl ?_)
              · exact .cons rfl rfl (.cons rfl rfl (.cons rfl rfl (.cons rfl rfl (.cons rfl rfl (.cons rfl rfl (.cons rfl rfl (.cons rfl rfl (.cons rfl rfl (.cons rfl rfl (.nil _))))))))))
              · intro i hi
                have hnext : IntKind.i64.wrap ((i : Int) + 1) = ((i + 1 : Nat) : Int) := by rw [wrap64 (by omega)]; rfl
                refine WpV.seq ?_
                by_cases hlt2 : (i : Int) < (L0.length : Int)
                · have hlt2' : i < L0.length := by omega
                  have hri := int_at hlt2'
                  refine WpV.seq (WpV.regionE (by simp only [go_sem, reduceCtorEq, Nat.reduceAdd, Nat.reduceMul, Nat.reduceSub, Nat.reduceLT, Nat.reduceLeDiff, Nat.reduceEqDiff, Nat.reduceBEq, Nat.reducePow, i01, t0, hlt2, e1]; rfl) (Marks.nil _) ?_)
                  simp only [Vthen, VinBlock, if_true, if_false, Nat.reduceEqDiff, reduceCtorEq]
                  refine WpV.cond rfl (fun hb => WpV.skip ?_) (fun hb => by cases hb)
                  simp only [Vthen, VinBlock, if_true, if_false, Nat.reduceEqDiff, reduceCtorEq]
                  refine WpV.seq (WpV.block ?_)
                  refine WpV.seq (WpV.regionD Try.mixed (by kernel_rfl) (by kernel_rfl) ?_)
                  refine LexD.take 8 (by rfl) (by simp only [go_sem, reduceCtorEq, Nat.reduceAdd, Nat.reduceMul, Nat.reduceSub, Nat.reduceLT, Nat.reduceLeDiff, Nat.reduceEqDiff, Nat.reduceBEq, Nat.reducePow, hlt1, hQk, i01, t0, hlt2, hri]; rfl) ?_
                  refine LexD.take 2 (by rfl) (by simp only [go_sem, reduceCtorEq, Nat.reduceAdd, Nat.reduceMul, Nat.reduceSub, Nat.reduceLT, Nat.reduceLeDiff, Nat.reduceEqDiff, Nat.reduceBEq, Nat.reducePow, hlt1, hQk, i01, t0, hlt2, hri]; rfl) ?_
                  refine LexD.step (by rfl) (by rfl) (OpW.callY rfl (by rfl) (by rfl) (by rfl) (enters_of Try.func11 (by kernel_rfl) rfl) (hinQ _ (hs0 hata _ (getD_mem hlt2')))) ?_
                  refine LexD.take 1 (by rfl) (by simp only [go_sem, reduceCtorEq, Nat.reduceAdd, Nat.reduceMul, Nat.reduceSub, Nat.reduceLT, Nat.reduceLeDiff, Nat.reduceEqDiff, Nat.reduceBEq, Nat.reducePow, hlt1, hQk, i01, t0, hlt2, hri]; rfl) (LexD.nilE ⟨Marks.nil _, ?_⟩)
                  simp only [Vthen, VinBlock, if_true, if_false, Nat.reduceEqDiff, reduceCtorEq]
                  refine WpV.cond rfl (fun hb => by cases hb) (fun hb => WpV.skip ?_)
                  simp only [Vthen, VinBlock, if_true, if_false, Nat.reduceEqDiff, reduceCtorEq]
                  refine WpV.regionE (by simp only [go_sem, reduceCtorEq, Nat.reduceAdd, Nat.reduceMul, Nat.reduceSub, Nat.reduceLT, Nat.reduceLeDiff, Nat.reduceEqDiff, Nat.reduceBEq, Nat.reducePow, hnext]; rfl) (Marks.nil _) ?_
                  simp only [Vthen, VinBlock, if_true, if_false, Nat.reduceEqDiff, reduceCtorEq]
                  exact ⟨by first | rfl | trivial, hlt2', .cons rfl rfl (.cons rfl rfl (.cons rfl rfl (.cons rfl rfl (.cons rfl rfl (.cons rfl rfl (.cons rfl rfl (.cons rfl rfl (.cons rfl rfl (.cons rfl rfl (.nil _)))))))))), by first | rfl | trivial⟩
                · refine WpV.seq (WpV.regionE (by simp only [go_sem, reduceCtorEq, Nat.reduceAdd, Nat.reduceMul, Nat.reduceSub, Nat.reduceLT, Nat.reduceLeDiff, Nat.reduceEqDiff, Nat.reduceBEq, Nat.reducePow, i01, t0, hlt2, e1]; rfl) (Marks.nil _) ?_)
                  simp only [Vthen, VinBlock, if_true, if_false, Nat.reduceEqDiff, reduceCtorEq]
                  refine WpV.cond rfl (fun hb => by cases hb) (fun hb => WpV.exit ?_)
                  simp only [Vthen, VinBlock, if_true, if_false, Nat.reduceEqDiff, reduceCtorEq]
                  refine WpV.regionE (by simp only [go_sem, reduceCtorEq, Nat.reduceAdd, Nat.reduceMul, Nat.reduceSub, Nat.reduceLT, Nat.reduceLeDiff, Nat.reduceEqDiff, Nat.reduceBEq, Nat.reducePow, hnk]; rfl) (Marks.nil _) ?_
                  simp only [Vthen, VinBlock, if_true, if_false, Nat.reduceEqDiff, reduceCtorEq]
                  exact ⟨by first | rfl | trivial, hlt', .cons rfl rfl (.cons rfl rfl (.cons rfl rfl (.cons rfl rfl (.cons rfl rfl (.cons rfl rfl (.cons rfl rfl (.cons rfl rfl (.nil _)))))))), by first | rfl | trivial⟩
            · have e1 : (((atK a b k : Nat) : Int) == (a : Int)) = false := by simp; omega
              refine WpV.seq (WpV.regionE (by simp only [go_sem, reduceCtorEq, Nat.reduceAdd, Nat.reduceMul, Nat.reduceSub, Nat.reduceLT, Nat.reduceLeDiff, Nat.reduceEqDiff, Nat.reduceBEq, Nat.reducePow]; rfl) (Marks.nil _) ?_)
              simp only [Vthen, VinBlock, if_true, if_false, Nat.reduceEqDiff, reduceCtorEq]
              refine WpV.block (WpV.loopN L0.length (fun i => [(8, vints false fl w), (15, vint a), (16, vint b), (17, .sl false false 1 [vself L0]), (19, .sl false false (n + 1) ((Q.map selfRow).map rowV)), (21, .sl false false (n + 1) ((R.map selfRow).map rowV)), (23, vint ((n + 1 : Nat) : Int)), (24, vint k), (25, vint (atK a b k)), (28, vint i)]) (fun _ => H) ?_ rfl ?_)
              · exact .cons rfl rfl (.cons rfl rfl (.cons rfl rfl (.cons rfl rfl (.cons rfl rfl (.cons rfl rfl (.cons rfl rfl (.cons rfl rfl (.cons rfl rfl (.cons rfl rfl (.nil _))))))))))
              · intro i hi
                have hnext : IntKind.i64.wrap ((i : Int) + 1) = ((i + 1 : Nat) : Int) := by rw [wrap64 (by omega)]; rfl
                refine WpV.seq ?_
                by_cases hlt2 : (i : Int) < (L0.length : Int)
                · refine WpV.seq (WpV.regionE (by simp only [go_sem, reduceCtorEq, Nat.reduceAdd, Nat.reduceMul, Nat.reduceSub, Nat.reduceLT, Nat.reduceLeDiff, Nat.reduceEqDiff, Nat.reduceBEq, Nat.reducePow, i01, t0, hlt2, e1]; rfl) (Marks.nil _) ?_)
                  simp only [Vthen, VinBlock, if_true, if_false, Nat.reduceEqDiff, reduceCtorEq]
                  refine WpV.cond rfl (fun hb => by cases hb) (fun hb => WpV.exit ?_)
                  simp only [Vthen, VinBlock, if_true, if_false, Nat.reduceEqDiff, reduceCtorEq]
                  refine WpV.regionE (by simp only [go_sem, reduceCtorEq, Nat.reduceAdd, Nat.reduceMul, Nat.reduceSub, Nat.reduceLT, Nat.reduceLeDiff, Nat.reduceEqDiff, Nat.reduceBEq, Nat.reducePow, hnk]; rfl) (Marks.nil _) ?_
                  simp only [Vthen, VinBlock, if_true, if_false, Nat.reduceEqDiff, reduceCtorEq]
                  exact ⟨by first | rfl | trivial, hlt', .cons rfl rfl (.cons rfl rfl (.cons rfl rfl (.cons rfl rfl (.cons rfl rfl (.cons rfl rfl (.cons rfl rfl (.cons rfl rfl (.nil _)))))))), by first | rfl | trivial⟩
                · refine WpV.seq (WpV.regionE (by simp only [go_sem, reduceCtorEq, Nat.reduceAdd, Nat.reduceMul, Nat.reduceSub, Nat.reduceLT, Nat.reduceLeDiff, Nat.reduceEqDiff, Nat.reduceBEq, Nat.reducePow, i01, t0, hlt2, e1]; rfl) (Marks.nil _) ?_)
                  simp only [Vthen, VinBlock, if_true, if_false, Nat.reduceEqDiff, reduceCtorEq]
                  refine WpV.cond rfl (fun hb => by cases hb) (fun hb => WpV.exit ?_)
                  simp only [Vthen, VinBlock, if_true, if_false, Nat.reduceEqDiff, reduceCtorEq]
                  refine WpV.regionE (by simp only [go_sem, reduceCtorEq, Nat.reduceAdd, Nat.reduceMul, Nat.reduceSub, Nat.reduceLT, Nat.reduceLeDiff, Nat.reduceEqDiff, Nat.reduceBEq, Nat.reducePow, hnk]; rfl) (Marks.nil _) ?_
                  simp only [Vthen, VinBlock, if_true, if_false, Nat.reduceEqDiff, reduceCtorEq]
                  exact ⟨by first | rfl | trivial, hlt', .cons rfl rfl (.cons rfl rfl (.cons rfl rfl (.cons rfl rfl (.cons rfl rfl (.cons rfl rfl (.cons rfl rfl (.cons rfl rfl (.nil _)))))))), by first | rfl | trivial⟩
          · have hge : k = n + 1 := by have := of_decide_eq_false ‹_›; omega
            subst hge
            simp only [Vthen, VinBlock, if_true, if_false, Nat.reduceEqDiff, reduceCtorEq]
            refine WpV.seq (WpV.region ?_)
            refine WpOps.step (by rfl) (by rfl) (OpW.callY rfl (by rfl) (by rfl) (by rfl) (enters_of Try.func6 (by kernel_rfl) rfl) ((known_any H).mono ?_))
            rintro _ _ ⟨rfl, hH⟩
            replace hH := hH.symm
            subst hH
            refine WpOps.take 1 (by simp only [go_sem, reduceCtorEq, Nat.reduceAdd, Nat.reduceMul, Nat.reduceSub, Nat.reduceLT, Nat.reduceLeDiff, Nat.reduceEqDiff, Nat.reduceBEq, Nat.reducePow]; rfl) (WpOps.nil ⟨Marks.nil _, ?_⟩)
            simp only [Vthen, VinBlock, if_true, if_false, Nat.reduceEqDiff, reduceCtorEq]
            refine WpV.ret ⟨Marks.nil _, List.nodup_nil, _, by simp only [Try.results3]; simp only [go_sem, reduceCtorEq, Nat.reduceAdd, Nat.reduceMul, Nat.reduceSub, Nat.reduceLT, Nat.reduceLeDiff, Nat.reduceEqDiff, Nat.reduceBEq, Nat.reducePow]; rfl, ?_⟩
            exact ⟨rfl, rfl⟩
end Go.Proofs.Ytaekibilldjnmaa
namespace Go.Proofs.Ytaekibilldjnmaa
open Go.ChangeShapes Go.WideShapes Go.ChangeAt Go.RowKit Go.Deep

theorem Try.ownKnob : ownKnob Try.prog.godebug = none := by kernel_rfl
theorem Try.laidOut : laidOutB Try.prog = true := by kernel_rfl
theorem Try.params3 : Try.f3.params = #[26, 27, 22] := by kernel_rfl
theorem Try.cells5 : Try.prog.cellsOf 5 = 1 := by kernel_rfl
theorem Try.cells22 : Try.prog.cellsOf 22 = 6 * 1 := by kernel_rfl
theorem Try.cells24 : Try.prog.cellsOf 24 = 3 * 1 := by kernel_rfl
theorem Try.cells46 : Try.prog.cellsOf 46 = 2 * 1 := by kernel_rfl
theorem Try.cells23 : Try.prog.cellsOf 23 = 1 := by kernel_rfl
theorem Try.cells26 : Try.prog.cellsOf 26 = 10 := by kernel_rfl
theorem Try.cellTypes26 : Try.prog.cellTypes Try.prog.depth 26 = some [5, 5, 5, 5, 5, 5, 23, 5, 5, 5] := by kernel_rfl

section
variable {Hh : Type} {enc : TypeId × Value → Hh} {w : World} {base : Nat} {spare : Nat → Bool} {held : Bool}
theorem byte_wf {n : Int} (h : Lit.wf (.int .u8 n) = true) : Byte n := by
  simp only [Lit.wf, Bool.and_eq_true, decide_eq_true_eq] at h
  have h1 : IntKind.u8.min = 0 := rfl
  have h2 : IntKind.u8.max = 255 := rfl
  rw [h1, h2] at h
  unfold Byte
  omega
theorem flat_bytes : ∀ l : List Int, l.flatMap (fun n => [vbyte n]) = l.map vbyte
  | [] => rfl
  | n :: l => by rw [List.flatMap_cons, flat_bytes l]; rfl
theorem rd_byte : Rd Try.prog Hh enc w base spare held 5 (fun n : Int => [vbyte n]) Byte := fun fuel cs x h => by
  obtain ⟨n, h1, h2⟩ := rd_int Try.underlying5 fuel cs x h
  exact ⟨n, byte_wf h1, h2⟩
/-- An array of bytes. -/
theorem rd_bytes {t : TypeId} {n : Nat} (ht : Try.prog.underlying t = some (.array n 5)) (hc : Try.prog.cellsOf t = n * 1) : Rd Try.prog Hh enc w base spare held t (fun l : List Int => l.map vbyte) (fun l => l.length = n ∧ ∀ b ∈ l, Byte b) := fun fuel cs x h => by
  obtain ⟨l, h1, h2⟩ := rd_array ht hc Try.cells5 (by decide) (fun _ => rfl) rd_byte fuel cs x h
  have h3 : CellsD w (l.flatMap fun n => [vbyte n]) cs := h2
  rw [flat_bytes] at h3
  exact ⟨l, h1, h3⟩
/-- Two bytes. -/
theorem rd_two : Rd Try.prog Hh enc w base spare held 46 prC (fun p => Byte p.1 ∧ Byte p.2) := fun fuel cs x h => by
  obtain ⟨l, ⟨h1, h2⟩, h3⟩ := rd_bytes Try.underlying46 Try.cells46 fuel cs x h
  rcases l with _ | ⟨a, _ | ⟨b, _ | ⟨c, r⟩⟩⟩ <;> simp at h1
  exact ⟨(a, b), ⟨h2 a (by simp), h2 b (by simp)⟩, h3⟩
end

set_option maxRecDepth 100000 in
/-- What the first argument reads as. -/
theorem type_read {Hh : Type} {enc : TypeId × Value → Hh} {w : World} {base : Nat} {spare : Nat → Bool} {held : Bool} {r : Reach} {b0 : Nat} {v : Value} {d : DataW Hh} {p : List MemPlace} (hv : Value.okWide Try.prog w r b0 26 v) (h : DataW.Trod enc Try.prog w base spare held 26 v d p) :
    ∃ x : TyA, x.Ok ∧ Den ρ0 w (.agg x.cells) v := by
  simp only [Value.okWide, Try.underlying26] at hv
  obtain ⟨cs, rfl, hsz, ts, hts, -, hcell⟩ := hv
  rw [Try.cellTypes26] at hts
  cases hts
  rw [Try.cells26] at hsz
  obtain ⟨fuel, hf⟩ := h
  obtain ⟨xs, n, _, _, hl, hxl, hel⟩ := DataW.trod_struct Try.underlying26 hf
  have hxl' : xs.length = 3 := hxl
  have f0 : DataW.trod enc Try.prog w base spare held n 22 ((cs.toList.drop 0).take (Try.prog.cellsOf 22)) = xs[0]? := hel 0 _ rfl
  have f1 : DataW.trod enc Try.prog w base spare held n 23 ((cs.toList.drop 6).take (Try.prog.cellsOf 23)) = xs[1]? := hel 1 _ rfl
  have f2 : DataW.trod enc Try.prog w base spare held n 24 ((cs.toList.drop 7).take (Try.prog.cellsOf 24)) = xs[2]? := hel 2 _ rfl
  rw [Try.cells22, List.getElem?_eq_getElem (by omega)] at f0
  rw [Try.cells23, List.getElem?_eq_getElem (by omega)] at f1
  rw [Try.cells24, List.getElem?_eq_getElem (by omega)] at f2
  obtain ⟨wd, ⟨a1, a2⟩, a3⟩ := rd_bytes Try.underlying22 Try.cells22 _ _ _ f0
  obtain ⟨nl, prs, b1, b2, b3⟩ := rd_slice Try.underlying23 Try.cells46 (by decide) (fun _ => rfl) rd_two (fun a len cap e => by
    have h6 : cs[6]? = some (.slice (some a) len cap) := by
      have : ((cs.toList.drop 6).take 1)[0]? = some (.slice (some a) len cap) := by rw [e]; rfl
      simpa using this
    obtain ⟨u, hu, hk⟩ := hcell 6 _ h6
    have hu' : u = 23 := by simpa using hu.symm
    subst hu'
    exact slice_spot Try.underlying23 hk) f1
  obtain ⟨fr, ⟨c1, c2⟩, c3⟩ := rd_bytes Try.underlying24 Try.cells24 _ _ _ f2
  rcases fr with _ | ⟨g0, _ | ⟨g1, _ | ⟨g2, _ | ⟨g3, r⟩⟩⟩⟩ <;> simp at c1
  refine ⟨⟨wd, nl, false, prs, g0, g1, g2⟩, ⟨a1, a2, by unfold maxLen at b2; simp only; omega, b1, c2 _ (by simp), c2 _ (by simp), c2 _ (by simp)⟩, CellsD.agg ?_⟩
  unfold TyA.cells
  refine CellsD.append ?_ (CellsD.append (a := [.sl nl false prs.length (prs.flatMap prC)]) (b := [vbyte g0, vbyte g1, vbyte g2]) ?_ ?_)
  · rw [List.length_map, a1]; exact a3
  · rw [List.length_map, a1]; exact b3
  · rw [List.length_map, a1, List.drop_drop, show 6 + [AV.sl nl false prs.length (prs.flatMap prC)].length = 7 from rfl]
    have : (cs.toList.drop 7).take 3 = cs.toList.drop 7 := List.take_of_length_le (by simp; omega)
    rw [← this]; exact c3
set_option maxRecDepth 100000 in
theorem slice_arg {P : Program} {w : World} {r : Reach} {b0 : Nat} {t e : TypeId} {v : Value} (ht : P.underlying t = some (.slice e)) (h : Value.okWide P w r b0 t v) : v.cells.toList = [v] ∧ ∀ a len cap, v = .slice (some a) len cap → a.spot = none := by
  simp only [Value.okWide, ht] at h
  refine ⟨?_, fun a len cap e => slice_spot ht (e ▸ h)⟩
  simp only [Cell.okWide, Cell.ok, ht] at h
  cases v <;> first | rfl | (simp at h)
set_option maxRecDepth 100000 in
theorem bytes_arg {Hh : Type} {enc : TypeId × Value → Hh} {w : World} {base : Nat} {spare : Nat → Bool} {held : Bool} {r : Reach} {b0 : Nat} {v : Value} {d : DataW Hh} {p : List MemPlace} (hv : Value.okWide Try.prog w r b0 27 v) (h : DataW.Trod enc Try.prog w base spare held 27 v d p) :
    ∃ (nl : Bool) (l : List Int), (∀ n ∈ l, Byte n) ∧ l.length ≤ 9223372036854775807 ∧ Den ρ0 w (.sl nl false l.length (l.map vbyte)) v := by
  obtain ⟨h1, h2⟩ := slice_arg Try.underlying27 hv
  obtain ⟨fuel, hf⟩ := h
  rw [h1] at hf
  obtain ⟨nl, l, b1, b2, b3⟩ := rd_slice Try.underlying27 Try.cells5 (by decide) (fun _ => rfl) rd_byte (fun a len cap e => h2 a len cap (by simpa using e)) hf
  obtain ⟨y, hy, hd⟩ := b3.2.at (i := 0) rfl
  simp only [List.getElem?_cons_zero, Option.some.injEq] at hy
  subst hy
  rw [flat_bytes] at hd
  exact ⟨nl, l, b1, by unfold maxLen at b2; omega, hd⟩
set_option maxRecDepth 100000 in
theorem six_arg {Hh : Type} {enc : TypeId × Value → Hh} {w : World} {base : Nat} {spare : Nat → Bool} {held : Bool} {r : Reach} {b0 : Nat} {v : Value} {d : DataW Hh} {p : List MemPlace} (hv : Value.okWide Try.prog w r b0 22 v) (h : DataW.Trod enc Try.prog w base spare held 22 v d p) :
    ∃ l : List Int, l.length = 6 ∧ (∀ n ∈ l, Byte n) ∧ Den ρ0 w (.agg (l.map vbyte)) v := by
  simp only [Value.okWide, Try.underlying22] at hv
  obtain ⟨cs, rfl, -⟩ := hv
  obtain ⟨fuel, hf⟩ := h
  obtain ⟨l, ⟨a1, a2⟩, a3⟩ := rd_bytes Try.underlying22 Try.cells22 _ _ _ hf
  exact ⟨l, a1, a2, CellsD.agg a3⟩

set_option maxRecDepth 100000 in
theorem letterBlotted_lifted (os : Os) (started : os.Started) (H : Type) (enc : TypeId × Value → H) :
    ReturnsInHanded {} Try.checked os 3 .any (Rows.letterBlottedSpec.pre6 enc Try.prog Try.f3 Rows.letterBlottedRow.domain false) (Rows.letterBlottedSpec.post enc Try.prog Try.f3 false true false false) := by
  refine returnsInHanded_of_change (C := Try.checked) Try.ownKnob started (by kernel_rfl) Try.func3
    (ChangeSpec.witness6 (enc := enc) (C := Try.checked) false ⟨#[], #[.agg #[.int .u8 0, .int .u8 0, .int .u8 0, .int .u8 0, .int .u8 0, .int .u8 0, .slice none 0 0, .int .u8 0, .int .u8 0, .int .u8 0], .slice none 0 0, .agg #[.int .u8 0, .int .u8 0, .int .u8 0, .int .u8 0, .int .u8 0, .int .u8 0]], []⟩ 8 (by kernel_rfl) (by kernel_rfl) (by kernel_rfl) (by kernel_rfl)) ?_
  intro W base args ds gs before hval0 hW hcnd _
  have hval : ∀ (j : Nat) t v, Try.f3.params[j]? = some t → args[j]? = some v → Value.okWide Try.prog W .any base t v := hval0
  have hW' := hW
  obtain ⟨p, q, hA0, hV, rfl, hfz, hnd⟩ := hW
  have hA : DataW.TrodAll enc Try.prog W 0 (fun _ => true) true Try.f3.params.toList args.toList ds p := hA0
  rw [Try.params3] at hA hval
  obtain ⟨v0, vs0, d0, ds0, p0, q0, hargs, rfl, rfl, h0, r0⟩ := trodAll_cons hA
  obtain ⟨v1, vs1, d1, ds1, p1, q1, rfl, rfl, rfl, h1, r1⟩ := trodAll_cons r0
  obtain ⟨v2, vs2, d2, ds2, p2, q2, rfl, rfl, rfl, h2, r2⟩ := trodAll_cons r1
  obtain ⟨rfl, rfl, rfl⟩ := trodAll_nil r2
  obtain rfl : args = #[v0, v1, v2] := by cases args; simp_all
  obtain ⟨rfl, rfl⟩ := trodVars_none hV
  have lt0 : ∀ x ∈ p0, x.block < W.heap.size := by obtain ⟨m, hm⟩ := h0; exact DataW.trod_lt m _ _ _ hm
  have lt1 : ∀ x ∈ p1, x.block < W.heap.size := by obtain ⟨m, hm⟩ := h1; exact DataW.trod_lt m _ _ _ hm
  have lt2 : ∀ x ∈ p2, x.block < W.heap.size := by obtain ⟨m, hm⟩ := h2; exact DataW.trod_lt m _ _ _ hm
  obtain ⟨x, hx, hd0⟩ := type_read (hval 0 26 v0 rfl rfl) h0
  obtain ⟨nl, l, hlb, hll, hd1⟩ := bytes_arg (hval 1 27 v1 rfl rfl) h1
  obtain ⟨v6, hv6, hvb, hd2⟩ := six_arg (hval 2 22 v2 rfl rfl) h2
  clear hA0 hval0
  refine Calls.mono (Blotted_any (fun _ => none) x hx nl false l hll (fun n hn => by have := hlb n hn; unfold Byte at this; omega) v6 hv6 hvb ρ0 W #[v0, v1, v2] rfl ?_ (ρ0_hd W)) ?_
  · rw [DenL]
    refine ⟨⟨v0, rfl, hd0⟩, ?_⟩
    rw [DenL]
    refine ⟨⟨v1, rfl, hd1⟩, ?_⟩
    rw [DenL]
    refine ⟨⟨v2, rfl, hd2⟩, ?_⟩
    rw [DenL]; trivial
  rintro e W' ⟨v, ρ', x', H', rfl, qx, hvd, -, rfl, -⟩
  rw [Den] at hvd
  subst hvd
  have bel' : Below W.heap.size W W' := ⟨qx.io.1, qx.io.2.2, qx.io.2.1, qx.size, fun k hk => (qx.free k hk (ρ0_free k)).2⟩
  exact ⟨_, rfl, _, _, _, [], _, [], hW', trodAll_mk1 (shut_bool Try.underlying4 _), (trodAll_cons_mk (Below.trod Try.laidOut (by kernel_rfl) (of_decide_eq_true (by kernel_rfl)) h0 bel' lt0) (trodAll_cons_mk (Below.trod Try.laidOut (by kernel_rfl) (of_decide_eq_true (by kernel_rfl)) h1 bel' lt1) (trodAll_cons_mk (Below.trod Try.laidOut (by kernel_rfl) (of_decide_eq_true (by kernel_rfl)) h2 bel' lt2) trodAll_mk0))), rfl, bel'.frame _, fun h => by cases h⟩

theorem letterBlotted_over : Rows.letterBlottedRow.holds Try.pinned (OpenSpec.ofChange Rows.letterBlottedSpec) :=
  OpenClaim.holds_of_wide 3 Try.f3 rfl rfl rfl rfl rfl rfl rfl ⟨rfl, rfl, rfl, rfl, rfl⟩ rfl rfl rfl rfl rfl (by kernel_rfl) Try.func3 (by kernel_rfl)
    (of_decide_eq_true (by kernel_rfl)) (by unfold Func.isWrapper; first | (rw [if_pos (by decide +kernel)]; kernel_rfl) | (rw [if_neg (by decide +kernel)]; exact ⟨rfl, rfl⟩))
    (fun os started H enc _ => letterBlotted_lifted os started H enc)

/-- The statement. -/
theorem letterBlotted_holds : Rows.LetterBlottedSaid := letterBlotted_over
#print axioms letterBlotted_holds
end Go.Proofs.Ytaekibilldjnmaa
