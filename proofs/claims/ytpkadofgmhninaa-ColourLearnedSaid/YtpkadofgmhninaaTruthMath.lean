/- A plan surely is right just if it is for all ends of the spans; at which heats the furnace may be. -/
import Derived.Test.YtpkadofgmhninaaFar
import Derived.Test.YtpkadofgmhninaaEnds
import Derived.Test.YtpkadofgmhninaaHeats
namespace Go.Proofs.Ytpkadofgmhninaa
namespace CSet

theorem pow_bit : ∀ a c : Fin 10, 2 ^ a.val / 2 ^ c.val % 2 = if a = c then 1 else 0 := by decide +kernel
theorem pow_bit_at {a c : Nat} (ha : a < 10) (hc : c < 10) : 2 ^ a / 2 ^ c % 2 = if a = c then 1 else 0 := by
  have := pow_bit ⟨a, ha⟩ ⟨c, hc⟩
  simp only [Fin.mk.injEq] at this
  exact this
theorem pow_lt : ∀ a : Fin 10, 2 ^ a.val < 1024 := by decide +kernel
theorem end_in {s : CSet} (hs : s.Ok) (y : Nat) {c : Nat} (hc : c < s.paints.length) : (s.paint c).hl ≤ (endH s y c : Int) ∧ (endH s y c : Int) ≤ (s.paint c).hh ∧ (s.paint c).sl ≤ (endT s y c : Int) ∧ (endT s y c : Int) ≤ (s.paint c).sh := by
  have := hs.paints c hc
  unfold endH endT
  split <;> split <;> omega
/-- A plan that surely is right is right for all heats and stretches within their spans. -/
theorem surely_in {s : CSet} (hs : s.Ok) {p : Rounds} (hp : PlanOk s.paints.length p) (h : s.surely p = true) (f t : Nat → Int) (hf : ∀ c, c < s.paints.length → (s.paint c).hl ≤ f c ∧ f c ≤ (s.paint c).hh) (ht : ∀ c, c < s.paints.length → (s.paint c).sl ≤ t c ∧ t c ≤ (s.paint c).sh) : rightB s p f t = true := by
  have hm : ∀ c, c < s.paints.length → 0 ≤ (s.paint c).most := fun c hc => by have := hs.paints c hc; omega
  have hlt : ∀ r, r ∈ p → ∀ c, c ∈ r → c < s.paints.length := fun r hr c hc => (hp.asc r hr).1 c hc
  have hlg : ∀ i c, i < p.length → c ∈ p.getD i [] → c < s.paints.length := fun i c hi hc => hlt _ (by rw [List.getD, List.getElem?_eq_getElem hi]; exact List.getElem_mem hi) c hc
  unfold surely at h
  rw [Bool.and_eq_true, Bool.and_eq_true] at h
  obtain ⟨h1, h2, h3⟩ := h
  refine (right_iff hm hp.once hlt f t).2 ⟨h1, fun x hx => ?_, fun x hx => ?_⟩
  · have hb : (s.paint x.a).hh - (s.paint x.b).hl ≤ x.by_ := of_decide_eq_true (List.all_eq_true.1 h2 x hx)
    have hab : x.a < s.paints.length ∧ x.b < s.paints.length := by
      obtain ⟨i, c, hi, hc, ⟨o, ho, _, rfl⟩ | ⟨j, o, hj, ho, rfl⟩⟩ := mem_heatTies.1 hx
      · exact ⟨hlg i c hi hc, hlg i o hi ho⟩
      · exact ⟨hlg i c hi hc, hlg j o (by omega) ho⟩
    have := hf _ hab.1
    have := hf _ hab.2
    omega
  · have hb : (s.paint x.a).sh - (s.paint x.b).sl ≤ x.by_ := of_decide_eq_true (List.all_eq_true.1 h3 x hx)
    have hab : x.a < s.paints.length ∧ x.b < s.paints.length := by
      obtain ⟨i, u, o, hi, hu, ho, rfl | rfl⟩ := mem_stretchTies.1 hx
      · exact ⟨hlg (i + 1) o hi ho, hlg i u (by omega) hu⟩
      · exact ⟨hlg i u (by omega) hu, hlg (i + 1) o hi ho⟩
    have := ht _ hab.1
    have := ht _ hab.2
    omega
/-- .. and the ends of the spans decide it. -/
theorem surely_ends {s : CSet} (hs : s.Ok) {p : Rounds} (hp : PlanOk s.paints.length p) (h : ∀ y, y < 1024 → rightB s p (fun c => (endH s y c : Int)) (fun c => (endT s y c : Int)) = true) : s.surely p = true := by
  have hm : ∀ c, c < s.paints.length → 0 ≤ (s.paint c).most := fun c hc => by have := hs.paints c hc; omega
  have hlt : ∀ r, r ∈ p → ∀ c, c ∈ r → c < s.paints.length := fun r hr c hc => (hp.asc r hr).1 c hc
  have hlg : ∀ i c, i < p.length → c ∈ p.getD i [] → c < s.paints.length := fun i c hi hc => hlt _ (by rw [List.getD, List.getElem?_eq_getElem hi]; exact List.getElem_mem hi) c hc
  have hn5 := hs.n5
  have key := fun y (hy : y < 1024) => (right_iff hm hp.once hlt _ _).1 (h y hy)
  unfold surely
  rw [Bool.and_eq_true, Bool.and_eq_true]
  refine ⟨(key 0 (by omega)).1, List.all_eq_true.2 fun x hx => decide_eq_true ?_, List.all_eq_true.2 fun x hx => decide_eq_true ?_⟩
  · have hab : x.a < s.paints.length ∧ x.b < s.paints.length ∧ x.a ≠ x.b := by
      obtain ⟨i, c, hi, hc, ⟨o, ho, hne, rfl⟩ | ⟨j, o, hj, ho, rfl⟩⟩ := mem_heatTies.1 hx
      · exact ⟨hlg i c hi hc, hlg i o hi ho, hne⟩
      · refine ⟨hlg i c hi hc, hlg j o (by omega) ho, fun e => ?_⟩
        have e' : c = o := e
        subst e'
        have := uniq hp.once hi (show j < p.length by omega) hc ho
        omega
    obtain ⟨ha, hb, hne⟩ := hab
    have hk := (key (2 ^ x.a) (pow_lt ⟨x.a, by omega⟩)).2.1 x hx
    simp only [endH] at hk
    rw [pow_bit_at (by omega) (by omega), pow_bit_at (by omega) (by omega), if_pos rfl, if_pos rfl, if_neg hne, if_neg (by omega)] at hk
    have h1 := hs.paints x.a ha
    have h2 := hs.paints x.b hb
    show (s.paint x.a).hh - (s.paint x.b).hl ≤ x.by_
    omega
  · have hab : x.a < s.paints.length ∧ x.b < s.paints.length ∧ x.a ≠ x.b := by
      obtain ⟨i, u, o, hi, hu, ho, rfl | rfl⟩ := mem_stretchTies.1 hx
      · refine ⟨hlg (i + 1) o hi ho, hlg i u (by omega) hu, fun e => ?_⟩
        have e' : o = u := e
        subst e'
        have := uniq hp.once hi (show i < p.length by omega) ho hu
        omega
      · refine ⟨hlg i u (by omega) hu, hlg (i + 1) o hi ho, fun e => ?_⟩
        have e' : u = o := e
        subst e'
        have := uniq hp.once hi (show i < p.length by omega) ho hu
        omega
    obtain ⟨ha, hb, hne⟩ := hab
    have hk := (key (2 ^ (5 + x.a)) (pow_lt ⟨5 + x.a, by omega⟩)).2.2 x hx
    simp only [endT] at hk
    rw [pow_bit_at (by omega) (by omega), pow_bit_at (by omega) (by omega), if_pos rfl, if_pos rfl, if_neg (show ¬ (5 + x.a = 5 + x.b) by omega), if_neg (show ¬ ((0 : Nat) = 1) by decide)] at hk
    have h1 := hs.paints x.a ha
    have h2 := hs.paints x.b hb
    show (s.paint x.a).sh - (s.paint x.b).sl ≤ x.by_
    omega

theorem le_nextOf (s : CSet) (x : Int) : ∀ (r : List Nat) (m : Int), x ≤ s.nextOf m r ↔ x ≤ m ∧ ∀ c, c ∈ r → x < (s.paint c).hl
  | [], m => by simp [nextOf]
  | c :: r, m => by
    have ih := le_nextOf s x r (min m ((s.paint c).hl - 1))
    unfold nextOf at ih ⊢
    rw [List.foldl_cons, ih]
    constructor
    · rintro ⟨h1, h2⟩
      refine ⟨by omega, fun d hd => ?_⟩
      rcases List.mem_cons.1 hd with rfl | hd
      · omega
      · exact h2 d hd
    · rintro ⟨h1, h2⟩
      have := h2 c (by simp)
      exact ⟨by omega, fun d hd => h2 d (by simp [hd])⟩
theorem lowOf_le (s : CSet) (x : Int) (r : List Nat) : s.lowOf r ≤ x ↔ 0 ≤ x ∧ ∀ c, c ∈ r → (s.paint c).hh ≤ x := by
  unfold lowOf
  have key : ∀ (r : List Nat) (m : Int), r.foldl (fun m c => max m (s.paint c).hh) m ≤ x ↔ m ≤ x ∧ ∀ c, c ∈ r → (s.paint c).hh ≤ x := by
    intro r
    induction r with
    | nil => intro m; simp
    | cons c r ih =>
      intro m
      rw [List.foldl_cons, ih]
      constructor
      · rintro ⟨h1, h2⟩
        refine ⟨by omega, fun d hd => ?_⟩
        rcases List.mem_cons.1 hd with rfl | hd
        · omega
        · exact h2 d hd
      · rintro ⟨h1, h2⟩
        have := h2 c (by simp)
        exact ⟨by omega, fun d hd => h2 d (by simp [hd])⟩
  exact key r 0
theorem le_highAt (s : CSet) (p : Rounds) (x : Int) : ∀ k, x ≤ s.highAt p k ↔ x ≤ 1000 ∧ ∀ q, q < k → ∀ c, c ∈ p.getD q [] → x < (s.paint c).hl
  | 0 => by simp [highAt]
  | k + 1 => by
    have ih := le_highAt s p x k
    show x ≤ s.nextOf (s.highAt p k) (p.getD k []) ↔ _
    rw [le_nextOf, ih]
    constructor
    · rintro ⟨⟨h1, h2⟩, h3⟩
      refine ⟨h1, fun q hq c hc => ?_⟩
      by_cases e : q = k
      · subst e; exact h3 c hc
      · exact h2 q (by omega) c hc
    · rintro ⟨h1, h2⟩
      exact ⟨⟨h1, fun q hq => h2 q (by omega)⟩, fun c hc => h2 k (by omega) c hc⟩
/-- The heats of a round of a plan that surely is right. -/
theorem safe_ok {s : CSet} (hs : s.Ok) {p : Rounds} (hp : PlanOk s.paints.length p) (h : s.surely p = true) {r : Nat} (hr : r < p.length) :
    s.lowAt p r ≤ s.highAt p r ∧ 0 ≤ s.lowAt p r ∧ s.highAt p r ≤ 1000 ∧ (∀ c, c ∈ p.getD r [] → (s.paint c).hh ≤ s.lowAt p r) ∧ ∀ q, q < r → ∀ c, c ∈ p.getD q [] → s.highAt p r < (s.paint c).hl := by
  have hlt : ∀ i c, i < p.length → c ∈ p.getD i [] → c < s.paints.length := fun i c hi hc => (hp.asc _ (by rw [List.getD, List.getElem?_eq_getElem hi]; exact List.getElem_mem hi)).1 c hc
  unfold surely at h
  rw [Bool.and_eq_true, Bool.and_eq_true] at h
  obtain ⟨-, h2, -⟩ := h
  have hl := (lowOf_le s (s.lowOf (p.getD r [])) (p.getD r [])).1 (Int.le_refl _)
  have hh := (le_highAt s p (s.highAt p r) r).1 (Int.le_refl _)
  have hkey : ∀ c, c ∈ p.getD r [] → (s.paint c).hh ≤ s.highAt p r := fun c hc => by
    refine (le_highAt s p _ r).2 ⟨by have := hs.paints c (hlt r c hr hc); omega, fun q hq o ho => ?_⟩
    have hb : (s.paint c).hh - (s.paint o).hl ≤ -1 := of_decide_eq_true (List.all_eq_true.1 h2 ⟨c, o, -1⟩ (mem_heatTies.2 ⟨r, c, hr, hc, .inr ⟨q, o, hq, ho, rfl⟩⟩))
    omega
  have hne : p.getD r [] ≠ [] := hp.some_ _ (by rw [List.getD, List.getElem?_eq_getElem hr]; exact List.getElem_mem hr)
  refine ⟨?_, hl.1, hh.1, hl.2, hh.2⟩
  obtain ⟨c, hc⟩ : ∃ c, c ∈ p.getD r [] := by
    cases e : p.getD r [] with
    | nil => exact absurd e hne
    | cons c t => exact ⟨c, by simp⟩
  have h0 := hs.paints c (hlt r c hr hc)
  exact (lowOf_le s _ _).2 ⟨by have := hkey c hc; omega, hkey⟩
end CSet
end Go.Proofs.Ytpkadofgmhninaa
