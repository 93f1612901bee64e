/- What holds of true heats and stretches lies in the gaps that are told. Whether a plan is right for some heats and stretches, as the statements reckon it, and as ties say it. How far two numbers lie apart. What cannot have been, in plain words. -/
import Derived.Test.YtpkadofgmhninaaPlans
import Derived.Test.YtpkadofgmhninaaHeats
import Derived.Test.YtpkadofgmhninaaLaid
namespace Go.Proofs.Ytpkadofgmhninaa
namespace CSet

/-- Numbers keep all gaps. -/
def Sat (h : Nat → Int) (g : Gaps) : Prop := ∀ a b, a < 6 → b < 6 → h a - h b ≤ gat g a b
theorem Sat.hold1 {h : Nat → Int} {g : Gaps} (q : Sat h g) (hg : g.length = 36) {t : Tie} (ha : t.a < 6) (hb : t.b < 6) (ht : h t.a - h t.b ≤ t.by_) : Sat h (hold1 g t) := by
  intro a b hA hB
  unfold CSet.hold1
  rw [gat_set hg ha hb _ hA hB]
  split
  · rename_i e
    obtain ⟨rfl, rfl⟩ := e
    have := q t.a t.b ha hb
    omega
  · exact q a b hA hB
theorem Sat.hold {h : Nat → Int} (ts : List Tie) : ∀ {g : Gaps}, Sat h g → g.length = 36 → (∀ t, t ∈ ts → t.a < 6 ∧ t.b < 6 ∧ h t.a - h t.b ≤ t.by_) → Sat h (CSet.hold g ts) := by
  induction ts with
  | nil => intro g q _ _; exact q
  | cons t ts ih =>
    intro g q hg ht
    obtain ⟨h1, h2, h3⟩ := ht t (by simp)
    exact ih (q.hold1 hg h1 h2 h3) (by rw [hold1_len]; exact hg) (fun u hu => ht u (by simp [hu]))
theorem Sat.settle1 {h : Nat → Int} {g : Gaps} (q : Sat h g) (hg : g.length = 36) {m a b : Nat} (hm : m < 6) (ha : a < 6) (hb : b < 6) : Sat h (settle1 m a g b) := by
  intro x y hx hy
  unfold CSet.settle1
  rw [gat_set hg ha hb _ hx hy]
  split
  · rename_i e
    obtain ⟨rfl, rfl⟩ := e
    have h1 := q x y hx hy
    have h2 := q x m hx hm
    have h3 := q m y hm hy
    omega
  · exact q x y hx hy
theorem sat_fold {α : Type} {h : Nat → Int} (f : Gaps → α → Gaps) (P : α → Prop) (hf : ∀ g x, P x → g.length = 36 → Sat h g → Sat h (f g x)) (hl : ∀ g x, (f g x).length = g.length) (l : List α) (hP : ∀ x, x ∈ l → P x) : ∀ g : Gaps, g.length = 36 → Sat h g → Sat h (l.foldl f g) := by
  induction l with
  | nil => intro g _ q; exact q
  | cons x l ih =>
    intro g hg q
    exact ih (fun y hy => hP y (by simp [hy])) _ (by rw [hl]; exact hg) (hf g x (hP x (by simp)) hg q)
theorem Sat.settle {h : Nat → Int} {g : Gaps} (q : Sat h g) (hg : g.length = 36) : Sat h (settle g) := by
  unfold CSet.settle
  refine sat_fold settleM (· < 6) (fun g m hm hg q => ?_) settleM_len _ (fun x hx => List.mem_range.1 hx) g hg q
  unfold settleM
  refine sat_fold (settleA m) (· < 6) (fun g a ha hg q => ?_) (settleA_len m) _ (fun x hx => List.mem_range.1 hx) g hg q
  unfold settleA
  exact sat_fold (CSet.settle1 m a) (· < 6) (fun g b hb hg q => q.settle1 hg hm ha hb) (settle1_len m a) _ (fun x hx => List.mem_range.1 hx) g hg q
theorem Sat.settled {h : Nat → Int} {g : Gaps} (q : Sat h g) : settled g = true := by
  unfold CSet.settled
  rw [List.all_eq_true]
  intro a ha
  have := q a a (List.mem_range.1 ha) (List.mem_range.1 ha)
  exact decide_eq_true (by omega)
theorem sat_gapsOf {n : Nat} {lo hi f : Nat → Int} (hf : ∀ c, c < n → lo c ≤ f c ∧ f c ≤ hi c) : Sat (endsOf n f) (gapsOf n lo hi) := by
  intro a b ha hb
  rw [gat_gapsOf ha hb]
  by_cases e : a = b
  · subst e; simp
  · rw [if_neg e]
    unfold endsOf
    split <;> split <;> (try have := hf a (by assumption)) <;> (try have := hf b (by assumption)) <;> omega

/-- Numbers keep all ties of some plans. -/
def Keeps (f : Nat → Int) (ts : List Tie) : Prop := ∀ t, t ∈ ts → f t.a - f t.b ≤ t.by_
theorem sat_plans {n : Nat} (hn : n ≤ 5) {f : Nat → Int} (T : Rounds → List Tie) (ps : List Rounds) (hT : ∀ p, p ∈ ps → ∀ t, t ∈ T p → t.a < n ∧ t.b < n ∧ f t.a - f t.b ≤ t.by_) : ∀ g : Gaps, g.length = 36 → Sat (endsOf n f) g → Sat (endsOf n f) (ps.foldl (fun g p => hold g (T p)) g) ∧ (ps.foldl (fun g p => hold g (T p)) g).length = 36 := by
  induction ps with
  | nil => intro g hg q; exact ⟨q, hg⟩
  | cons p ps ih =>
    intro g hg q
    refine ih (fun r hr => hT r (by simp [hr])) _ (by rw [hold_len]; exact hg) (q.hold _ hg (fun t ht => ?_))
    obtain ⟨h1, h2, h3⟩ := hT p (by simp) t ht
    refine ⟨by omega, by omega, ?_⟩
    unfold endsOf
    rw [if_pos h1, if_pos h2]; exact h3
/-- If there are true heats and stretches, there is a truth. -/
theorem truly_of {s : CSet} (hs : s.paints.length ≤ 5) (ps : List Rounds) (f t : Nat → Int) (hf : ∀ c, c < s.paints.length → (s.paint c).hl ≤ f c ∧ f c ≤ (s.paint c).hh) (ht : ∀ c, c < s.paints.length → (s.paint c).sl ≤ t c ∧ t c ≤ (s.paint c).sh)
    (hl : ∀ p, p ∈ ps → s.lasts p = true) (hh : ∀ p, p ∈ ps → ∀ x, x ∈ s.heatTies p → x.a < s.paints.length ∧ x.b < s.paints.length ∧ f x.a - f x.b ≤ x.by_) (hst : ∀ p, p ∈ ps → ∀ x, x ∈ s.stretchTies p → x.a < s.paints.length ∧ x.b < s.paints.length ∧ t x.a - t x.b ≤ x.by_) : s.truly ps = true := by
  unfold truly
  rw [Bool.and_eq_true, Bool.and_eq_true, List.all_eq_true]
  refine ⟨hl, ?_, ?_⟩
  · obtain ⟨q, hg⟩ := sat_plans hs s.heatTies ps hh s.heat0 (gapsOf_len _ _ _) (sat_gapsOf hf)
    exact (q.settle hg).settled
  · obtain ⟨q, hg⟩ := sat_plans hs s.stretchTies ps hst s.stretch0 (gapsOf_len _ _ _) (sat_gapsOf ht)
    exact (q.settle hg).settled
end CSet
end Go.Proofs.Ytpkadofgmhninaa
namespace Go.Proofs.Ytpkadofgmhninaa
namespace CSet

/-- The round of a colour, of the first k rounds. -/
def seatTo (p : Rounds) : Nat → Nat → Int
  | 0, _ => -9
  | k + 1, c => if (p.getD k []).contains c then (k : Int) else seatTo p k c
def seat (p : Rounds) (c : Nat) : Int := seatTo p p.length c
def far (a b : Int) : Int := max (a - b) (b - a)
/-- Two colours are right. -/
def okPair (s : CSet) (p : Rounds) (h t : Nat → Int) (a b : Nat) : Bool :=
  if seat p a < 0 ∨ seat p b < 0 then true
  else if (a ≠ b ∧ seat p a = seat p b) ∧ s.near < far (h a) (h b) then false
  else if seat p b < seat p a ∧ h b ≤ h a then false
  else if seat p a = seat p b + 1 ∧ s.give < far (t a) (t b) then false
  else true
def okEat (p : Rounds) (e : Nat × Nat) : Bool := !(decide (0 ≤ seat p e.2) && decide (seat p e.2 < seat p e.1))
def rightB (s : CSet) (p : Rounds) (h t : Nat → Int) : Bool :=
  (p.all fun r => r.all fun c => decide ((s.fire p).1 c ≤ (s.paint c).most)) && (s.eats.all (okEat p) && (List.range s.paints.length).all fun a => (List.range s.paints.length).all fun b => okPair s p h t a b)

theorem uniq {p : Rounds} (hn : p.flatten.Nodup) {i j c : Nat} (hi : i < p.length) (hj : j < p.length) (h1 : c ∈ p.getD i []) (h2 : c ∈ p.getD j []) : i = j := by
  have hp := (List.pairwise_flatten.1 hn).2
  have e1 : p.getD i [] = p[i] := by simp [List.getD, List.getElem?_eq_getElem hi]
  have e2 : p.getD j [] = p[j] := by simp [List.getD, List.getElem?_eq_getElem hj]
  rw [e1] at h1
  rw [e2] at h2
  rcases Nat.lt_trichotomy i j with h | h | h
  · exact absurd rfl (List.pairwise_iff_getElem.1 hp i j hi hj h c h1 c h2)
  · exact h
  · exact absurd rfl (List.pairwise_iff_getElem.1 hp j i hj hi h c h2 c h1)
theorem seatTo_mem {p : Rounds} (hn : p.flatten.Nodup) {i c : Nat} (hi : i < p.length) (h : c ∈ p.getD i []) : ∀ k, k ≤ p.length → i < k → seatTo p k c = i
  | 0, _, hk => absurd hk (Nat.not_lt_zero _)
  | k + 1, hl, hk => by
    unfold seatTo
    by_cases e : c ∈ p.getD k []
    · rw [if_pos (by rw [List.contains_eq_mem]; exact decide_eq_true e), uniq hn (by omega) hi e h]
    · rw [if_neg (by rw [List.contains_eq_mem]; simpa using e)]
      have : i ≠ k := fun he => e (he ▸ h)
      exact seatTo_mem hn hi h k (by omega) (by omega)
theorem seat_mem {p : Rounds} (hn : p.flatten.Nodup) {i c : Nat} (hi : i < p.length) (h : c ∈ p.getD i []) : seat p c = i := seatTo_mem hn hi h _ (Nat.le_refl _) hi
theorem seatTo_cases (p : Rounds) (c : Nat) : ∀ k, seatTo p k c = -9 ∨ ∃ i, i < k ∧ c ∈ p.getD i [] ∧ seatTo p k c = i
  | 0 => .inl rfl
  | k + 1 => by
    unfold seatTo
    by_cases e : c ∈ p.getD k []
    · rw [if_pos (by rw [List.contains_eq_mem]; exact decide_eq_true e)]
      exact .inr ⟨k, by omega, e, rfl⟩
    · rw [if_neg (by rw [List.contains_eq_mem]; simpa using e)]
      rcases seatTo_cases p c k with h | ⟨i, h1, h2, h3⟩
      · exact .inl h
      · exact .inr ⟨i, by omega, h2, h3⟩
theorem seat_cases (p : Rounds) (c : Nat) : seat p c = -9 ∨ ∃ i, i < p.length ∧ c ∈ p.getD i [] ∧ seat p c = i := seatTo_cases p c _
theorem seat_of {p : Rounds} {i c : Nat} (h : seat p c = (i : Nat)) : i < p.length ∧ c ∈ p.getD i [] := by
  rcases seat_cases p c with e | ⟨j, h1, h2, h3⟩
  · omega
  · obtain rfl : j = i := by omega
    exact ⟨h1, h2⟩
theorem roundOf_seat {p : Rounds} (hn : p.flatten.Nodup) (c : Nat) : roundOf p c = if seat p c < 0 then none else some (seat p c).toNat := by
  unfold roundOf
  rcases seat_cases p c with e | ⟨i, h1, h2, h3⟩
  · rw [if_pos (by omega), List.findIdx?_eq_none_iff]
    intro r hr
    cases hc : r.contains c with
    | false => rfl
    | true =>
      exfalso
      obtain ⟨i, hi, rfl⟩ := List.getElem_of_mem hr
      have := seat_mem hn hi (c := c) (by simpa [List.getD, List.getElem?_eq_getElem hi, List.contains_eq_mem] using hc)
      omega
  · rw [if_neg (by omega), h3, List.findIdx?_eq_some_iff_getElem]
    refine ⟨by simpa using h1, ?_, fun j hj => ?_⟩
    · have e1 : p.getD i [] = p[i] := by simp [List.getD, List.getElem?_eq_getElem h1]
      rw [e1] at h2
      simpa [List.contains_eq_mem] using h2
    · intro hc
      have hj' : j < p.length := by simp at hj; omega
      have := uniq hn hj' h1 (c := c) (by simpa [List.getD, List.getElem?_eq_getElem hj', List.contains_eq_mem] using hc) h2
      simp at hj; omega
theorem eaten_seat {p : Rounds} (hn : p.flatten.Nodup) (e : Nat × Nat) : eaten p e = (decide (0 ≤ seat p e.2) && decide (seat p e.2 < seat p e.1)) := by
  unfold eaten
  rw [roundOf_seat hn, roundOf_seat hn]
  by_cases h2 : seat p e.2 < 0
  · rw [if_pos h2]
    have : ¬ 0 ≤ seat p e.2 := by omega
    simp [this]
  · rw [if_neg h2]
    by_cases h1 : seat p e.1 < 0
    · rw [if_pos h1]
      have : ¬ seat p e.2 < seat p e.1 := by omega
      simp [this]
    · rw [if_neg h1]
      rw [Bool.eq_iff_iff, Bool.and_eq_true, decide_eq_true_eq, decide_eq_true_eq, decide_eq_true_eq]
      omega
theorem fire_zero (s : CSet) : ∀ (p : Rounds) (c : Nat), (∀ r, r ∈ p → c ∉ r) → (s.fire p).1 c = 0
  | [], _, _ => rfl
  | r :: p, c, h => by
    show (if r.contains c then _ else (s.fire p).1 c) = 0
    rw [if_neg (by rw [List.contains_eq_mem]; simpa using h r (by simp)), fire_zero s p c (fun q hq => h q (by simp [hq]))]
theorem lasts_right {s : CSet} (hm : ∀ c, c < s.paints.length → 0 ≤ (s.paint c).most) {p : Rounds} (hn : p.flatten.Nodup) (hp : ∀ r, r ∈ p → ∀ c, c ∈ r → c < s.paints.length) :
    s.lasts p = ((p.all fun r => r.all fun c => decide ((s.fire p).1 c ≤ (s.paint c).most)) && s.eats.all (okEat p)) := by
  unfold lasts
  congr 1
  · rw [Bool.eq_iff_iff, List.all_eq_true, List.all_eq_true]
    constructor
    · intro h r hr
      rw [List.all_eq_true]
      exact fun c hc => h c (List.mem_range.2 (hp r hr c hc))
    · intro h c hc
      by_cases e : ∃ r, r ∈ p ∧ c ∈ r
      · obtain ⟨r, hr, hcr⟩ := e
        exact List.all_eq_true.1 (h r hr) c hcr
      · rw [fire_zero s p c (fun r hr hcr => e ⟨r, hr, hcr⟩)]
        exact decide_eq_true (hm c (List.mem_range.1 hc))
  · rw [List.any_eq_not_all_not, Bool.not_not]
    congr 1
    funext e
    unfold okEat
    rw [eaten_seat hn]

theorem okPair_iff {s : CSet} {p : Rounds} {h t : Nat → Int} {a b : Nat} : okPair s p h t a b = true ↔
    (0 ≤ seat p a → 0 ≤ seat p b → (a ≠ b → seat p a = seat p b → far (h a) (h b) ≤ s.near) ∧ (seat p b < seat p a → h a < h b) ∧ (seat p a = seat p b + 1 → far (t a) (t b) ≤ s.give)) := by
  unfold okPair
  by_cases c0 : seat p a < 0 ∨ seat p b < 0
  · rw [if_pos c0]
    exact ⟨fun _ h1 h2 => by omega, fun _ => rfl⟩
  · rw [if_neg c0]
    by_cases c1 : (a ≠ b ∧ seat p a = seat p b) ∧ s.near < far (h a) (h b)
    · rw [if_pos c1]
      refine ⟨fun e => absurd e (by decide), fun e => ?_⟩
      have := (e (by omega) (by omega)).1 c1.1.1 c1.1.2
      omega
    · rw [if_neg c1]
      by_cases c2 : seat p b < seat p a ∧ h b ≤ h a
      · rw [if_pos c2]
        refine ⟨fun e => absurd e (by decide), fun e => ?_⟩
        have := (e (by omega) (by omega)).2.1 c2.1
        omega
      · rw [if_neg c2]
        by_cases c3 : seat p a = seat p b + 1 ∧ s.give < far (t a) (t b)
        · rw [if_pos c3]
          refine ⟨fun e => absurd e (by decide), fun e => ?_⟩
          have := (e (by omega) (by omega)).2.2 c3.1
          omega
        · rw [if_neg c3]
          refine ⟨fun _ _ _ => ⟨fun q1 q2 => ?_, fun q => ?_, fun q => ?_⟩, fun _ => rfl⟩
          · exact Int.not_lt.1 fun q3 => c1 ⟨⟨q1, q2⟩, q3⟩
          · exact Int.not_le.1 fun q3 => c2 ⟨q, q3⟩
          · exact Int.not_lt.1 fun q3 => c3 ⟨q, q3⟩
theorem far_le {a b m : Int} : far a b ≤ m ↔ a - b ≤ m ∧ b - a ≤ m := by unfold far; omega

theorem mem_take {p : Rounds} {i o : Nat} (_hi : i ≤ p.length) : o ∈ (p.take i).flatten ↔ ∃ j, j < i ∧ j < p.length ∧ o ∈ p.getD j [] := by
  rw [List.mem_flatten]
  constructor
  · rintro ⟨r, hr, ho⟩
    obtain ⟨j, hj, rfl⟩ := List.getElem_of_mem hr
    rw [List.length_take] at hj
    refine ⟨j, by omega, by omega, ?_⟩
    rw [List.getElem_take] at ho
    simpa [List.getD, List.getElem?_eq_getElem (show j < p.length by omega)] using ho
  · rintro ⟨j, hj, hl, ho⟩
    refine ⟨p[j], ?_, by simpa [List.getD, List.getElem?_eq_getElem hl] using ho⟩
    exact List.mem_of_getElem? (i := j) (by rw [List.getElem?_take, if_pos hj, List.getElem?_eq_getElem hl])
theorem mem_heatTies {s : CSet} {p : Rounds} {x : Tie} : x ∈ s.heatTies p ↔ ∃ i c, i < p.length ∧ c ∈ p.getD i [] ∧ ((∃ o, o ∈ p.getD i [] ∧ c ≠ o ∧ x = ⟨c, o, s.near⟩) ∨ ∃ j o, j < i ∧ o ∈ p.getD j [] ∧ x = ⟨c, o, -1⟩) := by
  unfold heatTies heatTiesOf heatTiesAt
  simp only [List.mem_flatMap, List.mem_range, List.mem_append, List.mem_map, List.mem_filter]
  constructor
  · rintro ⟨i, hi, c, hc, ⟨o, ⟨ho, hne⟩, rfl⟩ | ⟨o, ho, rfl⟩⟩
    · exact ⟨i, c, hi, hc, .inl ⟨o, ho, by simpa using hne, rfl⟩⟩
    · obtain ⟨j, hj, _, hm⟩ := (mem_take (Nat.le_of_lt hi)).1 ho
      exact ⟨i, c, hi, hc, .inr ⟨j, o, hj, hm, rfl⟩⟩
  · rintro ⟨i, c, hi, hc, ⟨o, ho, hne, rfl⟩ | ⟨j, o, hj, ho, rfl⟩⟩
    · exact ⟨i, hi, c, hc, .inl ⟨o, ⟨ho, by simpa using hne⟩, rfl⟩⟩
    · exact ⟨i, hi, c, hc, .inr ⟨o, (mem_take (Nat.le_of_lt hi)).2 ⟨j, hj, by omega, ho⟩, rfl⟩⟩
theorem mem_stretchTies {s : CSet} {p : Rounds} {x : Tie} : x ∈ s.stretchTies p ↔ ∃ i u o, i + 1 < p.length ∧ u ∈ p.getD i [] ∧ o ∈ p.getD (i + 1) [] ∧ (x = ⟨o, u, s.give⟩ ∨ x = ⟨u, o, s.give⟩) := by
  unfold stretchTies stretchTiesOf
  simp only [List.mem_flatMap, List.mem_range, List.mem_cons, List.not_mem_nil, or_false]
  constructor
  · rintro ⟨i, hi, u, hu, o, ho, h⟩
    exact ⟨i, u, o, by omega, hu, ho, h⟩
  · rintro ⟨i, u, o, hi, hu, ho, h⟩
    exact ⟨i, by omega, u, hu, o, ho, h⟩

/-- A plan is right for some heats and stretches just if it lasts, and they keep its ties. -/
theorem right_iff {s : CSet} (hm : ∀ c, c < s.paints.length → 0 ≤ (s.paint c).most) {p : Rounds} (hn : p.flatten.Nodup) (hp : ∀ r, r ∈ p → ∀ c, c ∈ r → c < s.paints.length) (h t : Nat → Int) :
    rightB s p h t = true ↔ s.lasts p = true ∧ (∀ x, x ∈ s.heatTies p → h x.a - h x.b ≤ x.by_) ∧ ∀ x, x ∈ s.stretchTies p → t x.a - t x.b ≤ x.by_ := by
  have hlt : ∀ i c, i < p.length → c ∈ p.getD i [] → c < s.paints.length := fun i c hi hc => hp _ (by rw [List.getD, List.getElem?_eq_getElem hi]; exact List.getElem_mem hi) c hc
  unfold rightB
  rw [← Bool.and_assoc, ← lasts_right hm hn hp, Bool.and_eq_true]
  refine and_congr_right fun _ => ?_
  have key : ((List.range s.paints.length).all fun a => (List.range s.paints.length).all fun b => okPair s p h t a b) = true ↔ ∀ a b, a < s.paints.length → b < s.paints.length → okPair s p h t a b = true := by
    simp only [List.all_eq_true, List.mem_range]
    exact ⟨fun q a b ha hb => q a ha b hb, fun q a ha b hb => q a b ha hb⟩
  rw [key]
  constructor
  · intro q
    refine ⟨fun x hx => ?_, fun x hx => ?_⟩
    · obtain ⟨i, c, hi, hc, ⟨o, ho, hne, rfl⟩ | ⟨j, o, hj, ho, rfl⟩⟩ := mem_heatTies.1 hx
      · have e := (okPair_iff.1 (q c o (hlt i c hi hc) (hlt i o hi ho)) (by rw [seat_mem hn hi hc]; omega) (by rw [seat_mem hn hi ho]; omega)).1 hne (by rw [seat_mem hn hi hc, seat_mem hn hi ho])
        exact (far_le.1 e).1
      · have hjl : j < p.length := by omega
        have e := (okPair_iff.1 (q c o (hlt i c hi hc) (hlt j o hjl ho)) (by rw [seat_mem hn hi hc]; omega) (by rw [seat_mem hn hjl ho]; omega)).2.1 (by rw [seat_mem hn hi hc, seat_mem hn hjl ho]; omega)
        show h c - h o ≤ -1
        omega
    · obtain ⟨i, u, o, hi, hu, ho, hx⟩ := mem_stretchTies.1 hx
      have hil : i < p.length := by omega
      have e := far_le.1 ((okPair_iff.1 (q o u (hlt (i + 1) o hi ho) (hlt i u hil hu)) (by rw [seat_mem hn hi ho]; omega) (by rw [seat_mem hn hil hu]; omega)).2.2 (by rw [seat_mem hn hi ho, seat_mem hn hil hu]; omega))
      rcases hx with rfl | rfl
      · exact e.1
      · exact e.2
  · rintro ⟨q1, q2⟩ a b _ _
    refine okPair_iff.2 fun sa sb => ?_
    rcases seat_cases p a with e | ⟨i, hi, ha, ea⟩
    · omega
    rcases seat_cases p b with e | ⟨j, hj, hb, eb⟩
    · omega
    refine ⟨fun hne hs => ?_, fun hs => ?_, fun hs => ?_⟩
    · obtain rfl : i = j := by omega
      exact far_le.2 ⟨q1 ⟨a, b, s.near⟩ (mem_heatTies.2 ⟨i, a, hi, ha, .inl ⟨b, hb, hne, rfl⟩⟩), q1 ⟨b, a, s.near⟩ (mem_heatTies.2 ⟨i, b, hi, hb, .inl ⟨a, ha, Ne.symm hne, rfl⟩⟩)⟩
    · have := q1 ⟨a, b, -1⟩ (mem_heatTies.2 ⟨i, a, hi, ha, .inr ⟨j, b, by omega, hb, rfl⟩⟩)
      simp only at this
      omega
    · obtain rfl : i = j + 1 := by omega
      exact far_le.2 ⟨q2 ⟨a, b, s.give⟩ (mem_stretchTies.2 ⟨j, b, a, hi, hb, ha, .inl rfl⟩), q2 ⟨b, a, s.give⟩ (mem_stretchTies.2 ⟨j, b, a, hi, hb, ha, .inr rfl⟩)⟩

end CSet
end Go.Proofs.Ytpkadofgmhninaa
namespace Go.Proofs.Ytpkadofgmhninaa
open Go.RowKit

set_option maxHeartbeats 400000 in
theorem far_any (x y : Nat) (hx : x ≤ 1000000) (hy : y ≤ 1000000) (w : World) :
    Calls Try.prog 35 #[.int .i64 (x : Int), .int .i64 (y : Int)] w fun e w' => e = .returned (.int .i64 ((max (x - y) (y - x) : Nat) : Int)) ∧ w' = w := by
  have h1 : IntKind.wrap .i64 ((x : Int) - y) = (x : Int) - y := by rw [IntKind.wrap_i64]; omega
  have h2 : IntKind.wrap .i64 ((y : Int) - x) = (y : Int) - x := by rw [IntKind.wrap_i64]; omega
  go_enter Try.func35, Try.ntmps35
  go_wp2
  go_ret
  refine ⟨?_, rfl⟩
  exact ret_int (a := max ((x : Int) - y) ((y : Int) - x)) (by omega)

end Go.Proofs.Ytpkadofgmhninaa
namespace Go.Proofs.Ytpkadofgmhninaa
open CSet

/-- A plan by bytes is a plan. -/
theorem layUp_asc (bs : List Nat) (i m : Nat) : Asc m (layUp bs i m) := ⟨fun _ hq => List.mem_range.1 (List.mem_filter.1 hq).1, List.Pairwise.filter _ (List.pairwise_lt_range (n := m))⟩
theorem laysUp_ok (bs : List Nat) {m n : Nat} (hm : m ≤ n) (k : Nat) : PlanOk n (laysUp bs m k) ∧ ∀ r, r ∈ laysUp bs m k → Asc n r := by
  have hr : ∀ r, r ∈ laysUp bs m k → r ≠ [] ∧ ∃ i, i < k ∧ r = layUp bs i m := fun r hr => by
    obtain ⟨h1, h2⟩ := List.mem_filter.1 hr
    obtain ⟨i, hi, rfl⟩ := List.mem_map.1 h1
    exact ⟨by simpa using h2, i, List.mem_range.1 hi, rfl⟩
  have ha : ∀ r, r ∈ laysUp bs m k → Asc n r := fun r h => by
    obtain ⟨-, i, -, rfl⟩ := hr r h
    exact ⟨fun c hc => Nat.lt_of_lt_of_le ((layUp_asc bs i m).1 c hc) hm, (layUp_asc bs i m).2⟩
  refine ⟨⟨fun r h => (hr r h).1, fun r h => (ha r h).cl, ?_⟩, ha⟩
  refine List.pairwise_flatten.2 ⟨fun r h => (ha r h).cl.2, ?_⟩
  unfold laysUp
  refine List.Pairwise.filter _ (List.pairwise_map.2 ((List.pairwise_lt_range (n := k)).imp fun {i j} hij => ?_))
  intro x hx y hy e
  subst e
  have h1 := (List.mem_filter.1 hx).2
  have h2 := (List.mem_filter.1 hy).2
  simp only [beq_iff_eq] at h1 h2
  omega

namespace CSet
/-- Plans that truly are right can all have come out well. -/
theorem truly_right {s : CSet} (hs : s.Ok) (ps : List Rounds) (hp : ∀ p, p ∈ ps → PlanOk s.paints.length p) (f t : Nat → Int) (hf : ∀ c, c < s.paints.length → (s.paint c).hl ≤ f c ∧ f c ≤ (s.paint c).hh) (ht : ∀ c, c < s.paints.length → (s.paint c).sl ≤ t c ∧ t c ≤ (s.paint c).sh)
    (h : ∀ p, p ∈ ps → rightB s p f t = true) : s.truly ps = true := by
  have hm : ∀ c, c < s.paints.length → 0 ≤ (s.paint c).most := fun c hc => by have := hs.paints c hc; omega
  have hlt : ∀ p, p ∈ ps → ∀ r, r ∈ p → ∀ c, c ∈ r → c < s.paints.length := fun p hpm r hr c hc => ((hp p hpm).asc r hr).1 c hc
  have hlg : ∀ p, p ∈ ps → ∀ i c, i < p.length → c ∈ p.getD i [] → c < s.paints.length := fun p hpm i c hi hc => hlt p hpm _ (by rw [List.getD, List.getElem?_eq_getElem hi]; exact List.getElem_mem hi) c hc
  have key := fun p (hpm : p ∈ ps) => (right_iff hm (hp p hpm).once (hlt p hpm) f t).1 (h p hpm)
  refine truly_of hs.n5 ps f t hf ht (fun p hpm => (key p hpm).1) (fun p hpm x hx => ?_) (fun p hpm x hx => ?_)
  · have hb := (key p hpm).2.1 x hx
    obtain ⟨i, c, hi, hc, ⟨o, ho, _, rfl⟩ | ⟨j, o, hj, ho, rfl⟩⟩ := mem_heatTies.1 hx
    · exact ⟨hlg p hpm i c hi hc, hlg p hpm i o hi ho, hb⟩
    · exact ⟨hlg p hpm i c hi hc, hlg p hpm j o (by omega) ho, hb⟩
  · have hb := (key p hpm).2.2 x hx
    obtain ⟨i, u, o, hi, hu, ho, rfl | rfl⟩ := mem_stretchTies.1 hx
    · exact ⟨hlg p hpm (i + 1) o hi ho, hlg p hpm i u (by omega) hu, hb⟩
    · exact ⟨hlg p hpm i u (by omega) hu, hlg p hpm (i + 1) o hi ho, hb⟩

theorem mem_dropAt {ps : List Rounds} {d : List Nat} {q : Rounds} (h : q ∈ dropAt ps d) : ∃ i, i < ps.length ∧ i ∉ d ∧ q = ps.getD i [] := by
  unfold dropAt at h
  obtain ⟨i, hi, rfl⟩ := List.mem_map.1 h
  obtain ⟨h1, h2⟩ := List.mem_filter.1 hi
  exact ⟨i, List.mem_range.1 h1, by simpa [List.contains_eq_mem] using h2, rfl⟩
/-- The plans that truly were not right. -/
def notRight (s : CSet) (ps : List Rounds) (f t : Nat → Int) : List Nat := (List.range ps.length).filter fun i => !rightB s (ps.getD i []) f t
theorem wrong_some {s : CSet} (hs : s.Ok) (ps : List Rounds) (hp : ∀ p, p ∈ ps → PlanOk s.paints.length p) (f t : Nat → Int) (hf : ∀ c, c < s.paints.length → (s.paint c).hl ≤ f c ∧ f c ≤ (s.paint c).hh) (ht : ∀ c, c < s.paints.length → (s.paint c).sl ≤ t c ∧ t c ≤ (s.paint c).sh)
    (h0 : s.canDrop ps [] = false) : ∃ d, fewest (s.canDrop ps) (List.range ps.length) = some d ∧ d ≠ [] ∧ d.Sublist (List.range ps.length) ∧ s.canDrop ps d = true ∧ (∀ y : List Nat, y.Sublist d → y.length < d.length → s.canDrop ps y = false) ∧ d.length ≤ (notRight s ps f t).length := by
  have hD : s.canDrop ps (notRight s ps f t) = true := by
    unfold canDrop
    refine truly_right hs _ (fun q hq => ?_) f t hf ht (fun q hq => ?_)
    · obtain ⟨i, hi, -, rfl⟩ := mem_dropAt hq
      exact hp _ (by rw [List.getD, List.getElem?_eq_getElem hi]; exact List.getElem_mem hi)
    · obtain ⟨i, hi, hn, rfl⟩ := mem_dropAt hq
      unfold notRight at hn
      cases e : rightB s (ps.getD i []) f t with
      | true => rfl
      | false => exact absurd (List.mem_filter.2 ⟨List.mem_range.2 hi, by rw [e]; rfl⟩) hn
  have hne : notRight s ps f t ≠ [] := fun e => by rw [e, h0] at hD; cases hD
  have hsub : (notRight s ps f t).Sublist (List.range ps.length) := List.filter_sublist
  cases e : fewest (s.canDrop ps) (List.range ps.length) with
  | none =>
    have := fewest_none e _ hne hsub
    rw [hD] at this; cases this
  | some d =>
    obtain ⟨h1, h2, h3, h4⟩ := fewest_some e
    refine ⟨d, rfl, h1, h2, h3, fun y hy hl => ?_, h4 _ hne hsub hD⟩
    by_cases hy0 : y = []
    · rw [hy0]; exact h0
    · cases hc : s.canDrop ps y with
      | false => rfl
      | true =>
        have := h4 y hy0 (hy.trans h2) hc
        omega
end CSet
end Go.Proofs.Ytpkadofgmhninaa
