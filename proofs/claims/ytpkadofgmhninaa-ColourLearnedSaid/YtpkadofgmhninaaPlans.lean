/- Which colours can be on one sign: plain facts on plans. A plan that surely is right, said by its rounds; which plans of some colours there are. Gaps between colours' values, as a plain list of thirty-six integers. -/
import Derived.Test.YtpkadofgmhninaaCheckA
namespace Go.Proofs.Ytpkadofgmhninaa

def dropOut (l d : List Nat) : List Nat := l.filter fun x => !d.contains x

theorem parts_mem : ∀ (l b r : List Nat), r ∈ CSet.parts b l → ∃ t, r = b ++ t ∧ t ≠ [] ∧ t.Sublist l
  | [], b, r, h => by cases h
  | x :: xs, b, r, h => by
    simp only [CSet.parts, List.mem_cons, List.mem_append] at h
    rcases h with rfl | h | h
    · exact ⟨[x], rfl, by simp, by simp⟩
    · obtain ⟨t, rfl, h1, h2⟩ := parts_mem xs _ _ h
      exact ⟨x :: t, by simp, by simp, h2.cons_cons x⟩
    · obtain ⟨t, rfl, h1, h2⟩ := parts_mem xs _ _ h
      exact ⟨t, rfl, h1, h2.cons x⟩
theorem mem_parts : ∀ (l b t : List Nat), t ≠ [] → t.Sublist l → b ++ t ∈ CSet.parts b l
  | [], b, t, h, hs => absurd (List.sublist_nil.1 hs) h
  | x :: xs, b, t, h, hs => by
    simp only [CSet.parts, List.mem_cons, List.mem_append]
    cases hs with
    | cons _ hs => exact .inr (.inr (mem_parts xs b t h hs))
    | cons_cons _ hs =>
      rename_i t
      by_cases e : t = []
      · subst e; exact .inl rfl
      · refine .inr (.inl ?_)
        have := mem_parts xs (b ++ [x]) t e hs
        rwa [List.append_assoc] at this

theorem dropOut_append (cs a r : List Nat) : dropOut cs (a ++ r) = (dropOut cs a).filter fun x => !r.contains x := by
  unfold dropOut
  rw [List.filter_filter]
  congr 1
  funext x
  simp [List.contains_eq_mem, Bool.and_comm]
theorem dropOut_less {cs a r : List Nat} (h : r ≠ []) (hs : r.Sublist (dropOut cs a)) : (dropOut cs (a ++ r)).length < (dropOut cs a).length := by
  rw [dropOut_append]
  obtain ⟨x, hx⟩ := List.exists_mem_of_ne_nil r h
  have hx' := hs.subset hx
  rcases Nat.lt_or_ge ((dropOut cs a).filter fun x => !r.contains x).length (dropOut cs a).length with h1 | h1
  · exact h1
  · have := List.filter_sublist.eq_of_length_le h1
    rw [← this] at hx'
    have := (List.mem_filter.1 hx').2
    simp [List.contains_eq_mem, hx] at this
theorem dropOut_mem {cs a : List Nat} {x : Nat} : x ∈ dropOut cs a ↔ x ∈ cs ∧ x ∉ a := by
  unfold dropOut
  rw [List.mem_filter]
  simp [List.contains_eq_mem]

namespace CSet
/-- The plans of some colours that begin with some rounds. -/
def plansFrom (s : CSet) (cs : List Nat) : Nat → Rounds → List Rounds
  | 0, _ => []
  | f + 1, p => if s.surely p then (if dropOut cs p.flatten = [] then [p] else (parts [] (dropOut cs p.flatten)).flatMap fun r => s.plansFrom cs f (p ++ [r])) else []
/-- All plans of some colours that surely are right. -/
def plansOf (s : CSet) (cs : List Nat) : List Rounds := s.plansFrom cs 6 []
def better (s : CSet) (best : Option Rounds) (p : Rounds) : Option Rounds :=
  match best with
  | none => some p
  | some b => if (s.fire p).2 < (s.fire b).2 then some p else some b
def planOf (s : CSet) (cs : List Nat) : Option Rounds := (s.plansOf cs).foldl s.better none
def can (s : CSet) (cs : List Nat) : Bool := !(s.plansOf cs).isEmpty
/-- A shorter part for which a condition holds. -/
def few (h : List Nat → Bool) (best : Option (List Nat)) (part : List Nat) : Option (List Nat) :=
  match best with
  | none => if h part then some part else none
  | some b => if part.length < b.length then (if h part then some part else some b) else some b
def fewest (h : List Nat → Bool) (l : List Nat) : Option (List Nat) := (parts [] l).foldl (few h) none
def withOf (s : CSet) (cs : List Nat) : List Nat := (List.range s.paints.length).filter fun c => !cs.contains c && s.can (cs ++ [c])

theorem better_some (s : CSet) (ps : List Rounds) : ∀ b, ∃ q, ps.foldl s.better (some b) = some q ∧ (q = b ∨ q ∈ ps) ∧ (s.fire q).2 ≤ (s.fire b).2 ∧ ∀ p, p ∈ ps → (s.fire q).2 ≤ (s.fire p).2 := by
  induction ps with
  | nil => exact fun b => ⟨b, rfl, .inl rfl, Int.le_refl _, nofun⟩
  | cons p ps ih =>
    intro b
    simp only [List.foldl_cons]
    by_cases h : (s.fire p).2 < (s.fire b).2
    · have e : s.better (some b) p = some p := by simp [better, h]
      rw [e]
      obtain ⟨q, h1, h2, h3, h4⟩ := ih p
      refine ⟨q, h1, ?_, by omega, ?_⟩
      · rcases h2 with rfl | h2
        · exact .inr (by simp)
        · exact .inr (by simp [h2])
      · intro x hx
        rcases List.mem_cons.1 hx with rfl | hx
        · exact h3
        · exact h4 x hx
    · have e : s.better (some b) p = some b := by simp [better, h]
      rw [e]
      obtain ⟨q, h1, h2, h3, h4⟩ := ih b
      refine ⟨q, h1, ?_, h3, ?_⟩
      · rcases h2 with rfl | h2
        · exact .inl rfl
        · exact .inr (by simp [h2])
      · intro x hx
        rcases List.mem_cons.1 hx with rfl | hx
        · omega
        · exact h4 x hx
theorem planOf_none {s : CSet} {cs : List Nat} : s.planOf cs = none ↔ s.can cs = false := by
  unfold planOf can
  cases h : s.plansOf cs with
  | nil => simp
  | cons p ps =>
    obtain ⟨q, h1, -, -, -⟩ := better_some s ps p
    simp only [List.foldl_cons]
    rw [show s.better none p = some p from rfl, h1]
    simp
theorem planOf_some {s : CSet} {cs : List Nat} {q : Rounds} (h : s.planOf cs = some q) : q ∈ s.plansOf cs ∧ ∀ p, p ∈ s.plansOf cs → (s.fire q).2 ≤ (s.fire p).2 := by
  unfold planOf at h
  cases e : s.plansOf cs with
  | nil => rw [e] at h; cases h
  | cons p ps =>
    rw [e] at h
    obtain ⟨q', h1, h2, h3, h4⟩ := better_some s ps p
    simp only [List.foldl_cons] at h
    rw [show s.better none p = some p from rfl, h1] at h
    injection h with h
    subst h
    refine ⟨?_, ?_⟩
    · rcases h2 with rfl | h2
      · simp
      · simp [h2]
    · intro x hx
      rcases List.mem_cons.1 hx with rfl | hx
      · exact h3
      · exact h4 x hx

theorem few_fold (h : List Nat → Bool) (ps : List (List Nat)) : ∀ b, (∀ x, b = some x → h x = true) →
    (∀ x, ps.foldl (few h) b = some x → (b = some x ∨ x ∈ ps) ∧ h x = true ∧ (∀ y, b = some y → x.length ≤ y.length) ∧ ∀ y, y ∈ ps → h y = true → x.length ≤ y.length) ∧
    (ps.foldl (few h) b = none → b = none ∧ ∀ y, y ∈ ps → h y = false) := by
  induction ps with
  | nil =>
    intro b hb
    refine ⟨fun x hx => ⟨.inl hx, hb x hx, fun y hy => ?_, nofun⟩, fun hx => ⟨hx, nofun⟩⟩
    simp only [List.foldl_nil] at hx
    rw [hx] at hy; injection hy with hy; subst hy; exact Nat.le_refl _
  | cons p ps ih =>
    intro b hb
    simp only [List.foldl_cons]
    have key : ∀ b', few h b p = b' → (b' = b ∧ (h p = true → ∃ y, b = some y ∧ y.length ≤ p.length)) ∨ (b' = some p ∧ h p = true ∧ ∀ y, b = some y → p.length ≤ y.length) := by
      intro b' e
      unfold few at e
      cases b with
      | none =>
        simp only at e
        by_cases hp : h p = true
        · rw [if_pos hp] at e; exact .inr ⟨e.symm, hp, nofun⟩
        · rw [if_neg hp] at e; exact .inl ⟨e.symm, fun h => absurd h hp⟩
      | some y =>
        simp only at e
        by_cases hl : p.length < y.length
        · rw [if_pos hl] at e
          by_cases hp : h p = true
          · rw [if_pos hp] at e; exact .inr ⟨e.symm, hp, fun z hz => by injection hz with hz; subst hz; omega⟩
          · rw [if_neg hp] at e; exact .inl ⟨e.symm, fun h => absurd h hp⟩
        · rw [if_neg hl] at e; exact .inl ⟨e.symm, fun _ => ⟨y, rfl, by omega⟩⟩
    generalize hb' : few h b p = b' at *
    rcases key b' rfl with ⟨rfl, hk⟩ | ⟨rfl, hk1, hk2⟩
    · obtain ⟨i1, i2⟩ := ih b' hb
      refine ⟨fun x hx => ?_, fun hx => ?_⟩
      · obtain ⟨j1, j2, j3, j4⟩ := i1 x hx
        refine ⟨j1.imp id (fun h => by simp [h]), j2, j3, fun y hy hhy => ?_⟩
        rcases List.mem_cons.1 hy with rfl | hy
        · obtain ⟨z, hz, hzl⟩ := hk hhy
          have := j3 z hz; omega
        · exact j4 y hy hhy
      · obtain ⟨j1, j2⟩ := i2 hx
        refine ⟨j1, fun y hy => ?_⟩
        rcases List.mem_cons.1 hy with rfl | hy
        · cases e : h y with
          | false => rfl
          | true => obtain ⟨z, hz, _⟩ := hk e; rw [j1] at hz; cases hz
        · exact j2 y hy
    · obtain ⟨i1, i2⟩ := ih (some p) (fun x hx => by injection hx with hx; subst hx; exact hk1)
      refine ⟨fun x hx => ?_, fun hx => ?_⟩
      · obtain ⟨j1, j2, j3, j4⟩ := i1 x hx
        refine ⟨.inr (j1.elim (fun h => by injection h with h; simp [h]) (fun h => by simp [h])), j2, fun y hy => by have := j3 p rfl; have := hk2 y hy; omega, fun y hy hhy => ?_⟩
        rcases List.mem_cons.1 hy with rfl | hy
        · exact j3 y rfl
        · exact j4 y hy hhy
      · have := (i2 hx).1; cases this
theorem fewest_some {h : List Nat → Bool} {l x : List Nat} (e : fewest h l = some x) : x ≠ [] ∧ x.Sublist l ∧ h x = true ∧ ∀ y, y ≠ [] → y.Sublist l → h y = true → x.length ≤ y.length := by
  obtain ⟨j1, j2, -, j4⟩ := (few_fold h (parts [] l) none nofun).1 x e
  rcases j1 with j1 | j1
  · cases j1
  · obtain ⟨t, rfl, h1, h2⟩ := parts_mem _ _ _ j1
    refine ⟨h1, h2, j2, fun y hy hs hh => j4 y ?_ hh⟩
    exact mem_parts l [] y hy hs
theorem fewest_none {h : List Nat → Bool} {l : List Nat} (e : fewest h l = none) : ∀ y, y ≠ [] → y.Sublist l → h y = false := fun y hy hs =>
  ((few_fold h (parts [] l) none nofun).2 e).2 y (mem_parts l [] y hy hs)
end CSet

end Go.Proofs.Ytpkadofgmhninaa
namespace Go.Proofs.Ytpkadofgmhninaa
namespace CSet

theorem most_fold (s : CSet) : ∀ (r : List Nat) (m : Int), m ≤ r.foldl (fun m c => max m (s.paint c).coats) m ∧ (∀ c, c ∈ r → (s.paint c).coats ≤ r.foldl (fun m c => max m (s.paint c).coats) m) ∧
    (r.foldl (fun m c => max m (s.paint c).coats) m = m ∨ ∃ c, c ∈ r ∧ r.foldl (fun m c => max m (s.paint c).coats) m = (s.paint c).coats)
  | [], m => ⟨Int.le_refl _, nofun, .inl rfl⟩
  | x :: r, m => by
    obtain ⟨h1, h2, h3⟩ := most_fold s r (max m (s.paint x).coats)
    simp only [List.foldl_cons]
    refine ⟨by omega, fun c hc => ?_, ?_⟩
    · rcases List.mem_cons.1 hc with rfl | hc
      · omega
      · exact h2 c hc
    · rcases h3 with h3 | ⟨c, hc, h3⟩
      · rw [h3]
        rcases Int.le_total m (s.paint x).coats with h | h
        · exact .inr ⟨x, by simp, by omega⟩
        · exact .inl (by omega)
      · exact .inr ⟨c, by simp [hc], h3⟩
theorem most_ge (s : CSet) (r : List Nat) : 0 ≤ s.most r := (most_fold s r 0).1
theorem most_mono (s : CSet) {r q : List Nat} (h : ∀ c, c ∈ r → c ∈ q) : s.most r ≤ s.most q := by
  rcases (most_fold s r 0).2.2 with h1 | ⟨c, hc, h1⟩
  · have := most_ge s q
    unfold most at *; omega
  · have := (most_fold s q 0).2.1 c (h c hc)
    unfold most; omega
theorem most_congr (s : CSet) {r q : List Nat} (h : ∀ c, c ∈ r ↔ c ∈ q) : s.most r = s.most q :=
  Int.le_antisymm (most_mono s fun c => (h c).1) (most_mono s fun c => (h c).2)

theorem fire_ge (s : CSet) : ∀ p, 0 ≤ (s.fire p).2
  | [] => Int.le_refl _
  | r :: p => by have := fire_ge s p; have := most_ge s r; simp only [fire]; omega
theorem fire_out (s : CSet) : ∀ (p : Rounds) (c : Nat), c ∉ p.flatten → (s.fire p).1 c = 0
  | [], c, _ => rfl
  | r :: p, c, h => by
    simp only [List.flatten_cons, List.mem_append, not_or] at h
    simp only [fire]
    rw [if_neg (by simpa [List.contains_eq_mem] using h.1)]
    exact fire_out s p c h.2
theorem fire_in (s : CSet) : ∀ (p : Rounds) (c : Nat), 0 ≤ (s.fire p).1 c ∧ (s.fire p).1 c ≤ (s.fire p).2
  | [], c => ⟨Int.le_refl _, Int.le_refl _⟩
  | r :: p, c => by
    have h1 := fire_in s p c
    have h2 := most_ge s r
    simp only [fire]
    split <;> omega
theorem fire_append (s : CSet) (t : Rounds) : ∀ (p : Rounds), (s.fire (p ++ t)).2 = (s.fire p).2 + (s.fire t).2 ∧ ∀ c, (s.fire (p ++ t)).1 c = if c ∈ p.flatten then (s.fire p).1 c + (s.fire t).2 else (s.fire t).1 c
  | [] => ⟨by simp [fire], fun c => by simp⟩
  | r :: p => by
    obtain ⟨h1, h2⟩ := fire_append s t p
    refine ⟨by simp only [List.cons_append, fire]; omega, fun c => ?_⟩
    simp only [List.cons_append, fire, List.flatten_cons, List.mem_append]
    by_cases hc : c ∈ r
    · rw [if_pos (by simpa [List.contains_eq_mem] using hc), if_pos (.inl hc), if_pos (by simpa [List.contains_eq_mem] using hc)]
      omega
    · rw [if_neg (by simpa [List.contains_eq_mem] using hc), h2 c]
      by_cases hp : c ∈ p.flatten
      · rw [if_pos hp, if_pos (.inr hp), if_neg (by simpa [List.contains_eq_mem] using hc)]
      · rw [if_neg hp, if_neg (fun h => h.elim hc hp)]
theorem fire_map (s : CSet) (g : List Nat → List Nat) : ∀ (p : Rounds), (∀ r, r ∈ p → ∀ c, c ∈ g r ↔ c ∈ r) → s.fire (p.map g) = s.fire p
  | [], _ => rfl
  | r :: p, h => by
    have ih := fire_map s g p (fun r hr => h r (by simp [hr]))
    have hr := h r (by simp)
    simp only [List.map_cons, fire]
    rw [ih, most_congr s hr]
    congr 1
    funext c
    simp only [List.contains_eq_mem, hr c]

theorem mem_flat {p : Rounds} {c : Nat} : c ∈ p.flatten ↔ ∃ i, i < p.length ∧ c ∈ p.getD i [] := by
  rw [List.mem_flatten]
  constructor
  · rintro ⟨r, hr, hc⟩
    obtain ⟨i, hi, rfl⟩ := List.getElem_of_mem hr
    exact ⟨i, hi, by simpa [List.getD, List.getElem?_eq_getElem hi] using hc⟩
  · rintro ⟨i, hi, hc⟩
    refine ⟨p[i], List.getElem_mem hi, by simpa [List.getD, List.getElem?_eq_getElem hi] using hc⟩
theorem mem_takeFlat {p : Rounds} {k c : Nat} : c ∈ (p.take k).flatten ↔ ∃ i, i < k ∧ i < p.length ∧ c ∈ p.getD i [] := by
  rw [mem_flat]
  constructor
  · rintro ⟨i, hi, hc⟩
    rw [List.length_take] at hi
    refine ⟨i, by omega, by omega, ?_⟩
    simpa [List.getD, List.getElem?_take, show i < k by omega] using hc
  · rintro ⟨i, hi, hl, hc⟩
    refine ⟨i, by rw [List.length_take]; omega, ?_⟩
    simpa [List.getD, List.getElem?_take, hi] using hc

/-- A plan surely is right. -/
structure Sure (s : CSet) (p : Rounds) : Prop where
  fires : ∀ c, c < s.paints.length → (s.fire p).1 c ≤ (s.paint c).most
  eats : ∀ q, q ∈ s.eats → eaten p q = false
  near : ∀ i, i < p.length → ∀ c, c ∈ p.getD i [] → ∀ o, o ∈ p.getD i [] → c ≠ o → (s.paint c).hh - (s.paint o).hl ≤ s.near
  cool : ∀ i j, j < i → i < p.length → ∀ c, c ∈ p.getD i [] → ∀ o, o ∈ p.getD j [] → (s.paint c).hh - (s.paint o).hl ≤ -1
  give : ∀ i, i + 1 < p.length → ∀ u, u ∈ p.getD i [] → ∀ o, o ∈ p.getD (i + 1) [] → (s.paint o).sh - (s.paint u).sl ≤ s.give ∧ (s.paint u).sh - (s.paint o).sl ≤ s.give

theorem lasts_iff {s : CSet} {p : Rounds} : s.lasts p = true ↔ (∀ c, c < s.paints.length → (s.fire p).1 c ≤ (s.paint c).most) ∧ ∀ q, q ∈ s.eats → eaten p q = false := by
  unfold lasts
  simp only [Bool.and_eq_true, List.all_eq_true, List.mem_range, decide_eq_true_eq, Bool.not_eq_true', List.any_eq_false, Bool.not_eq_true]
theorem heat_iff {s : CSet} {p : Rounds} {low high : Nat → Int} : always low high (s.heatTies p) = true ↔
    (∀ i, i < p.length → ∀ c, c ∈ p.getD i [] → ∀ o, o ∈ p.getD i [] → c ≠ o → high c - low o ≤ s.near) ∧ ∀ i j, j < i → i < p.length → ∀ c, c ∈ p.getD i [] → ∀ o, o ∈ p.getD j [] → high c - low o ≤ -1 := by
  unfold always heatTies heatTiesOf heatTiesAt
  simp only [List.all_eq_true, List.mem_flatMap, List.mem_range, List.mem_append, List.mem_map, List.mem_filter, decide_eq_true_eq]
  constructor
  · intro h
    refine ⟨fun i hi c hc o ho hne => ?_, fun i j hj hi c hc o ho => ?_⟩
    · exact h ⟨c, o, s.near⟩ ⟨i, hi, c, hc, .inl ⟨o, ⟨ho, by simpa using hne⟩, rfl⟩⟩
    · exact h ⟨c, o, -1⟩ ⟨i, hi, c, hc, .inr ⟨o, mem_takeFlat.2 ⟨j, hj, by omega, ho⟩, rfl⟩⟩
  · rintro ⟨h1, h2⟩ t ⟨i, hi, c, hc, ⟨o, ⟨ho, hne⟩, rfl⟩ | ⟨o, ho, rfl⟩⟩
    · exact h1 i hi c hc o ho (by simpa using hne)
    · obtain ⟨j, hj, _, ho⟩ := mem_takeFlat.1 ho
      exact h2 i j hj hi c hc o ho
theorem stretch_iff {s : CSet} {p : Rounds} {low high : Nat → Int} : always low high (s.stretchTies p) = true ↔
    ∀ i, i + 1 < p.length → ∀ u, u ∈ p.getD i [] → ∀ o, o ∈ p.getD (i + 1) [] → high o - low u ≤ s.give ∧ high u - low o ≤ s.give := by
  unfold always stretchTies stretchTiesOf
  simp only [List.all_eq_true, List.mem_flatMap, List.mem_range, List.mem_cons, List.not_mem_nil, or_false, decide_eq_true_eq]
  constructor
  · intro h i hi u hu o ho
    exact ⟨h ⟨o, u, s.give⟩ ⟨i, by omega, u, hu, o, ho, .inl rfl⟩, h ⟨u, o, s.give⟩ ⟨i, by omega, u, hu, o, ho, .inr rfl⟩⟩
  · rintro h t ⟨i, hi, u, hu, o, ho, rfl | rfl⟩
    · exact (h i (by omega) u hu o ho).1
    · exact (h i (by omega) u hu o ho).2
theorem surely_iff {s : CSet} {p : Rounds} : s.surely p = true ↔ s.Sure p := by
  unfold surely
  rw [Bool.and_eq_true, Bool.and_eq_true, lasts_iff, heat_iff, stretch_iff]
  exact ⟨fun ⟨⟨h1, h2⟩, ⟨h3, h4⟩, h5⟩ => ⟨h1, h2, h3, h4, h5⟩, fun ⟨h1, h2, h3, h4, h5⟩ => ⟨⟨h1, h2⟩, ⟨h3, h4⟩, h5⟩⟩

theorem roundOf_iff {p : Rounds} {c i : Nat} : roundOf p c = some i ↔ i < p.length ∧ c ∈ p.getD i [] ∧ ∀ j, j < i → c ∉ p.getD j [] := by
  unfold roundOf
  rw [List.findIdx?_eq_some_iff_getElem]
  constructor
  · rintro ⟨hi, h1, h2⟩
    refine ⟨hi, by simpa [List.getD, List.getElem?_eq_getElem hi, List.contains_eq_mem] using h1, fun j hj => ?_⟩
    have := h2 j hj
    simpa [List.getD, List.getElem?_eq_getElem (show j < p.length by omega), List.contains_eq_mem] using this
  · rintro ⟨hi, h1, h2⟩
    refine ⟨hi, by simpa [List.getD, List.getElem?_eq_getElem hi, List.contains_eq_mem] using h1, fun j hj => ?_⟩
    have := h2 j hj
    simpa [List.getD, List.getElem?_eq_getElem (show j < p.length by omega), List.contains_eq_mem] using this
theorem eaten_iff {p : Rounds} {q : Nat × Nat} : eaten p q = true ↔ ∃ e r, roundOf p q.2 = some e ∧ roundOf p q.1 = some r ∧ e < r := by
  unfold eaten
  cases h1 : roundOf p q.2 with
  | none => simp
  | some e =>
    cases h2 : roundOf p q.1 with
    | none => simp
    | some r => simp
theorem getD_app {p t : Rounds} {i : Nat} (h : i < p.length) : (p ++ t).getD i [] = p.getD i [] := by
  simp [List.getD, List.getElem?_append_left h]
theorem roundOf_app {p t : Rounds} {c i : Nat} (h : roundOf p c = some i) : roundOf (p ++ t) c = some i := by
  obtain ⟨h1, h2, h3⟩ := roundOf_iff.1 h
  refine roundOf_iff.2 ⟨by rw [List.length_append]; omega, by rw [getD_app h1]; exact h2, fun j hj => by rw [getD_app (by omega)]; exact h3 j hj⟩
/-- What is wrong with a beginning is wrong with all that begin so. -/
theorem Sure.pre {s : CSet} {p t : Rounds} (h : s.Sure (p ++ t)) (hm : ∀ c, c < s.paints.length → 0 ≤ (s.paint c).most) : s.Sure p := by
  have hl : (p ++ t).length = p.length + t.length := List.length_append
  refine ⟨fun c hc => ?_, fun q hq => ?_, fun i hi => ?_, fun i j hj hi => ?_, fun i hi => ?_⟩
  · have h1 := h.fires c hc
    rw [(fire_append s t p).2 c] at h1
    by_cases e : c ∈ p.flatten
    · rw [if_pos e] at h1
      have := fire_ge s t; omega
    · rw [fire_out s p c e]; exact hm c hc
  · cases e : eaten p q with
    | false => rfl
    | true =>
      obtain ⟨a, b, h1, h2, h3⟩ := eaten_iff.1 e
      have := h.eats q hq
      rw [eaten_iff.2 ⟨a, b, roundOf_app h1, roundOf_app h2, h3⟩] at this
      cases this
  · have := h.near i (by omega)
    rwa [getD_app hi] at this
  · have := h.cool i j hj (by omega)
    rwa [getD_app hi, getD_app (by omega)] at this
  · have := h.give i (by omega)
    rwa [getD_app (by omega), getD_app hi] at this
theorem getD_mapg (g : List Nat → List Nat) {p : Rounds} {i : Nat} (h : i < p.length) : (p.map g).getD i [] = g (p.getD i []) := by
  simp [List.getD, List.getElem?_eq_getElem h]
/-- Only which colours a round has matters. -/
theorem Sure.map {s : CSet} {p : Rounds} (h : s.Sure p) (g : List Nat → List Nat) (hg : ∀ r, r ∈ p → ∀ c, c ∈ g r ↔ c ∈ r) : s.Sure (p.map g) := by
  have hm : ∀ i, i < p.length → ∀ c, c ∈ (p.map g).getD i [] ↔ c ∈ p.getD i [] := fun i hi c => by
    rw [getD_mapg g hi]
    refine hg _ ?_ c
    rw [show p.getD i [] = p[i] by simp [List.getD, List.getElem?_eq_getElem hi]]
    exact List.getElem_mem hi
  have hl : (p.map g).length = p.length := List.length_map ..
  refine ⟨fun c hc => ?_, fun q hq => ?_, fun i hi c hc o ho => ?_, fun i j hj hi c hc o ho => ?_, fun i hi u hu o ho => ?_⟩
  · rw [fire_map s g p hg]; exact h.fires c hc
  · cases e : eaten (p.map g) q with
    | false => rfl
    | true =>
      obtain ⟨a, b, h1, h2, h3⟩ := eaten_iff.1 e
      have key : ∀ {c i}, roundOf (p.map g) c = some i → roundOf p c = some i := fun {c i} hr => by
        obtain ⟨k1, k2, k3⟩ := roundOf_iff.1 hr
        rw [hl] at k1
        exact roundOf_iff.2 ⟨k1, (hm i k1 c).1 k2, fun j hj hc => k3 j hj ((hm j (by omega) c).2 hc)⟩
      have := h.eats q hq
      rw [eaten_iff.2 ⟨a, b, key h1, key h2, h3⟩] at this
      cases this
  · rw [hl] at hi; exact h.near i hi c ((hm i hi c).1 hc) o ((hm i hi o).1 ho)
  · rw [hl] at hi; exact h.cool i j hj hi c ((hm i hi c).1 hc) o ((hm j (by omega) o).1 ho)
  · rw [hl] at hi; exact h.give i hi u ((hm i (by omega) u).1 hu) o ((hm (i + 1) hi o).1 ho)

/-- Rounds of some colours, each colour once at most. -/
structure Part (cs : List Nat) (p : Rounds) : Prop where
  some_ : ∀ r, r ∈ p → r ≠ []
  sub : ∀ r, r ∈ p → r.Sublist cs
  once : p.flatten.Nodup
theorem part_nil (cs : List Nat) : Part cs [] := ⟨nofun, nofun, List.nodup_nil⟩
theorem Part.more {cs : List Nat} (hcs : cs.Nodup) {p : Rounds} (h : Part cs p) {r : List Nat} (h1 : r ≠ []) (h2 : r.Sublist (dropOut cs p.flatten)) : Part cs (p ++ [r]) := by
  have hs : r.Sublist cs := h2.trans List.filter_sublist
  refine ⟨fun x hx => ?_, fun x hx => ?_, ?_⟩
  · rcases List.mem_append.1 hx with hx | hx
    · exact h.some_ x hx
    · simp at hx; subst hx; exact h1
  · rcases List.mem_append.1 hx with hx | hx
    · exact h.sub x hx
    · simp at hx; subst hx; exact hs
  · rw [List.flatten_append, List.nodup_append]
    refine ⟨h.once, by rw [List.flatten_singleton]; exact hcs.sublist hs, fun x hx y hy e => ?_⟩
    subst e
    simp at hy
    exact (dropOut_mem.1 (h2.subset hy)).2 hx
theorem plansFrom_sound (s : CSet) {cs : List Nat} (hcs : cs.Nodup) : ∀ (f : Nat) (p q : Rounds), Part cs p → q ∈ s.plansFrom cs f p → Part cs q ∧ s.Sure q ∧ (∀ c, c ∈ cs → c ∈ q.flatten) ∧ ∃ t, q = p ++ t
  | 0, p, q, _, h => by cases h
  | f + 1, p, q, hp, h => by
    simp only [plansFrom] at h
    split at h
    · rename_i hs
      split at h
      · rename_i hd
        simp at h; subst h
        refine ⟨hp, surely_iff.1 hs, fun c hc => ?_, [], by simp⟩
        by_cases e : c ∈ q.flatten
        · exact e
        · have := dropOut_mem.2 ⟨hc, e⟩
          rw [hd] at this; cases this
      · obtain ⟨r, hr, hq⟩ := List.mem_flatMap.1 h
        obtain ⟨t, et, h1, h2⟩ := parts_mem _ _ _ hr
        rw [List.nil_append] at et
        subst et
        obtain ⟨k1, k2, k3, t, rfl⟩ := plansFrom_sound s hcs f _ q (hp.more hcs h1 h2) hq
        exact ⟨k1, k2, k3, r :: t, by simp⟩
    · cases h
theorem plansFrom_all (s : CSet) (hm : ∀ c, c < s.paints.length → 0 ≤ (s.paint c).most) {cs : List Nat} : ∀ (f : Nat) (p t : Rounds), Part cs (p ++ t) → s.Sure (p ++ t) → (∀ c, c ∈ cs → c ∈ (p ++ t).flatten) → (dropOut cs p.flatten).length < f → p ++ t ∈ s.plansFrom cs f p
  | 0, _, _, _, _, _, h => by omega
  | f + 1, p, t, hq, hs, hc, hf => by
    simp only [plansFrom]
    rw [if_pos (surely_iff.2 (hs.pre hm))]
    have hn := hq.once
    rw [List.flatten_append, List.nodup_append] at hn
    cases t with
    | nil =>
      rw [if_pos]
      · simp
      · rw [List.eq_nil_iff_forall_not_mem]
        intro c h
        have := dropOut_mem.1 h
        exact this.2 (by simpa using hc c this.1)
    | cons r t =>
      have hrm : r ∈ p ++ r :: t := by simp
      have hrn := hq.some_ r hrm
      have hsub : r.Sublist (dropOut cs p.flatten) := by
        have h1 := (hq.sub r hrm).filter (fun x => !p.flatten.contains x)
        have h2 : r.filter (fun x => !p.flatten.contains x) = r := by
          rw [List.filter_eq_self]
          intro x hx
          have : x ∉ p.flatten := fun hxp => hn.2.2 x hxp x (by simp [hx]) rfl
          simpa [List.contains_eq_mem] using this
        rwa [h2] at h1
      have hne : dropOut cs p.flatten ≠ [] := fun e => by rw [e] at hsub; exact hrn (List.sublist_nil.1 hsub)
      rw [if_neg hne, List.mem_flatMap]
      refine ⟨r, mem_parts _ [] r hrn hsub, ?_⟩
      have e : p ++ r :: t = (p ++ [r]) ++ t := by simp
      rw [e] at hq hs hc ⊢
      refine plansFrom_all s hm f _ t hq hs hc ?_
      have := dropOut_less hrn hsub
      rw [List.flatten_append, List.flatten_singleton]
      omega
theorem plansOf_iff {s : CSet} (hm : ∀ c, c < s.paints.length → 0 ≤ (s.paint c).most) {cs : List Nat} (hcs : cs.Nodup) (hl : cs.length ≤ 5) {q : Rounds} : q ∈ s.plansOf cs ↔ Part cs q ∧ s.Sure q ∧ ∀ c, c ∈ cs → c ∈ q.flatten := by
  constructor
  · intro h
    obtain ⟨h1, h2, h3, _⟩ := plansFrom_sound s hcs 6 [] q (part_nil cs) h
    exact ⟨h1, h2, h3⟩
  · rintro ⟨h1, h2, h3⟩
    exact plansFrom_all s hm 6 [] q h1 h2 h3 (by have := List.length_filter_le (fun x => !([] : Rounds).flatten.contains x) cs; unfold dropOut; omega)
theorem can_iff {s : CSet} {cs : List Nat} : s.can cs = true ↔ ∃ q, q ∈ s.plansOf cs := by
  unfold can
  cases s.plansOf cs with
  | nil => simp
  | cons p ps => simp only [List.isEmpty_cons, Bool.not_false, List.mem_cons, true_iff]; exact ⟨p, .inl rfl⟩
theorem can_congr_le {s : CSet} (hm : ∀ c, c < s.paints.length → 0 ≤ (s.paint c).most) {cs ds : List Nat} (hc : cs.Nodup) (hd : ds.Nodup) (hlc : cs.length ≤ 5) (hld : ds.length ≤ 5) (h : ∀ c, c ∈ cs ↔ c ∈ ds) (hcan : s.can cs = true) : s.can ds = true := by
  obtain ⟨q, hq⟩ := can_iff.1 hcan
  obtain ⟨h1, h2, h3⟩ := (plansOf_iff hm hc hlc).1 hq
  have hg : ∀ r, r ∈ q → ∀ c, c ∈ ds.filter (fun x => r.contains x) ↔ c ∈ r := fun r hr c => by
    rw [List.mem_filter]
    simp only [List.contains_eq_mem, decide_eq_true_eq]
    exact ⟨fun h => h.2, fun hcr => ⟨(h c).1 ((h1.sub r hr).subset hcr), hcr⟩⟩
  refine can_iff.2 ⟨q.map (fun r => ds.filter (fun x => r.contains x)), (plansOf_iff hm hd hld).2 ⟨⟨fun x hx => ?_, fun x hx => ?_, ?_⟩, h2.map _ hg, fun c hc => ?_⟩⟩
  · obtain ⟨r, hr, rfl⟩ := List.mem_map.1 hx
    obtain ⟨c, hc⟩ := List.exists_mem_of_ne_nil r (h1.some_ r hr)
    exact List.ne_nil_of_mem ((hg r hr c).2 hc)
  · obtain ⟨r, hr, rfl⟩ := List.mem_map.1 hx
    exact List.filter_sublist
  · have hn := h1.once
    clear h2 h3 hq hcan
    have hsub := h1.sub
    clear h1
    induction q with
    | nil => exact List.nodup_nil
    | cons r q ih =>
      rw [List.flatten_cons, List.nodup_append] at hn
      rw [List.map_cons, List.flatten_cons, List.nodup_append]
      refine ⟨hd.sublist List.filter_sublist, ih (fun r hr => hg r (by simp [hr])) hn.2.1 (fun r hr => hsub r (by simp [hr])), fun x hx y hy e => ?_⟩
      subst e
      obtain ⟨z, hz, hxz⟩ := List.mem_flatten.1 hy
      obtain ⟨r', hr', rfl⟩ := List.mem_map.1 hz
      exact hn.2.2 x ((hg r (by simp) x).1 hx) x (List.mem_flatten.2 ⟨r', hr', (hg r' (by simp [hr']) x).1 hxz⟩) rfl
  · obtain ⟨r, hr, hcr⟩ := List.mem_flatten.1 (h3 c ((h c).2 hc))
    exact List.mem_flatten.2 ⟨_, List.mem_map.2 ⟨r, hr, rfl⟩, (hg r hr c).2 hcr⟩
/-- Whether colours can be on one sign does not depend on their order. -/
theorem can_congr {s : CSet} (hm : ∀ c, c < s.paints.length → 0 ≤ (s.paint c).most) {cs ds : List Nat} (hc : cs.Nodup) (hd : ds.Nodup) (hlc : cs.length ≤ 5) (hld : ds.length ≤ 5) (h : ∀ c, c ∈ cs ↔ c ∈ ds) : s.can cs = s.can ds := by
  rw [Bool.eq_iff_iff]
  exact ⟨can_congr_le hm hc hd hlc hld h, can_congr_le hm hd hc hld hlc (fun c => (h c).symm)⟩
theorem can_nil (s : CSet) (hm : ∀ c, c < s.paints.length → 0 ≤ (s.paint c).most) : s.can [] = true := by
  refine can_iff.2 ⟨[], (plansOf_iff hm List.nodup_nil (by simp)).2 ⟨part_nil [], ⟨fun c hc => hm c hc, fun q _ => rfl, nofun, nofun, nofun⟩, nofun⟩⟩
end CSet
end Go.Proofs.Ytpkadofgmhninaa
namespace Go.Proofs.Ytpkadofgmhninaa
namespace CSet
abbrev Gaps := List Int
def gat (g : Gaps) (a b : Nat) : Int := g.getD (6 * a + b) 0
def endsOf (n : Nat) (f : Nat → Int) (c : Nat) : Int := if c < n then f c else 0
def gap0 (n : Nat) (lo hi : Nat → Int) (k : Nat) : Int := if k / 6 = k % 6 then 0 else endsOf n hi (k / 6) - endsOf n lo (k % 6)
def gapsOf (n : Nat) (lo hi : Nat → Int) : Gaps := (List.range 36).map (gap0 n lo hi)
def hold1 (g : Gaps) (t : Tie) : Gaps := g.set (6 * t.a + t.b) (min (gat g t.a t.b) t.by_)
def hold (g : Gaps) (ts : List Tie) : Gaps := ts.foldl hold1 g
def settle1 (m a : Nat) (g : Gaps) (b : Nat) : Gaps := g.set (6 * a + b) (min (gat g a b) (gat g a m + gat g m b))
def settleA (m : Nat) (g : Gaps) (a : Nat) : Gaps := (List.range 6).foldl (settle1 m a) g
def settleM (g : Gaps) (m : Nat) : Gaps := (List.range 6).foldl (settleA m) g
def settle (g : Gaps) : Gaps := (List.range 6).foldl settleM g
def settled (g : Gaps) : Bool := (List.range 6).all fun a => decide (0 ≤ gat g a a)
def heat0 (s : CSet) : Gaps := gapsOf s.paints.length (fun c => (s.paint c).hl) (fun c => (s.paint c).hh)
def stretch0 (s : CSet) : Gaps := gapsOf s.paints.length (fun c => (s.paint c).sl) (fun c => (s.paint c).sh)
def heatG (s : CSet) (ps : List Rounds) : Gaps := settle (ps.foldl (fun g p => hold g (s.heatTies p)) s.heat0)
def stretchG (s : CSet) (ps : List Rounds) : Gaps := settle (ps.foldl (fun g p => hold g (s.stretchTies p)) s.stretch0)
/-- All plans can have been right in one truth. -/
def truly (s : CSet) (ps : List Rounds) : Bool := ps.all s.lasts && (settled (s.heatG ps) && settled (s.stretchG ps))
def dropAt (ps : List Rounds) (drop : List Nat) : List Rounds := ((List.range ps.length).filter fun i => !drop.contains i).map fun i => ps.getD i []
def canDrop (s : CSet) (ps : List Rounds) (drop : List Nat) : Bool := s.truly (dropAt ps drop)
def wrongOf (s : CSet) (ps : List Rounds) : Option (List Nat) := fewest (s.canDrop ps) (List.range ps.length)

theorem gapsOf_len (n : Nat) (lo hi : Nat → Int) : (gapsOf n lo hi).length = 36 := by simp [gapsOf]
theorem hold1_len (g : Gaps) (t : Tie) : (hold1 g t).length = g.length := by simp [hold1]
theorem hold_len (ts : List Tie) : ∀ g : Gaps, (hold g ts).length = g.length := by
  unfold hold
  induction ts with
  | nil => exact fun _ => rfl
  | cons t ts ih => intro g; rw [List.foldl_cons, ih, hold1_len]
theorem settle1_len (m a : Nat) (g : Gaps) (b : Nat) : (settle1 m a g b).length = g.length := by simp [settle1]
theorem foldl_len {α : Type} (f : Gaps → α → Gaps) (hf : ∀ g x, (f g x).length = g.length) (l : List α) : ∀ g : Gaps, (l.foldl f g).length = g.length := by
  induction l with
  | nil => exact fun _ => rfl
  | cons x l ih => intro g; rw [List.foldl_cons, ih, hf]
theorem settleA_len (m : Nat) (g : Gaps) (a : Nat) : (settleA m g a).length = g.length := foldl_len _ (settle1_len m a) _ g
theorem settleM_len (g : Gaps) (m : Nat) : (settleM g m).length = g.length := foldl_len _ (settleA_len m) _ g
theorem settle_len (g : Gaps) : (settle g).length = g.length := foldl_len _ settleM_len _ g
theorem gat_set {g : Gaps} (hg : g.length = 36) {a b : Nat} (ha : a < 6) (hb : b < 6) (v : Int) {x y : Nat} (hx : x < 6) (hy : y < 6) : gat (g.set (6 * a + b) v) x y = if x = a ∧ y = b then v else gat g x y := by
  unfold gat
  rw [List.getD_eq_getElem?_getD, List.getElem?_set]
  by_cases e : x = a ∧ y = b
  · obtain ⟨rfl, rfl⟩ := e
    rw [if_pos rfl, if_pos (by omega), if_pos ⟨rfl, rfl⟩]; rfl
  · rw [if_neg (by omega), if_neg e, List.getD_eq_getElem?_getD]
theorem gat_gapsOf {n : Nat} {lo hi : Nat → Int} {a b : Nat} (ha : a < 6) (hb : b < 6) : gat (gapsOf n lo hi) a b = if a = b then 0 else endsOf n hi a - endsOf n lo b := by
  unfold gat gapsOf
  rw [List.getD_eq_getElem?_getD, List.getElem?_map, List.getElem?_range (by omega)]
  simp only [Option.map_some, Option.getD_some, gap0]
  rw [show (6 * a + b) / 6 = a by omega, show (6 * a + b) % 6 = b by omega]

/-- The first k of the gaps at the start. -/
def gapsTo (n : Nat) (lo hi : Nat → Int) (k : Nat) : Gaps := (List.range 36).map fun j => if j < k then gap0 n lo hi j else 0
theorem gapsTo_len (n : Nat) (lo hi : Nat → Int) (k : Nat) : (gapsTo n lo hi k).length = 36 := by simp [gapsTo]
theorem gapsTo_set (n : Nat) (lo hi : Nat → Int) (k : Nat) : (gapsTo n lo hi k).set k (gap0 n lo hi k) = gapsTo n lo hi (k + 1) := by
  apply List.ext_getElem?
  intro j
  rw [List.getElem?_set]
  unfold gapsTo
  by_cases e : k = j
  · subst e
    rw [if_pos rfl]
    by_cases h : k < 36
    · simp [h]
    · simp [h]
  · rw [if_neg e, List.getElem?_map, List.getElem?_map]
    by_cases h : j < 36
    · rw [List.getElem?_range h]
      simp only [Option.map_some]
      by_cases h2 : j < k
      · rw [if_pos h2, if_pos (by omega)]
      · rw [if_neg h2, if_neg (by omega)]
    · rw [List.getElem?_eq_none (by simp; omega)]; rfl
theorem gapsTo_same (n : Nat) (lo hi : Nat → Int) (a : Nat) (ha : a < 6) : gapsTo n lo hi (6 * a + a + 1) = gapsTo n lo hi (6 * a + a) := by
  unfold gapsTo
  apply List.map_congr_left
  intro j hj
  by_cases e : j = 6 * a + a
  · subst e
    rw [if_pos (by omega), if_neg (by omega)]
    unfold gap0
    rw [if_pos (by omega)]
  · by_cases h : j < 6 * a + a
    · rw [if_pos (by omega), if_pos h]
    · rw [if_neg (by omega), if_neg h]
theorem gapsTo_all (n : Nat) (lo hi : Nat → Int) : gapsTo n lo hi 36 = gapsOf n lo hi := by
  unfold gapsTo gapsOf
  apply List.map_congr_left
  intro j hj
  rw [if_pos (by simpa using hj)]

/-- All gaps lie between two bounds. -/
def Within (lo hi : Int) (g : Gaps) : Prop := ∀ a b, a < 6 → b < 6 → lo ≤ gat g a b ∧ gat g a b ≤ hi
theorem Within.hold1 {lo hi : Int} {g : Gaps} (h : Within lo hi g) (hg : g.length = 36) {t : Tie} (ha : t.a < 6) (hb : t.b < 6) (ht : lo ≤ t.by_) : Within lo hi (hold1 g t) := by
  intro x y hx hy
  unfold CSet.hold1
  rw [gat_set hg ha hb _ hx hy]
  have h1 := h x y hx hy
  have h2 := h t.a t.b ha hb
  split <;> omega
theorem Within.hold {lo hi : Int} (ts : List Tie) : ∀ {g : Gaps}, Within lo hi g → g.length = 36 → (∀ t, t ∈ ts → t.a < 6 ∧ t.b < 6 ∧ lo ≤ t.by_) → Within lo hi (CSet.hold g ts) := by
  unfold CSet.hold
  induction ts with
  | nil => exact fun h _ _ => h
  | cons t ts ih =>
    intro g h hg ht
    rw [List.foldl_cons]
    have := ht t (by simp)
    exact ih (h.hold1 hg this.1 this.2.1 this.2.2) (by rw [hold1_len]; exact hg) (fun x hx => ht x (by simp [hx]))
theorem within_gapsOf {n : Nat} {lo hi : Nat → Int} {B : Int} (h : ∀ c, c < n → 0 ≤ lo c ∧ lo c ≤ B ∧ 0 ≤ hi c ∧ hi c ≤ B) (hB : 0 ≤ B) : Within (-B) B (gapsOf n lo hi) := by
  intro a b ha hb
  rw [gat_gapsOf ha hb]
  unfold endsOf
  split
  · omega
  · split <;> split
    · have := h a ‹_›; have := h b ‹_›; omega
    · have := h a ‹_›; omega
    · have := h b ‹_›; omega
    · omega

/-- The gaps on the way: by m places, then a rows, then b of a row. -/
def st (g : Gaps) (m a b : Nat) : Gaps := (List.range b).foldl (settle1 m a) ((List.range a).foldl (settleA m) ((List.range m).foldl settleM g))
theorem st_b (g : Gaps) (m a b : Nat) : st g m a (b + 1) = settle1 m a (st g m a b) b := by unfold st; rw [List.range_succ, List.foldl_append]; rfl
theorem st_a (g : Gaps) (m a : Nat) : st g m a 6 = st g m (a + 1) 0 := by
  have e : st g m (a + 1) 0 = settleA m ((List.range a).foldl (settleA m) ((List.range m).foldl settleM g)) a := by
    simp only [st, List.range_zero, List.foldl_nil]
    rw [List.range_succ (n := a), List.foldl_append, List.foldl_cons, List.foldl_nil]
  rw [e]
  simp only [st, settleA]
theorem st_m (g : Gaps) (m : Nat) : st g m 6 0 = st g (m + 1) 0 0 := by
  have e : st g (m + 1) 0 0 = settleM ((List.range m).foldl settleM g) m := by
    simp only [st, List.range_zero, List.foldl_nil]
    rw [List.range_succ (n := m), List.foldl_append, List.foldl_cons, List.foldl_nil]
  rw [e]
  simp only [st, List.range_zero, List.foldl_nil, settleM]
theorem st_len (g : Gaps) (m a b : Nat) : (st g m a b).length = g.length := by
  unfold st
  rw [foldl_len _ (settle1_len m a), foldl_len _ (settleA_len m), foldl_len _ settleM_len]

def lowB (B : Int) (m x y : Nat) : Int := if x ≤ m then (if y ≤ m then -2 * B else -3 * B) else (if y ≤ m then -3 * B else -6 * B)
/-- How low the gaps can be on the way. -/
def Inv (B T : Int) (m a b : Nat) (g : Gaps) : Prop := ∀ x y, x < 6 → y < 6 → gat g x y ≤ T ∧ ((x < a ∨ (x = a ∧ y < b)) → lowB B m x y ≤ gat g x y) ∧ (¬ (x < a ∨ (x = a ∧ y < b)) → -B ≤ gat g x y)
theorem Inv.step {B T : Int} (hB : 0 ≤ B) {m a b : Nat} {g : Gaps} (h : Inv B T m a b g) (hg : g.length = 36) (hm : m < 6) (ha : a < 6) (hb : b < 6) : Inv B T m a (b + 1) (settle1 m a g b) := by
  intro x y hx hy
  unfold settle1
  rw [gat_set hg ha hb _ hx hy]
  have h0 := h x y hx hy
  have h1 := h a b ha hb
  have h2 := h a m ha hm
  have h3 := h m b hm hb
  unfold lowB at *
  by_cases e : x = a ∧ y = b
  · obtain ⟨rfl, rfl⟩ := e
    rw [if_pos ⟨rfl, rfl⟩]
    refine ⟨by omega, fun _ => ?_, fun hn => absurd (.inr ⟨rfl, by omega⟩) hn⟩
    have h1' := h1.2.2 (by omega)
    have k2 : (if y ≤ m then -B else (if x ≤ m then -2 * B else -3 * B)) ≤ gat g x m := by
      split
      · exact h2.2.2 (by omega)
      · have := h2.2.1 (by omega)
        split
        · rw [if_pos ‹_›, if_pos (Nat.le_refl _)] at this; exact this
        · rw [if_neg ‹_›, if_pos (Nat.le_refl _)] at this; exact this
    have k3 : (if x ≤ m then -B else (if y ≤ m then -2 * B else -3 * B)) ≤ gat g m y := by
      split
      · exact h3.2.2 (by omega)
      · have := h3.2.1 (by omega)
        rw [if_pos (Nat.le_refl _)] at this
        exact this
    clear h0 h1 h2 h3 h
    split <;> split at k2 <;> split at k3 <;> (first | omega | (split <;> omega) | skip)
    all_goals (try split at k2) <;> (try split at k3) <;> (try split) <;> omega
  · rw [if_neg e]
    refine ⟨h0.1, fun hp => h0.2.1 (by omega), fun hn => h0.2.2 (by omega)⟩
theorem Inv.row {B T : Int} {m a : Nat} {g : Gaps} (h : Inv B T m a 6 g) : Inv B T m (a + 1) 0 g := fun x y hx hy => by
  have := h x y hx hy
  exact ⟨this.1, fun hp => this.2.1 (by omega), fun hn => this.2.2 (by omega)⟩
theorem Inv.phase {B T : Int} (hB : 0 ≤ B) {m : Nat} {g : Gaps} (h : Inv B T m 6 0 g) : Inv (6 * B) T (m + 1) 0 0 g := fun x y hx hy => by
  have := h x y hx hy
  refine ⟨this.1, fun hp => absurd hp (by omega), fun _ => ?_⟩
  have h1 := this.2.1 (.inl hx)
  unfold lowB at h1
  split at h1 <;> split at h1 <;> omega
theorem inv_b {B T : Int} (hB : 0 ≤ B) {g : Gaps} (hg : g.length = 36) {m a : Nat} (hm : m < 6) (ha : a < 6) (h : Inv B T m a 0 (st g m a 0)) : ∀ b, b ≤ 6 → Inv B T m a b (st g m a b)
  | 0, _ => h
  | b + 1, hb => by rw [st_b]; exact (inv_b hB hg hm ha h b (by omega)).step hB ((st_len g m a b).trans hg) hm ha (by omega)
theorem inv_a {B T : Int} (hB : 0 ≤ B) {g : Gaps} (hg : g.length = 36) {m : Nat} (hm : m < 6) (h : Inv B T m 0 0 (st g m 0 0)) : ∀ a, a ≤ 6 → Inv B T m a 0 (st g m a 0)
  | 0, _ => h
  | a + 1, ha => by rw [← st_a]; exact (inv_b hB hg hm (by omega) (inv_a hB hg hm h a (by omega)) 6 (by omega)).row
theorem inv_m {B : Int} (hB : 0 ≤ B) {g : Gaps} (hg : g.length = 36) (h : Within (-B) B g) : ∀ m, m ≤ 6 → Inv ((6 : Int) ^ m * B) B m 0 0 (st g m 0 0)
  | 0, _ => fun x y hx hy => ⟨(h x y hx hy).2, fun hp => absurd hp (by omega), fun _ => by rw [Int.pow_zero, Int.one_mul]; exact (h x y hx hy).1⟩
  | m + 1, hm => by
    have h0 : 0 ≤ (6 : Int) ^ m * B := Int.mul_nonneg (by have : (0 : Int) < 6 ^ m := Int.pow_pos (by omega); omega) hB
    rw [← st_m]
    have := (inv_a h0 hg (by omega) (inv_m hB hg h m (by omega)) 6 (by omega)).phase h0
    rw [show (6 : Int) ^ (m + 1) * B = 6 * (6 ^ m * B) by rw [Int.pow_succ, Int.mul_comm (6 ^ m) 6, Int.mul_assoc]]
    exact this
/-- No sum on the way is too great. -/
theorem st_within {B : Int} (hB : 0 ≤ B) {g : Gaps} (hg : g.length = 36) (h : Within (-B) B g) {m a b : Nat} (hm : m < 6) (ha : a < 6) (hb : b ≤ 6) : Within (-46656 * B) B (st g m a b) := by
  intro x y hx hy
  have h0 : 0 ≤ (6 : Int) ^ m * B := Int.mul_nonneg (by have : (0 : Int) < 6 ^ m := Int.pow_pos (by omega); omega) hB
  have h1 := inv_b h0 hg hm ha (inv_a h0 hg hm (inv_m hB hg h m (by omega)) a (by omega)) b hb x y hx hy
  refine ⟨?_, h1.1⟩
  have h2 : -6 * ((6 : Int) ^ m * B) ≤ gat (st g m a b) x y := by
    have h3 := h1.2
    unfold lowB at h3
    generalize (6 : Int) ^ m * B = C at *
    by_cases e : x < a ∨ (x = a ∧ y < b)
    · have h4 := h3.1 e
      split at h4 <;> split at h4 <;> omega
    · have h4 := h3.2 e
      omega
  have h5 : (6 : Int) ^ m * B ≤ 7776 * B := by
    refine Int.mul_le_mul_of_nonneg_right ?_ hB
    have : m = 0 ∨ m = 1 ∨ m = 2 ∨ m = 3 ∨ m = 4 ∨ m = 5 := by omega
    rcases this with rfl | rfl | rfl | rfl | rfl | rfl <;> decide
  omega
theorem st_done (g : Gaps) : st g 6 0 0 = settle g := by simp only [st, List.range_zero, List.foldl_nil, settle]
end CSet
end Go.Proofs.Ytpkadofgmhninaa
