/- The plan with the fewest firings, without one colour, and with greater limits. -/
import Derived.Test.YtpkadofgmhninaaDrop
import Derived.Test.YtpkadofgmhninaaFar
import Derived.Test.YtpkadofgmhninaaPlans
namespace Go.Proofs.Ytpkadofgmhninaa
namespace CSet
theorem Ok.most0 {s : CSet} (h : s.Ok) : ∀ c, c < s.paints.length → 0 ≤ (s.paint c).most := fun c hc => by have := h.paints c hc; omega
theorem range_asc {n : Nat} {l : List Nat} (h : Asc n l) : l.Sublist (List.range n) := by
  obtain ⟨h1, h2⟩ := h
  have e : l = (List.range n).filter (fun c => l.contains c) := by
    refine List.Perm.eq_of_pairwise (le := fun a b => a < b) (fun _ _ _ _ h1 h2 => by omega) h2 ((List.pairwise_lt_range (n := n)).filter _) ?_
    refine (List.perm_ext_iff_of_nodup (h2.imp fun h => Nat.ne_of_lt h) (List.nodup_range.sublist List.filter_sublist)).2 fun a => ?_
    simp only [List.mem_filter, List.mem_range, List.contains_eq_mem, decide_eq_true_eq]
    exact ⟨fun h => ⟨h1 a h, h⟩, fun h => h.2⟩
  rw [e]; exact List.filter_sublist
theorem asc_of_sub {n : Nat} {l : List Nat} (h : l.Sublist (List.range n)) : Asc n l := ⟨fun _ hc => List.mem_range.1 (h.subset hc), (List.pairwise_lt_range (n := n)).sublist h⟩
/-- Colours of a nodup list below n: as many as n are all. -/
theorem all_in {n : Nat} {l : List Nat} (hl : ∀ c, c ∈ l → c < n) (hn : l.Nodup) (hlen : l.length = n) : ∀ c, c < n → c ∈ l := by
  intro c hc
  by_cases e : c ∈ l
  · exact e
  · exfalso
    have h2 : (c :: l).Nodup := List.nodup_cons.2 ⟨e, hn⟩
    have h3 : (c :: l).length ≤ (List.range n).length := List.Nodup.length_le_of_subset h2 (fun x hx => by
      rcases List.mem_cons.1 hx with rfl | hx
      · exact List.mem_range.2 hc
      · exact List.mem_range.2 (hl x hx))
    simp at h3; omega
/-- How many colours the rounds have. -/
def manyOf (p : Rounds) : Nat := p.flatten.length
structure Whole (n : Nat) (p : Rounds) : Prop where
  some_ : ∀ r, r ∈ p → r ≠ []
  asc : ∀ r, r ∈ p → Asc n r
  once : p.flatten.Nodup
theorem Whole.part {n : Nat} {p : Rounds} (h : Whole n p) : Part (List.range n) p := ⟨h.some_, fun r hr => range_asc (h.asc r hr), h.once⟩
theorem part_whole {n : Nat} {p : Rounds} {cs : List Nat} (hcs : cs.Sublist (List.range n)) (h : Part cs p) : Whole n p := ⟨h.some_, fun r hr => asc_of_sub ((h.sub r hr).trans hcs), h.once⟩
theorem Whole.lt {n : Nat} {p : Rounds} (h : Whole n p) {c : Nat} (hc : c ∈ p.flatten) : c < n := by
  obtain ⟨r, hr, hc⟩ := List.mem_flatten.1 hc
  exact (h.asc r hr).1 c hc
/-- The plan of all colours. -/
theorem best_some {s : CSet} (hs : s.Ok) {q : Rounds} (h : s.planOf (List.range s.paints.length) = some q) :
    Whole s.paints.length q ∧ s.surely q = true ∧ ∀ c, c < s.paints.length → c ∈ q.flatten := by
  have h1 := (planOf_some h).1
  have h2 := (plansOf_iff hs.most0 List.nodup_range (by rw [List.length_range]; exact hs.n5)).1 h1
  exact ⟨part_whole (List.Sublist.refl _) h2.1, surely_iff.2 h2.2.1, fun c hc => h2.2.2 c (List.mem_range.2 hc)⟩
/-- No plan of all colours has fewer firings. -/
theorem best_least {s : CSet} (hs : s.Ok) {p : Rounds} (hp : Whole s.paints.length p) (hsu : s.surely p = true) (hm : manyOf p = s.paints.length) :
    ∃ q, s.planOf (List.range s.paints.length) = some q ∧ (s.fire q).2 ≤ (s.fire p).2 := by
  have hmem : p ∈ s.plansOf (List.range s.paints.length) := (plansOf_iff hs.most0 List.nodup_range (by rw [List.length_range]; exact hs.n5)).2 ⟨hp.part, surely_iff.1 hsu, fun c hc => all_in (fun _ hd => hp.lt hd) hp.once hm c (List.mem_range.1 hc)⟩
  cases e : s.planOf (List.range s.paints.length) with
  | none => rw [planOf_none] at e; rw [can_iff.2 ⟨p, hmem⟩] at e; cases e
  | some q => exact ⟨q, rfl, (planOf_some e).2 p hmem⟩

/-- With fewer colours in its rounds a plan has no more firings. -/
theorem fire_sub (s : CSet) (g : List Nat → List Nat) (hg : ∀ r c, c ∈ g r → c ∈ r) : ∀ p : Rounds, (s.fire (p.map g)).2 ≤ (s.fire p).2 ∧ ∀ c, (s.fire (p.map g)).1 c ≤ (s.fire p).1 c
  | [] => ⟨Int.le_refl _, fun _ => Int.le_refl _⟩
  | r :: p => by
    obtain ⟨h1, h2⟩ := fire_sub s g hg p
    have h3 := most_mono s (hg r)
    have h4 := fun c => fire_in s p c
    have h5 := most_ge s r
    have h6 := fun c => fire_in s (p.map g) c
    have h7 := most_ge s (g r)
    rw [List.map_cons]
    unfold fire
    refine ⟨?_, fun c => ?_⟩
    · show (s.fire (p.map g)).2 + s.most (g r) ≤ (s.fire p).2 + s.most r
      omega
    · show (if (g r).contains c = true then (s.fire (p.map g)).2 + s.most (g r) else (s.fire (p.map g)).1 c) ≤ if r.contains c = true then (s.fire p).2 + s.most r else (s.fire p).1 c
      have k1 := h4 c
      have k2 := h2 c
      have k3 := h6 c
      by_cases e : c ∈ g r
      · rw [if_pos (by simpa using e), if_pos (by simpa using hg r c e)]; omega
      · rw [if_neg (by simpa using e)]
        by_cases e2 : c ∈ r
        · rw [if_pos (by simpa using e2)]; omega
        · rw [if_neg (by simpa using e2)]; exact k2
theorem roundOf_of {p : Rounds} (hn : p.flatten.Nodup) {c i : Nat} (hi : i < p.length) (hc : c ∈ p.getD i []) : roundOf p c = some i :=
  roundOf_iff.2 ⟨hi, hc, fun j hj hcj => by have := uniq hn hi (show j < p.length by omega) hc hcj; omega⟩
theorem Sure.sub {s : CSet} {p : Rounds} (h : s.Sure p) (hn : p.flatten.Nodup) (g : List Nat → List Nat) (hg : ∀ r c, c ∈ g r → c ∈ r) : s.Sure (p.map g) := by
  have gd : ∀ {i}, i < (p.map g).length → (p.map g).getD i [] = g (p.getD i []) := fun hi => getD_mapg g (by rw [List.length_map] at hi; exact hi)
  have hl : (p.map g).length = p.length := List.length_map ..
  refine ⟨fun c hc => Int.le_trans ((fire_sub s g hg p).2 c) (h.fires c hc), fun q hq => ?_, fun i hi c hc o ho hne => ?_, fun i j hj hi c hc o ho => ?_, fun i hi u hu o ho => ?_⟩
  · rw [Bool.eq_false_iff]
    intro he
    obtain ⟨e, r, h1, h2, h3⟩ := eaten_iff.1 he
    obtain ⟨a1, a2, -⟩ := roundOf_iff.1 h1
    obtain ⟨b1, b2, -⟩ := roundOf_iff.1 h2
    rw [gd a1] at a2
    rw [gd b1] at b2
    rw [hl] at a1 b1
    have := h.eats q hq
    rw [eaten_iff.2 ⟨e, r, roundOf_of hn a1 (hg _ _ a2), roundOf_of hn b1 (hg _ _ b2), h3⟩] at this
    cases this
  · rw [gd hi] at hc ho
    exact h.near i (by omega) c (hg _ _ hc) o (hg _ _ ho) hne
  · rw [gd hi] at hc
    rw [gd (by omega)] at ho
    exact h.cool i j hj (by omega) c (hg _ _ hc) o (hg _ _ ho)
  · rw [gd (by omega)] at hu
    rw [gd hi] at ho
    exact h.give i (by omega) u (hg _ _ hu) o (hg _ _ ho)
/-- The colours but one. -/
def butC (n c : Nat) : List Nat := (List.range n).filter fun x => x != c
theorem butC_asc (n c : Nat) : Asc n (butC n c) := asc_of_sub List.filter_sublist
theorem butC_two {n c : Nat} (h : c < n) : butC n c = (List.range n).take c ++ (List.range n).drop (c + 1) := by
  have e : List.range n = (List.range n).take c ++ (c :: (List.range n).drop (c + 1)) := by
    have : (List.range n).drop c = c :: (List.range n).drop (c + 1) := by
      rw [List.drop_eq_getElem_cons (by rw [List.length_range]; exact h), List.getElem_range]
    rw [← this, List.take_append_drop]
  unfold butC
  conv => lhs; rw [e]
  rw [List.filter_append, List.filter_cons, if_neg (by simp)]
  congr 1
  · rw [List.take_range, Nat.min_eq_left (by omega), List.filter_eq_self]
    intro x hx
    have := List.mem_range.1 hx
    rw [bne_iff_ne]; omega
  · rw [List.filter_eq_self]
    intro x hx
    obtain ⟨i, hi, rfl⟩ := List.mem_iff_getElem.1 hx
    rw [List.getElem_drop, List.getElem_range, bne_iff_ne]; omega
theorem off_eq {p : Rounds} {c : Nat} (h : offE p c p.length = false) : offP p c p.length = p.map fun r => r.filter fun x => x != c := by
  unfold offE at h
  unfold offP
  rw [List.take_length] at h ⊢
  rw [List.any_eq_false] at h
  have e : ∀ r : List Nat, offC r c r.length = r.filter fun x => x != c := fun r => by unfold offC; rw [List.take_length]
  rw [show (fun r : List Nat => offC r c r.length) = fun r => r.filter fun x => x != c from funext e, List.filter_eq_self]
  intro r hr
  obtain ⟨q, hq, rfl⟩ := List.mem_map.1 hr
  have := h q hq
  rw [e, Bool.not_eq_true] at this
  rw [this]; rfl
theorem flat_filter (p : Rounds) (f : Nat → Bool) : (p.map fun r => r.filter f).flatten = p.flatten.filter f := by
  induction p with
  | nil => rfl
  | cons r p ih => rw [List.map_cons, List.flatten_cons, List.flatten_cons, List.filter_append, ih]
/-- Without one colour, if no round is gone: what is left surely is right, and the plan of the others has no more firings. -/
theorem best_less {s : CSet} (hs : s.Ok) {q : Rounds} (h : s.planOf (List.range s.paints.length) = some q) {c : Nat} (_hc : c < s.paints.length) (he : offE q c q.length = false) :
    Whole s.paints.length (offP q c q.length) ∧ s.surely (offP q c q.length) = true ∧ ∃ few, s.planOf (butC s.paints.length c) = some few ∧ Whole s.paints.length few ∧ (s.fire few).2 ≤ (s.fire q).2 := by
  obtain ⟨h1, h2, h3⟩ := best_some hs h
  have hne := he
  unfold offE at hne
  rw [List.take_length, List.any_eq_false] at hne
  have e := off_eq he
  have hg : ∀ (r : List Nat) x, x ∈ r.filter (fun x => x != c) → x ∈ r := fun r x hx => (List.mem_filter.1 hx).1
  have hsu : s.Sure (q.map fun r => r.filter fun x => x != c) := (surely_iff.1 h2).sub h1.once _ hg
  have hsome : ∀ r, r ∈ (q.map fun r => r.filter fun x => x != c) → r ≠ [] := fun r hr => by
    obtain ⟨t, ht, rfl⟩ := List.mem_map.1 hr
    have := hne t ht
    unfold offC at this
    rw [List.take_length, List.isEmpty_iff] at this
    exact this
  have hnd : (q.map fun r => r.filter fun x => x != c).flatten.Nodup := by rw [flat_filter]; exact h1.once.sublist List.filter_sublist
  have hpart : Part (butC s.paints.length c) (q.map fun r => r.filter fun x => x != c) := ⟨hsome, fun r hr => by
    obtain ⟨t, ht, rfl⟩ := List.mem_map.1 hr
    exact (range_asc (h1.asc t ht)).filter _, hnd⟩
  have hlen : (butC s.paints.length c).length ≤ 5 := Nat.le_trans (List.length_filter_le _ _) (by rw [List.length_range]; exact hs.n5)
  have hmem : (q.map fun r => r.filter fun x => x != c) ∈ s.plansOf (butC s.paints.length c) := (plansOf_iff hs.most0 (List.nodup_range.sublist List.filter_sublist) hlen).2 ⟨hpart, hsu, fun x hx => by
    obtain ⟨k1, k2⟩ := List.mem_filter.1 hx
    rw [flat_filter]
    exact List.mem_filter.2 ⟨h3 x (List.mem_range.1 k1), k2⟩⟩
  have hf := (fire_sub s (fun r => r.filter fun x => x != c) hg q).1
  rw [e]
  refine ⟨part_whole List.filter_sublist hpart, surely_iff.2 hsu, ?_⟩
  cases ef : s.planOf (butC s.paints.length c) with
  | none => rw [planOf_none] at ef; rw [can_iff.2 ⟨_, hmem⟩] at ef; cases ef
  | some few =>
    obtain ⟨k1, k2⟩ := planOf_some ef
    have k3 := (plansOf_iff hs.most0 (List.nodup_range.sublist List.filter_sublist) hlen).1 k1
    exact ⟨few, rfl, part_whole List.filter_sublist k3.1, Int.le_trans (k2 _ hmem) hf⟩
/-- The set with other limits. -/
def wider (s : CSet) (near give : Int) : CSet := { s with near := near, give := give }
theorem wider_fire (s : CSet) (a b : Int) : ∀ p : Rounds, (s.wider a b).fire p = s.fire p
  | [] => rfl
  | r :: p => by unfold fire; rw [wider_fire s a b p]; rfl
theorem wider_ok {s : CSet} (hs : s.Ok) {a b : Int} (ha : 0 ≤ a ∧ a ≤ 100) (hb : 0 ≤ b ∧ b ≤ 100) : (s.wider a b).Ok := ⟨hs.n1, hs.n5, ha.1, ha.2, hb.1, hb.2, hs.eats, hs.paints, hs.pairs⟩
/-- With greater limits the plan has no more firings. -/
theorem best_wide {s : CSet} (hs : s.Ok) {q : Rounds} (h : s.planOf (List.range s.paints.length) = some q) {a b : Int} (ha : s.near ≤ a ∧ a ≤ 100) (hb : s.give ≤ b ∧ b ≤ 100) :
    ∃ t, (s.wider a b).planOf (List.range s.paints.length) = some t ∧ Whole s.paints.length t ∧ (s.fire t).2 ≤ (s.fire q).2 := by
  have hs' : (s.wider a b).Ok := wider_ok hs ⟨by have := hs.near0; omega, ha.2⟩ ⟨by have := hs.give0; omega, hb.2⟩
  obtain ⟨h1, h2, h3⟩ := best_some hs h
  have h4 := surely_iff.1 h2
  have hsu : (s.wider a b).Sure q := ⟨fun c hc => by rw [wider_fire]; exact h4.fires c hc, h4.eats, fun i hi c hc o ho hne => Int.le_trans (h4.near i hi c hc o ho hne) ha.1, h4.cool, fun i hi u hu o ho => ⟨Int.le_trans (h4.give i hi u hu o ho).1 hb.1, Int.le_trans (h4.give i hi u hu o ho).2 hb.1⟩⟩
  have hmem : q ∈ (s.wider a b).plansOf (List.range (s.wider a b).paints.length) := (plansOf_iff hs'.most0 List.nodup_range (by rw [List.length_range]; exact hs'.n5)).2 ⟨h1.part, hsu, fun c hc => h3 c (List.mem_range.1 hc)⟩
  show ∃ t, (s.wider a b).planOf (List.range (s.wider a b).paints.length) = some t ∧ _
  cases ef : (s.wider a b).planOf (List.range (s.wider a b).paints.length) with
  | none => rw [planOf_none] at ef; rw [can_iff.2 ⟨_, hmem⟩] at ef; cases ef
  | some t =>
    have k2 := (planOf_some ef).2 q hmem
    rw [wider_fire, wider_fire] at k2
    exact ⟨t, rfl, (best_some hs' ef).1, k2⟩
theorem Whole.sane {n : Nat} {p : Rounds} (h : Whole n p) : sane n p = true := by
  unfold Ytpkadofgmhninaa.sane
  rw [List.all_eq_true]
  intro r hr
  rw [List.all_eq_true]
  intro c hc
  exact decide_eq_true ((h.asc r hr).1 c hc)
theorem Whole.len {n : Nat} {p : Rounds} (h : Whole n p) : p.length ≤ n := by
  have h1 : p.flatten.length ≤ (List.range n).length := List.Nodup.length_le_of_subset h.once (fun c hc => List.mem_range.2 (h.lt hc))
  rw [List.length_range] at h1
  have : ∀ p : Rounds, (∀ r, r ∈ p → r ≠ []) → p.length ≤ p.flatten.length := by
    intro p
    induction p with
    | nil => intro _; simp
    | cons r p ih =>
      intro hp
      have := ih (fun r hr => hp r (by simp [hr]))
      have : 0 < r.length := List.length_pos_iff.2 (hp r (by simp))
      simp at *; omega
  exact Nat.le_trans (this p h.some_) h1
end CSet
end Go.Proofs.Ytpkadofgmhninaa
