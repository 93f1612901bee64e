/- What plans tell that came out well is all that can be told. -/
import Derived.Test.YtpkadofgmhninaaFar
import Derived.Test.YtpkadofgmhninaaPlans
namespace Go.Proofs.Ytpkadofgmhninaa
namespace CSet
/-- Gaps never grow. -/
def Le (g h : Gaps) : Prop := ∀ a b, a < 6 → b < 6 → gat g a b ≤ gat h a b
theorem Le.refl (g : Gaps) : Le g g := fun _ _ _ _ => Int.le_refl _
theorem Le.trans {g h k : Gaps} (p : Le g h) (q : Le h k) : Le g k := fun a b ha hb => Int.le_trans (p a b ha hb) (q a b ha hb)
theorem settle1_le {g : Gaps} (hg : g.length = 36) {m a b : Nat} (ha : a < 6) (hb : b < 6) : Le (settle1 m a g b) g := by
  intro x y hx hy
  unfold settle1
  rw [gat_set hg ha hb _ hx hy]
  split
  · rename_i e; obtain ⟨rfl, rfl⟩ := e; omega
  · exact Int.le_refl _
theorem fold_le {α : Type} (f : Gaps → α → Gaps) (P : α → Prop) (hf : ∀ g x, P x → g.length = 36 → Le (f g x) g) (hl : ∀ g x, (f g x).length = g.length) (l : List α) (hP : ∀ x, x ∈ l → P x) : ∀ g : Gaps, g.length = 36 → Le (l.foldl f g) g := by
  induction l with
  | nil => exact fun g _ => Le.refl g
  | cons x l ih =>
    intro g hg
    rw [List.foldl_cons]
    exact (ih (fun y hy => hP y (by simp [hy])) _ (by rw [hl]; exact hg)).trans (hf g x (hP x (by simp)) hg)
theorem settleA_le {g : Gaps} (hg : g.length = 36) {m a : Nat} (ha : a < 6) : Le (settleA m g a) g :=
  fold_le _ (· < 6) (fun _ _ hx hg => settle1_le hg ha hx) (settle1_len m a) _ (fun _ hx => List.mem_range.1 hx) g hg
theorem settleM_le {g : Gaps} (hg : g.length = 36) {m : Nat} : Le (settleM g m) g :=
  fold_le _ (· < 6) (fun _ _ hx hg => settleA_le hg hx) (settleA_len m) _ (fun _ hx => List.mem_range.1 hx) g hg
theorem settle_le {g : Gaps} (hg : g.length = 36) : Le (settle g) g :=
  fold_le _ (fun _ => True) (fun _ _ _ hg => settleM_le hg) settleM_len _ (fun _ _ => trivial) g hg
/-- One row by one place, if nothing is below nought: as if all were reckoned at once. -/
theorem rowTo {g : Gaps} (hg : g.length = 36) {m a : Nat} (hm : m < 6) (ha : a < 6) (hd : 0 ≤ gat g m m) : ∀ k, k ≤ 6 → ((List.range k).foldl (settle1 m a) g).length = 36 ∧ ∀ x y, x < 6 → y < 6 →
    gat ((List.range k).foldl (settle1 m a) g) x y = if x = a ∧ y < k then min (gat g a y) (gat g a m + gat g m y) else gat g x y := by
  intro k
  induction k with
  | zero => intro _; exact ⟨hg, fun x y hx hy => by rw [if_neg (by omega)]; rfl⟩
  | succ k ih =>
    intro hk
    obtain ⟨h1, h2⟩ := ih (by omega)
    rw [List.range_succ, List.foldl_append, List.foldl_cons, List.foldl_nil]
    generalize (List.range k).foldl (settle1 m a) g = G at *
    refine ⟨by rw [settle1_len]; exact h1, fun x y hx hy => ?_⟩
    unfold settle1
    rw [gat_set h1 ha (by omega) _ hx hy]
    by_cases e : x = a ∧ y = k
    · obtain ⟨rfl, rfl⟩ := e
      rw [if_pos ⟨rfl, rfl⟩, if_pos ⟨rfl, by omega⟩, h2 x y hx hy, if_neg (by omega)]
      rw [h2 x m hx hm, h2 m y hm hy]
      by_cases exm : x = m
      · subst exm
        rw [if_neg (show ¬ (x = x ∧ y < y) by omega)]
        by_cases hmk : x < y
        · rw [if_pos ⟨rfl, hmk⟩]; omega
        · rw [if_neg (by omega)]
      · rw [if_neg (show ¬ (m = x ∧ y < y) by omega)]
        by_cases hmk : m < y
        · rw [if_pos ⟨rfl, hmk⟩]; omega
        · rw [if_neg (by omega)]
    · rw [if_neg e, h2 x y hx hy]
      by_cases e2 : x = a ∧ y < k
      · rw [if_pos e2, if_pos (by omega)]
      · rw [if_neg e2, if_neg (by omega)]
theorem gat_settleA {g : Gaps} (hg : g.length = 36) {m a : Nat} (hm : m < 6) (ha : a < 6) (hd : 0 ≤ gat g m m) {x y : Nat} (hx : x < 6) (hy : y < 6) :
    gat (settleA m g a) x y = if x = a then min (gat g a y) (gat g a m + gat g m y) else gat g x y := by
  have := (rowTo hg hm ha hd 6 (Nat.le_refl _)).2 x y hx hy
  unfold settleA
  rw [this]
  by_cases e : x = a
  · rw [if_pos ⟨e, hy⟩, if_pos e]
  · rw [if_neg (by omega), if_neg e]
theorem allTo {g : Gaps} (hg : g.length = 36) {m : Nat} (hm : m < 6) (hd : 0 ≤ gat g m m) : ∀ k, k ≤ 6 → ((List.range k).foldl (settleA m) g).length = 36 ∧ ∀ x y, x < 6 → y < 6 →
    gat ((List.range k).foldl (settleA m) g) x y = if x < k then min (gat g x y) (gat g x m + gat g m y) else gat g x y := by
  intro k
  induction k with
  | zero => intro _; exact ⟨hg, fun x y hx hy => by rw [if_neg (by omega)]; rfl⟩
  | succ k ih =>
    intro hk
    obtain ⟨h1, h2⟩ := ih (by omega)
    rw [List.range_succ, List.foldl_append, List.foldl_cons, List.foldl_nil]
    generalize (List.range k).foldl (settleA m) g = G at *
    refine ⟨by rw [settleA_len]; exact h1, fun x y hx hy => ?_⟩
    have hdd : 0 ≤ gat G m m := by rw [h2 m m hm hm]; split <;> omega
    rw [gat_settleA h1 hm (by omega) hdd hx hy]
    by_cases e : x = k
    · subst e
      rw [if_pos rfl, if_pos (by omega), h2 x y hx hy, h2 x m hx hm, if_neg (by omega), if_neg (by omega), h2 m y hm hy]
      split <;> omega
    · rw [if_neg e, h2 x y hx hy]
      by_cases e2 : x < k
      · rw [if_pos e2, if_pos (by omega)]
      · rw [if_neg e2, if_neg (by omega)]
theorem gat_settleM {g : Gaps} (hg : g.length = 36) {m : Nat} (hm : m < 6) (hd : 0 ≤ gat g m m) {x y : Nat} (hx : x < 6) (hy : y < 6) :
    gat (settleM g m) x y = min (gat g x y) (gat g x m + gat g m y) := by
  have := (allTo hg hm hd 6 (Nat.le_refl _)).2 x y hx hy
  unfold settleM
  rw [this, if_pos hx]
/-- By the first places no way is shorter. -/
def Short (g : Gaps) (k : Nat) : Prop := ∀ a b c, a < 6 → b < k → c < 6 → gat g a c ≤ gat g a b + gat g b c
theorem short_step {g : Gaps} (hg : g.length = 36) {m : Nat} (hm : m < 6) (hs : Short g m) (hd : 0 ≤ gat g m m) : Short (settleM g m) (m + 1) := by
  intro a b c ha hb hc
  rw [gat_settleM hg hm hd ha hc, gat_settleM hg hm hd ha (by omega), gat_settleM hg hm hd (by omega) hc]
  by_cases e : b = m
  · subst e; omega
  · have h1 := hs a b c ha (by omega) hc
    have h2 := hs a b m ha (by omega) hm
    have h3 := hs m b c hm (by omega) hc
    have h4 := hs m b m hm (by omega) hm
    omega
theorem settle_short {g : Gaps} (hg : g.length = 36) (h : settled (settle g) = true) : Short (settle g) 6 := by
  have hd : ∀ a, a < 6 → 0 ≤ gat (settle g) a a := fun a ha => by
    unfold settled at h
    rw [List.all_eq_true] at h
    exact of_decide_eq_true (h a (List.mem_range.2 ha))
  have key : ∀ k, k ≤ 6 → ((List.range k).foldl settleM g).length = 36 ∧ Le (settle g) ((List.range k).foldl settleM g) ∧ Short ((List.range k).foldl settleM g) k := by
    intro k
    induction k with
    | zero =>
      intro _
      exact ⟨hg, settle_le hg, fun a b c _ hb _ => by omega⟩
    | succ k ih =>
      intro hk
      obtain ⟨h1, h2, h3⟩ := ih (by omega)
      have hle : Le (settle g) ((List.range (k + 1)).foldl settleM g) := by
        have hsp : settle g = ((List.range 6).drop (k + 1)).foldl settleM ((List.range (k + 1)).foldl settleM g) := by
          rw [← List.foldl_append, show List.range (k + 1) = (List.range 6).take (k + 1) by rw [List.take_range, Nat.min_eq_left hk], List.take_append_drop]; rfl
        rw [hsp]
        refine fold_le _ (fun _ => True) (fun _ _ _ hg => settleM_le hg) settleM_len _ (fun _ _ => trivial) _ ?_
        rw [foldl_len _ settleM_len]; exact hg
      have hdk : 0 ≤ gat ((List.range k).foldl settleM g) k k := Int.le_trans (hd k (by omega)) (h2 k k (by omega) (by omega))
      refine ⟨by rw [foldl_len _ settleM_len]; exact hg, hle, ?_⟩
      rw [List.range_succ, List.foldl_append, List.foldl_cons, List.foldl_nil]
      exact short_step h1 (by omega) h3 hdk
  exact (key 6 (Nat.le_refl _)).2.2

theorem hold1_le {g : Gaps} (hg : g.length = 36) {t : Tie} (ha : t.a < 6) (hb : t.b < 6) : Le (hold1 g t) g := by
  intro x y hx hy
  unfold hold1
  rw [gat_set hg ha hb _ hx hy]
  split
  · rename_i e; obtain ⟨rfl, rfl⟩ := e; omega
  · exact Int.le_refl _
theorem hold1_tie {g : Gaps} (hg : g.length = 36) {t : Tie} (ha : t.a < 6) (hb : t.b < 6) : gat (hold1 g t) t.a t.b ≤ t.by_ := by
  unfold hold1
  rw [gat_set hg ha hb _ ha hb, if_pos ⟨rfl, rfl⟩]; omega
theorem hold_tie (ts : List Tie) : ∀ g : Gaps, g.length = 36 → (∀ t, t ∈ ts → t.a < 6 ∧ t.b < 6) → Le (hold g ts) g ∧ ∀ t, t ∈ ts → gat (hold g ts) t.a t.b ≤ t.by_ := by
  induction ts with
  | nil => exact fun g _ _ => ⟨Le.refl g, nofun⟩
  | cons t ts ih =>
    intro g hg ht
    obtain ⟨h1, h2⟩ := ht t (by simp)
    obtain ⟨k1, k2⟩ := ih (hold1 g t) (by rw [hold1_len]; exact hg) (fun u hu => ht u (by simp [hu]))
    refine ⟨k1.trans (hold1_le hg h1 h2), fun u hu => ?_⟩
    rcases List.mem_cons.1 hu with rfl | hu
    · exact Int.le_trans (k1 _ _ h1 h2) (hold1_tie hg h1 h2)
    · exact k2 u hu
theorem plans_tie (T : Rounds → List Tie) (ps : List Rounds) (hT : ∀ p, p ∈ ps → ∀ t, t ∈ T p → t.a < 6 ∧ t.b < 6) : ∀ g : Gaps, g.length = 36 →
    (ps.foldl (fun g p => hold g (T p)) g).length = 36 ∧ Le (ps.foldl (fun g p => hold g (T p)) g) g ∧ ∀ p, p ∈ ps → ∀ t, t ∈ T p → gat (ps.foldl (fun g p => hold g (T p)) g) t.a t.b ≤ t.by_ := by
  induction ps with
  | nil => exact fun g hg => ⟨hg, Le.refl g, nofun⟩
  | cons p ps ih =>
    intro g hg
    obtain ⟨h1, h2⟩ := hold_tie (T p) g hg (hT p (by simp))
    obtain ⟨k0, k1, k2⟩ := ih (fun q hq => hT q (by simp [hq])) (hold g (T p)) (by rw [hold_len]; exact hg)
    refine ⟨k0, k1.trans h1, fun q hq t ht => ?_⟩
    rcases List.mem_cons.1 hq with rfl | hq
    · exact Int.le_trans (k1 _ _ (hT q (by simp) t ht).1 (hT q (by simp) t ht).2) (h2 t ht)
    · exact k2 q hq t ht
theorem settled_at {g : Gaps} (h : settled g = true) {a : Nat} (ha : a < 6) : 0 ≤ gat g a a := by
  unfold settled at h
  rw [List.all_eq_true] at h
  exact of_decide_eq_true (h a (List.mem_range.2 ha))

/-- The gaps that some plans leave of spans. -/
def sysG (n : Nat) (lo hi : Nat → Int) (T : Rounds → List Tie) (ps : List Rounds) : Gaps := settle (ps.foldl (fun g p => hold g (T p)) (gapsOf n lo hi))
/-- Values in their spans that keep all ties. -/
def Fits (n : Nat) (lo hi : Nat → Int) (T : Rounds → List Tie) (ps : List Rounds) (f : Nat → Int) : Prop := (∀ c, c < n → lo c ≤ f c ∧ f c ≤ hi c) ∧ ∀ p, p ∈ ps → ∀ t, t ∈ T p → f t.a - f t.b ≤ t.by_
theorem sys_ends {n : Nat} (hn : n ≤ 5) {lo hi : Nat → Int} {T : Rounds → List Tie} {ps : List Rounds} (hT : ∀ p, p ∈ ps → ∀ t, t ∈ T p → t.a < n ∧ t.b < n) (h : settled (sysG n lo hi T ps) = true) :
    Fits n lo hi T ps (fun c => gat (sysG n lo hi T ps) c 5) ∧ Fits n lo hi T ps (fun c => -gat (sysG n lo hi T ps) 5 c) := by
  have hT6 : ∀ p, p ∈ ps → ∀ t, t ∈ T p → t.a < 6 ∧ t.b < 6 := fun p hp t ht => by have := hT p hp t ht; omega
  obtain ⟨k0, k1, k2⟩ := plans_tie T ps hT6 (gapsOf n lo hi) (gapsOf_len _ _ _)
  unfold sysG at h ⊢
  generalize ps.foldl (fun g p => hold g (T p)) (gapsOf n lo hi) = g at *
  have hs := settle_short k0 h
  have hle := settle_le k0
  have hle0 : Le (settle g) (gapsOf n lo hi) := hle.trans k1
  have h55 : gat (settle g) 5 5 = 0 := by
    have h1 := settled_at h (a := 5) (by omega)
    have h2 := hle0 5 5 (by omega) (by omega)
    rw [gat_gapsOf (by omega) (by omega), if_pos rfl] at h2
    omega
  have hb : ∀ c, c < n → gat (settle g) c 5 ≤ hi c ∧ lo c ≤ -gat (settle g) 5 c ∧ 0 ≤ gat (settle g) c 5 + gat (settle g) 5 c := fun c hc => by
    have h1 := hle0 c 5 (by omega) (by omega)
    have h2 := hle0 5 c (by omega) (by omega)
    have h3 := hs 5 c 5 (by omega) (by omega) (by omega)
    rw [gat_gapsOf (by omega) (by omega), if_neg (by omega)] at h1 h2
    unfold endsOf at h1 h2
    rw [if_pos hc, if_neg (by omega)] at h1
    rw [if_neg (by omega), if_pos hc] at h2
    omega
  refine ⟨⟨fun c hc => by have := hb c hc; show lo c ≤ gat (settle g) c 5 ∧ gat (settle g) c 5 ≤ hi c; omega, fun p hp t ht => ?_⟩, ⟨fun c hc => by have := hb c hc; show lo c ≤ -gat (settle g) 5 c ∧ -gat (settle g) 5 c ≤ hi c; omega, fun p hp t ht => ?_⟩⟩
  · obtain ⟨ha, hb6⟩ := hT6 p hp t ht
    have h1 := hs t.a t.b 5 ha hb6 (by omega)
    have h2 := hle t.a t.b ha hb6
    have h3 := k2 p hp t ht
    show gat (settle g) t.a 5 - gat (settle g) t.b 5 ≤ t.by_
    omega
  · obtain ⟨ha, hb6⟩ := hT6 p hp t ht
    have h1 := hs 5 t.a t.b (by omega) ha hb6
    have h2 := hle t.a t.b ha hb6
    have h3 := k2 p hp t ht
    show -gat (settle g) 5 t.a - -gat (settle g) 5 t.b ≤ t.by_
    omega
theorem sys_in {n : Nat} (hn : n ≤ 5) {lo hi : Nat → Int} {T : Rounds → List Tie} {ps : List Rounds} (hT : ∀ p, p ∈ ps → ∀ t, t ∈ T p → t.a < n ∧ t.b < n) {f : Nat → Int} (h : Fits n lo hi T ps f) :
    settled (sysG n lo hi T ps) = true ∧ ∀ c, c < n → -gat (sysG n lo hi T ps) 5 c ≤ f c ∧ f c ≤ gat (sysG n lo hi T ps) c 5 := by
  obtain ⟨q, hg⟩ := sat_plans hn T ps (fun p hp t ht => ⟨(hT p hp t ht).1, (hT p hp t ht).2, h.2 p hp t ht⟩) (gapsOf n lo hi) (gapsOf_len _ _ _) (sat_gapsOf h.1)
  have hs := q.settle hg
  refine ⟨hs.settled, fun c hc => ?_⟩
  have h1 := hs c 5 (by omega) (by omega)
  have h2 := hs 5 c (by omega) (by omega)
  unfold endsOf at h1 h2
  rw [if_pos hc, if_neg (by omega)] at h1
  rw [if_neg (by omega), if_pos hc] at h2
  unfold sysG
  omega

/-- Plans of a set's colours. -/
structure Of (n : Nat) (p : Rounds) : Prop where
  once : p.flatten.Nodup
  lt : ∀ r, r ∈ p → ∀ c, c ∈ r → c < n
theorem Of.at {n : Nat} {p : Rounds} (h : Of n p) {i c : Nat} (hi : i < p.length) (hc : c ∈ p.getD i []) : c < n := h.lt _ (by rw [List.getD, List.getElem?_eq_getElem hi]; exact List.getElem_mem hi) c hc
theorem heat_lt {s : CSet} {p : Rounds} (h : Of s.paints.length p) : ∀ t, t ∈ s.heatTies p → t.a < s.paints.length ∧ t.b < s.paints.length := fun x hx => by
  obtain ⟨i, c, hi, hc, ⟨o, ho, _, rfl⟩ | ⟨j, o, hj, ho, rfl⟩⟩ := mem_heatTies.1 hx
  · exact ⟨h.at hi hc, h.at hi ho⟩
  · exact ⟨h.at hi hc, h.at (by omega) ho⟩
theorem stretch_lt {s : CSet} {p : Rounds} (h : Of s.paints.length p) : ∀ t, t ∈ s.stretchTies p → t.a < s.paints.length ∧ t.b < s.paints.length := fun x hx => by
  obtain ⟨i, u, o, hi, hu, ho, rfl | rfl⟩ := mem_stretchTies.1 hx
  · exact ⟨h.at hi ho, h.at (by omega) hu⟩
  · exact ⟨h.at (by omega) hu, h.at hi ho⟩

abbrev HFit (s : CSet) (ps : List Rounds) (f : Nat → Int) : Prop := Fits s.paints.length (fun c => (s.paint c).hl) (fun c => (s.paint c).hh) s.heatTies ps f
abbrev SFit (s : CSet) (ps : List Rounds) (f : Nat → Int) : Prop := Fits s.paints.length (fun c => (s.paint c).sl) (fun c => (s.paint c).sh) s.stretchTies ps f
theorem heatG_sys (s : CSet) (ps : List Rounds) : s.heatG ps = sysG s.paints.length (fun c => (s.paint c).hl) (fun c => (s.paint c).hh) s.heatTies ps := rfl
theorem stretchG_sys (s : CSet) (ps : List Rounds) : s.stretchG ps = sysG s.paints.length (fun c => (s.paint c).sl) (fun c => (s.paint c).sh) s.stretchTies ps := rfl
/-- There is a truth just if some heats and stretches fit. -/
theorem truly_fit {s : CSet} (hn : s.paints.length ≤ 5) {ps : List Rounds} (hp : ∀ p, p ∈ ps → Of s.paints.length p) : s.truly ps = true ↔ (∀ p, p ∈ ps → s.lasts p = true) ∧ (∃ f, HFit s ps f) ∧ ∃ t, SFit s ps t := by
  have hH := fun p hpm => heat_lt (hp p hpm)
  have hS := fun p hpm => stretch_lt (hp p hpm)
  unfold truly
  rw [Bool.and_eq_true, Bool.and_eq_true, List.all_eq_true]
  constructor
  · rintro ⟨h1, h2, h3⟩
    exact ⟨h1, ⟨_, (sys_ends hn hH (by rw [← heatG_sys]; exact h2)).1⟩, ⟨_, (sys_ends hn hS (by rw [← stretchG_sys]; exact h3)).1⟩⟩
  · rintro ⟨h1, ⟨f, hf⟩, ⟨t, ht⟩⟩
    exact ⟨h1, by rw [heatG_sys]; exact (sys_in hn hH hf).1, by rw [stretchG_sys]; exact (sys_in hn hS ht).1⟩
theorem truly_parts {s : CSet} {ps : List Rounds} (h : s.truly ps = true) : (∀ p, p ∈ ps → s.lasts p = true) ∧ settled (s.heatG ps) = true ∧ settled (s.stretchG ps) = true := by
  unfold truly at h
  rw [Bool.and_eq_true, Bool.and_eq_true, List.all_eq_true] at h
  exact h
theorem Fits.less {n : Nat} {lo hi : Nat → Int} {T : Rounds → List Tie} {ps qs : List Rounds} {f : Nat → Int} (h : Fits n lo hi T ps f) (hq : ∀ p, p ∈ qs → p ∈ ps) : Fits n lo hi T qs f := ⟨h.1, fun p hp => h.2 p (hq p hp)⟩

/-- What is told lies in the spans. -/
theorem told_span {s : CSet} (hn : s.paints.length ≤ 5) {ps : List Rounds} (hp : ∀ p, p ∈ ps → Of s.paints.length p) (h : s.truly ps = true) {c : Nat} (hc : c < s.paints.length) :
    (s.paint c).hl ≤ -gat (s.heatG ps) 5 c ∧ gat (s.heatG ps) c 5 ≤ (s.paint c).hh ∧ -gat (s.heatG ps) 5 c ≤ gat (s.heatG ps) c 5 ∧ (s.paint c).sl ≤ -gat (s.stretchG ps) 5 c ∧ gat (s.stretchG ps) c 5 ≤ (s.paint c).sh := by
  obtain ⟨-, h2, h3⟩ := truly_parts h
  have hH := fun p hpm => heat_lt (hp p hpm)
  have hS := fun p hpm => stretch_lt (hp p hpm)
  rw [heatG_sys] at h2 ⊢
  rw [stretchG_sys] at h3 ⊢
  have k1 := sys_ends hn hH h2
  have k2 := sys_ends hn hS h3
  have k3 := (sys_in hn hH k1.1).2 c hc
  exact ⟨(k1.2.1 c hc).1, (k1.1.1 c hc).2, k3.1, (k2.2.1 c hc).1, (k2.1.1 c hc).2⟩
/-- True heats and stretches are told. -/
theorem told_true {s : CSet} (hn : s.paints.length ≤ 5) {ps : List Rounds} (hp : ∀ p, p ∈ ps → Of s.paints.length p) {f t : Nat → Int} (hf : HFit s ps f) (ht : SFit s ps t) {c : Nat} (hc : c < s.paints.length) :
    (-gat (s.heatG ps) 5 c ≤ f c ∧ f c ≤ gat (s.heatG ps) c 5) ∧ -gat (s.stretchG ps) 5 c ≤ t c ∧ t c ≤ gat (s.stretchG ps) c 5 :=
  ⟨(sys_in hn (fun p hpm => heat_lt (hp p hpm)) hf).2 c hc, (sys_in hn (fun p hpm => stretch_lt (hp p hpm)) ht).2 c hc⟩
/-- With fewer plans there is a truth still, and no span is narrower. -/
theorem told_less {s : CSet} (hn : s.paints.length ≤ 5) {ps qs : List Rounds} (hp : ∀ p, p ∈ ps → Of s.paints.length p) (hq : ∀ p, p ∈ qs → p ∈ ps) (h : s.truly ps = true) :
    s.truly qs = true ∧ ∀ c, c < s.paints.length → -gat (s.heatG qs) 5 c ≤ -gat (s.heatG ps) 5 c ∧ gat (s.heatG ps) c 5 ≤ gat (s.heatG qs) c 5 ∧ -gat (s.stretchG qs) 5 c ≤ -gat (s.stretchG ps) 5 c ∧ gat (s.stretchG ps) c 5 ≤ gat (s.stretchG qs) c 5 := by
  have hpq := fun p hpm => hp p (hq p hpm)
  have h0 := (truly_fit hn hp).1 h
  obtain ⟨-, h2, h3⟩ := truly_parts h
  have hH := fun p hpm => heat_lt (hp p hpm)
  have hS := fun p hpm => stretch_lt (hp p hpm)
  have k1 := sys_ends hn hH (by rw [← heatG_sys]; exact h2)
  have k2 := sys_ends hn hS (by rw [← stretchG_sys]; exact h3)
  obtain ⟨a1, ⟨f, a2⟩, ⟨t, a3⟩⟩ := h0
  refine ⟨(truly_fit hn hpq).2 ⟨fun p hpm => a1 p (hq p hpm), ⟨f, a2.less hq⟩, ⟨t, a3.less hq⟩⟩, fun c hc => ?_⟩
  have b1 := told_true hn hpq (k1.1.less hq) (k2.1.less hq) hc
  have b2 := told_true hn hpq (k1.2.less hq) (k2.2.less hq) hc
  rw [← heatG_sys] at b1 b2
  rw [← stretchG_sys] at b1 b2
  exact ⟨b2.1.1, b1.1.2, b2.2.1, b1.2.2⟩

/-- The set with one colour whose heat is known. -/
def oneHeat (s : CSet) (c : Nat) (n : Int) : CSet := { s with paints := s.paints.set c { s.paint c with hl := n, hh := n } }
theorem oneHeat_len (s : CSet) (c : Nat) (n : Int) : (s.oneHeat c n).paints.length = s.paints.length := by simp [oneHeat]
theorem oneHeat_paint {s : CSet} {c : Nat} (hc : c < s.paints.length) (n : Int) (d : Nat) : (s.oneHeat c n).paint d = if d = c then { s.paint c with hl := n, hh := n } else s.paint d := by
  unfold oneHeat paint
  simp only [List.getD_eq_getElem?_getD, List.getElem?_set]
  by_cases e : c = d
  · subst e; rw [if_pos rfl, if_pos hc, if_pos rfl]; rfl
  · rw [if_neg e, if_neg (fun h => e h.symm)]
theorem oneHeat_ok {s : CSet} (hs : s.Ok) {c : Nat} (hc : c < s.paints.length) {n : Int} (h0 : 0 ≤ n) (h1 : n ≤ 1000) : (s.oneHeat c n).Ok := by
  refine ⟨by rw [oneHeat_len]; exact hs.n1, by rw [oneHeat_len]; exact hs.n5, hs.near0, hs.near1, hs.give0, hs.give1, hs.eats, fun d hd => ?_, fun i hi => ?_⟩
  · rw [oneHeat_len] at hd
    rw [oneHeat_paint hc]
    have := hs.paints d hd
    split
    · rename_i e; subst e; simp only; omega
    · exact this
  · rw [oneHeat_len]; exact hs.pairs i hi
theorem oneHeat_fire {s : CSet} {c : Nat} (hc : c < s.paints.length) (n : Int) : ∀ p : Rounds, (s.oneHeat c n).fire p = s.fire p := by
  have hm : ∀ r, (s.oneHeat c n).most r = s.most r := fun r => by
    unfold most
    congr 1
    funext m d
    rw [oneHeat_paint hc]
    split
    · rename_i e; subst e; rfl
    · rfl
  intro p
  induction p with
  | nil => rfl
  | cons r p ih => unfold fire; rw [ih, hm]
theorem oneHeat_lasts {s : CSet} {c : Nat} (hc : c < s.paints.length) (n : Int) (p : Rounds) : (s.oneHeat c n).lasts p = s.lasts p := by
  unfold lasts
  rw [oneHeat_len, oneHeat_fire hc]
  congr 1
  congr 1
  funext d
  rw [oneHeat_paint hc]
  split
  · rename_i e; subst e; rfl
  · rfl
theorem oneHeat_fits {s : CSet} {c : Nat} (hc : c < s.paints.length) {n : Int} (h0 : (s.paint c).hl ≤ n) (h1 : n ≤ (s.paint c).hh) (ps : List Rounds) (f : Nat → Int) : HFit (s.oneHeat c n) ps f ↔ HFit s ps f ∧ f c = n := by
  unfold HFit Fits
  rw [oneHeat_len]
  constructor
  · rintro ⟨h2, h3⟩
    have hcc : n ≤ f c ∧ f c ≤ n := by
      have := h2 c hc
      simp only [oneHeat_paint hc, if_pos] at this
      exact this
    refine ⟨⟨fun d hd => ?_, h3⟩, by omega⟩
    have := h2 d hd
    simp only [oneHeat_paint hc] at this
    by_cases e : d = c
    · subst e; show (s.paint d).hl ≤ f d ∧ f d ≤ (s.paint d).hh; omega
    · simp only [if_neg e] at this; exact this
  · rintro ⟨⟨h2, h3⟩, h4⟩
    refine ⟨fun d hd => ?_, h3⟩
    simp only [oneHeat_paint hc]
    by_cases e : d = c
    · subst e; simp only [if_pos]; omega
    · simp only [if_neg e]; exact h2 d hd
theorem oneHeat_sfit {s : CSet} {c : Nat} (hc : c < s.paints.length) (n : Int) (ps : List Rounds) (t : Nat → Int) : SFit (s.oneHeat c n) ps t ↔ SFit s ps t := by
  unfold SFit Fits
  rw [oneHeat_len]
  have e : ∀ d, ((s.oneHeat c n).paint d).sl = (s.paint d).sl ∧ ((s.oneHeat c n).paint d).sh = (s.paint d).sh := fun d => by
    rw [oneHeat_paint hc]
    split
    · rename_i e; subst e; exact ⟨rfl, rfl⟩
    · exact ⟨rfl, rfl⟩
  simp only [(e _).1, (e _).2]
  exact Iff.rfl
/-- There is a truth with a heat just if it is told. -/
theorem told_one {s : CSet} (hs : s.Ok) {ps : List Rounds} (hp : ∀ p, p ∈ ps → Of s.paints.length p) (h : s.truly ps = true) {c : Nat} (hc : c < s.paints.length) {n : Int} (h0 : (s.paint c).hl ≤ n) (h1 : n ≤ (s.paint c).hh) :
    (n = -gat (s.heatG ps) 5 c ∨ n = gat (s.heatG ps) c 5 → (s.oneHeat c n).truly ps = true) ∧ (n < -gat (s.heatG ps) 5 c ∨ gat (s.heatG ps) c 5 < n → (s.oneHeat c n).truly ps = false) := by
  have hn := hs.n5
  have hn' : (s.oneHeat c n).paints.length ≤ 5 := by rw [oneHeat_len]; exact hn
  have hp' : ∀ p, p ∈ ps → Of (s.oneHeat c n).paints.length p := fun p hpm => by rw [oneHeat_len]; exact hp p hpm
  have hH := fun p hpm => heat_lt (hp p hpm)
  obtain ⟨a1, ⟨f, a2⟩, ⟨t, a3⟩⟩ := (truly_fit hn hp).1 h
  obtain ⟨-, h2, h3⟩ := truly_parts h
  have k1 := sys_ends hn hH (by rw [← heatG_sys]; exact h2)
  rw [← heatG_sys] at k1
  constructor
  · intro e
    refine (truly_fit hn' hp').2 ⟨fun p hpm => by rw [oneHeat_lasts hc]; exact a1 p hpm, ?_, ⟨t, (oneHeat_sfit hc n ps t).2 a3⟩⟩
    rcases e with e | e
    · exact ⟨_, (oneHeat_fits hc h0 h1 ps _).2 ⟨k1.2, e.symm⟩⟩
    · exact ⟨_, (oneHeat_fits hc h0 h1 ps _).2 ⟨k1.1, e.symm⟩⟩
  · intro e
    rw [Bool.eq_false_iff]
    intro ht
    obtain ⟨-, ⟨g, b2⟩, -⟩ := (truly_fit hn' hp').1 ht
    obtain ⟨b3, b4⟩ := (oneHeat_fits hc h0 h1 ps g).1 b2
    have := (told_true hn hp b3 a3 hc).1
    omega
end CSet
end Go.Proofs.Ytpkadofgmhninaa
