/- A region that draws its order, but whose last operations come one after another behind all others. The same, where a drawn operation may read a slot that the tail writes. Drawn regions, with the frame that all values give reckoned once. -/
import Derived.Test.YtpkadofgmhninaaAfterSeq
namespace Go.Proofs.Ytpkadofgmhninaa
open Go.RowKit

def edgeB (l : List Oper) (i j : Nat) : Bool := match l[i]? with | some o => o.after.toList.any (fun e => Region.binds .any e && e.on == j) | none => false
def tailB (l : List Oper) (k : Nat) : Bool :=
  decide (k < l.length) && ((List.range k).all (fun j => (List.range (k + 1)).any fun i => decide (j < i) && edgeB l i j) && (List.range (l.length - 1)).all fun m => decide (m < k) || edgeB l (m + 1) m)
theorem tailB_lt {l : List Oper} {k : Nat} (h : tailB l k = true) : k < l.length := by
  unfold tailB at h
  rw [Bool.and_eq_true] at h
  simpa using h.1
theorem tailB_one {l : List Oper} {k : Nat} (h : tailB l k = true) {j : Nat} (hj : j < k) : ∃ i, j < i ∧ i ≤ k ∧ edgeB l i j = true := by
  unfold tailB at h
  rw [Bool.and_eq_true, Bool.and_eq_true] at h
  have h1 := List.all_eq_true.1 h.2.1 j (by simpa using hj)
  obtain ⟨i, hi, h2⟩ := List.any_eq_true.1 h1
  rw [Bool.and_eq_true] at h2
  exact ⟨i, by simpa using h2.1, by have := List.mem_range.1 hi; omega, h2.2⟩
theorem tailB_two {l : List Oper} {k : Nat} (h : tailB l k = true) {m : Nat} (hm : k ≤ m) (hl : m + 1 < l.length) : edgeB l (m + 1) m = true := by
  unfold tailB at h
  rw [Bool.and_eq_true, Bool.and_eq_true] at h
  have h1 := List.all_eq_true.1 h.2.2 m (by simp; omega)
  rw [Bool.or_eq_true] at h1
  rcases h1 with h1 | h1
  · simp at h1; omega
  · exact h1
theorem edgeB_ready {l : List Oper} {listed : Array Bool} {i j : Nat} (hr : i ∈ Region.ready .any l.toArray listed) (h : edgeB l i j = true) : listed[j]? = some true := by
  obtain ⟨_, o, ho, hall⟩ := mem_ready.1 hr
  have ho' : l[i]? = some o := by simpa using ho
  unfold edgeB at h
  rw [ho'] at h
  obtain ⟨e, he, h2⟩ := List.any_eq_true.1 h
  simp only [Bool.and_eq_true, beq_iff_eq] at h2
  have := hall e (Array.mem_toList_iff.1 he) h2.1
  rw [h2.2] at this
  exact getD_true this

theorem putAll_agree2 (l : List Oper) (a : Act) (vs : Nat → Value) (hB : orderB l = true) : ∀ (m : List Oper) (k : Nat) (b : Act), (∀ j, j < m.length → m[j]? = l[k + j]?) → Agree l a (fun j => j < k) vs b → Agree l a (fun j => j < k + m.length) vs (putAll vs m k b)
  | [], k, b, _, h => by simpa [putAll] using h
  | o :: m, k, b, hm, h => by
    have h1 : dstAt l k = o.dst := by
      have := hm 0 (by simp)
      simp at this
      simp [dstAt, ← this]
    have h2 := h.put hB k (Nat.lt_irrefl _) (vs k)
    rw [h1] at h2
    have h3 : Agree l a (fun j => j < k + 1) vs (b.put o.dst (vs k)) := by
      refine ⟨h2.defers, h2.size, fun t ht => h2.old t (fun j hj => ht j (by omega)), fun j t hj hd hlt => ?_⟩
      have := h2.new j t (by omega) hd hlt
      rw [this]
      by_cases e : j = k
      · simp [e]
      · simp [e]
    have h4 := putAll_agree2 l a vs hB m (k + 1) _ (fun j hj => by have := hm (j + 1) (by simp; omega); rw [List.getElem?_cons_succ] at this; rw [this]; congr 1; omega) h3
    have : k + (o :: m).length = k + 1 + m.length := by simp; omega
    rw [this]
    exact h4

/-- The tail, one operation after another. -/
theorem tail_any {F : Fence} {l : List Oper} {Q : Exit → Act → World → Prop} {k : Nat} (hK : backB l = true) (hT : tailB l k = true) : ∀ (n m : Nat) (listed : Array Bool) (b : Act) (W : World), m + n = l.length → k ≤ m → listed.size = l.length → (∀ j, j < l.length → (listed[j]? = some true ↔ j < m)) →
    wpListIn F 0 Try.prog l.toArray Q (l.drop m) b W → wpAnyIn F 0 Try.prog .any l.toArray Q n listed b W
  | 0, m, listed, b, W, hn, hk, hs, hl, h => by
    rw [List.drop_eq_nil_of_le (by omega)] at h
    refine ⟨?_, h⟩
    cases hr : Region.ready .any l.toArray listed with
    | nil => rfl
    | cons x xs =>
      have hx : x ∈ Region.ready .any l.toArray listed := by rw [hr]; simp
      have h1 := getD_false (mem_ready.1 hx).1
      have hxl : x < l.length := by rw [← hs]; exact (Array.getElem?_eq_some_iff.1 h1).1
      rw [(hl x hxl).2 (by omega)] at h1
      cases h1
  | n + 1, m, listed, b, W, hn, hk, hs, hl, h => by
    have hml : m < l.length := by omega
    have hlm : listed[m]? = some false := by
      have h1 : m < listed.size := by omega
      rw [Array.getElem?_eq_getElem h1]
      cases e : listed[m] with
      | false => rfl
      | true =>
        have := (hl m hml).1 (by rw [Array.getElem?_eq_getElem h1, e])
        omega
    have hmr : m ∈ Region.ready .any l.toArray listed := by
      refine mem_ready.2 ⟨by rw [Array.getD_eq_getD_getElem?, hlm]; rfl, l[m], by simp [hml], fun e he hb => ?_⟩
      have h1 := backB_at hK (List.getElem?_eq_getElem hml) e he hb
      have h2 := (hl e.on (by omega)).2 h1
      rw [Array.getD_eq_getD_getElem?, h2]; rfl
    refine ⟨fun hr => (by rw [hr] at hmr; cases hmr), fun i hir => ?_⟩
    have hun := getD_false (mem_ready.1 hir).1
    have hil : i < l.length := by rw [← hs]; exact (Array.getElem?_eq_some_iff.1 hun).1
    have him : i = m := by
      have h1 : ¬ i < m := fun h => by rw [(hl i hil).2 h] at hun; cases hun
      rcases Nat.lt_or_ge m i with h2 | h2
      · obtain ⟨j, rfl⟩ : ∃ j, i = j + 1 := ⟨i - 1, by omega⟩
        have h3 := edgeB_ready hir (tailB_two hT (by omega) hil)
        have h4 := (hl j (by omega)).1 h3
        omega
      · omega
    subst him
    have hd : l.drop i = l[i] :: l.drop (i + 1) := List.drop_eq_getElem_cons hml
    rw [hd] at h
    have hnext : ∀ c W', wpListIn F 0 Try.prog l.toArray Q (l.drop (i + 1)) c W' → wpAnyIn F 0 Try.prog .any l.toArray Q n (listed.setIfInBounds i true) c W' := fun c W' hc =>
      tail_any hK hT n (i + 1) _ c W' (by omega) (by omega) (by rw [Array.size_setIfInBounds]; exact hs) (fun j hj => by
        rw [Array.getElem?_setIfInBounds]
        by_cases e : i = j
        · subst e; simp [hs, hj]
        · rw [if_neg e, hl j hj]; omega) hc
    unfold wpOpIn
    simp only [wpListIn] at h
    have hoi : l.toArray[i]? = some l[i] := by simp [hml]
    simp only [hoi]
    split at h
    · rename_i hw; rw [if_pos hw]; exact Oper.wpIn_mono hnext h
    · rename_i hw; rw [if_neg hw]; exact ⟨h.1, hnext _ _ h.2⟩

structure TailInv (l : List Oper) (k : Nat) (a : Act) (w : World) (Φ : Nat → Value → World → Prop) (listed : Array Bool) (vs : Nat → Value) (b : Act) (W : World) : Prop where
  inv : GrowInv l a w Φ listed vs b W
  rest : ∀ j, k ≤ j → j < l.length → listed[j]? = some false
  closed : ∀ i j, listed[i]? = some true → edgeB l i j = true → listed[j]? = some true

theorem region_tail {F : Fence} {l : List Oper} {id : Nat} {Q : Exit → Act → World → Prop} {a : Act} {w : World} (k : Nat) (Φ : Nat → Value → World → Prop)
    (hm : Try.prog.follows .mixedOrders = true) (hB : orderB l = true) (hK : backB l = true) (hT : tailB l k = true)
    (hst : ∀ i v W W', Φ i v W → Bel W W' → Φ i v W')
    (hop : GrowOps F l a w Φ (l.take k) 0)
    (hfin : ∀ vs W, Bel w W → (∀ j, j < k → Φ j (vs j) W) → wpListIn F 0 Try.prog l.toArray Q (l.drop k) (putAll vs (l.take k) 0 a) W) : (Code.region id l.toArray true).wpIn F 0 Try.prog Q a w := by
  refine wpIn_region_any hm ?_
  have hkl := tailB_lt hT
  have H : ∀ (fuel : Nat) (listed : Array Bool) (vs : Nat → Value) (b : Act) (W : World), listed.toList.count false = fuel → TailInv l k a w Φ listed vs b W → wpAnyIn F 0 Try.prog .any l.toArray Q fuel listed b W := by
    intro fuel
    induction fuel with
    | zero =>
      intro listed vs b W hc hi
      exfalso
      have h1 := hi.rest k (Nat.le_refl _) hkl
      have hlt : k < listed.size := (Array.getElem?_eq_some_iff.1 h1).1
      have h2 : false ∈ listed.toList := by
        have := (Array.getElem?_eq_some_iff.1 h1).2
        rw [← this]; exact Array.getElem_mem_toList hlt
      have := List.count_pos_iff.2 h2
      omega
    | succ fuel ih =>
      intro listed vs b W hc hti
      have hi := hti.inv
      by_cases hall : ∀ j, j < k → listed[j]? = some true
      · -- all that is drawn has come
        have hp := putAll_agree2 l a vs hB (l.take k) 0 a (fun j hj => by rw [List.length_take] at hj; rw [List.getElem?_take, if_pos (by omega), Nat.zero_add]) ⟨rfl, rfl, fun _ _ => rfl, fun j t hj => absurd hj (Nat.not_lt_zero _)⟩
        have hlen : 0 + (l.take k).length = k := by rw [List.length_take]; omega
        rw [hlen] at hp
        have hb : Agree l a (fun j => j < k) vs b := by
          refine ⟨hi.agree.defers, hi.agree.size, fun t ht => hi.agree.old t (fun j hj => ?_), fun j t hj => hi.agree.new j t (hall j hj)⟩
          refine ht j ?_
          rcases Nat.lt_or_ge j k with h | h
          · exact h
          · have hjl : j < l.length := by have := (Array.getElem?_eq_some_iff.1 hj).1; rw [hi.size] at this; exact this
            rw [hti.rest j h hjl] at hj; cases hj
        rw [hb.unique hp]
        have hcount : k + (fuel + 1) = l.length := by
          have h1 : listed.toList = List.replicate k true ++ List.replicate (l.length - k) false := by
            apply List.ext_getElem?
            intro j
            rw [Array.getElem?_toList, List.getElem?_append, List.length_replicate]
            by_cases e : j < k
            · rw [if_pos e, hall j e, List.getElem?_replicate, if_pos e]
            · rw [if_neg e]
              by_cases e2 : j < l.length
              · rw [hti.rest j (by omega) e2, List.getElem?_replicate, if_pos (by omega)]
              · rw [Array.getElem?_eq_none (by rw [hi.size]; omega), List.getElem?_replicate, if_neg (by omega)]
          rw [h1, List.count_append, List.count_replicate_self, List.count_replicate] at hc
          simp at hc
          omega
        refine tail_any hK hT (fuel + 1) k listed _ W hcount (Nat.le_refl _) hi.size (fun j hj => ⟨fun h => ?_, fun h => hall j h⟩) (hfin vs W hi.bel (fun j hj => hi.holds j (hall j hj)))
        rcases Nat.lt_or_ge j k with h2 | h2
        · exact h2
        · rw [hti.rest j h2 hj] at h; cases h
      · refine ⟨fun hr => ?_, fun i hir => ?_⟩
        · exfalso
          have hmem : false ∈ listed.toList := List.count_pos_iff.1 (by omega)
          obtain ⟨k', hk', hke⟩ := List.getElem_of_mem hmem
          have hk'' : k' < listed.size := by simpa using hk'
          have hex : ∃ k, k < listed.size ∧ listed[k]? = some false := ⟨k', hk'', by rw [Array.getElem?_eq_getElem hk'']; simpa using hke⟩
          obtain ⟨m, ⟨hm1, hm2⟩, hmin⟩ : ∃ m, (m < listed.size ∧ listed[m]? = some false) ∧ ∀ j, j < m → ¬ (j < listed.size ∧ listed[j]? = some false) := by
            obtain ⟨k, hk⟩ := hex
            induction k using Nat.strongRecOn with
            | _ k ihk =>
              by_cases e : ∃ j, j < k ∧ (j < listed.size ∧ listed[j]? = some false)
              · obtain ⟨j, hj, hj2⟩ := e; exact ihk j hj hj2
              · exact ⟨k, hk, fun j hj hj2 => e ⟨j, hj, hj2⟩⟩
          have hml : m < l.length := by rw [← hi.size]; exact hm1
          have : m ∈ Region.ready .any l.toArray listed := by
            refine mem_ready.2 ⟨by rw [Array.getD_eq_getD_getElem?, hm2]; rfl, l[m], by simp [hml], fun e he hb => ?_⟩
            have h1 := backB_at hK (List.getElem?_eq_getElem hml) e he hb
            have h2 := hmin _ h1
            have h3 : e.on < listed.size := by omega
            cases h4 : listed[e.on] with
            | true => rw [Array.getD_eq_getD_getElem?, Array.getElem?_eq_getElem h3, h4]; rfl
            | false => exact absurd ⟨h3, by rw [Array.getElem?_eq_getElem h3, h4]⟩ h2
          rw [hr] at this
          cases this
        · obtain ⟨hun, o, ho, hall2⟩ := mem_ready.1 hir
          have hun' := getD_false hun
          have ho' : l[i]? = some o := by simpa using ho
          have hil : i < l.length := (List.getElem?_eq_some_iff.1 ho').1
          have hik : i < k := by
            rcases Nat.lt_or_ge i k with h | h
            · exact h
            · exfalso
              rcases Nat.lt_or_ge k i with h2 | h2
              · obtain ⟨j, rfl⟩ : ∃ j, i = j + 1 := ⟨i - 1, by omega⟩
                have h3 := edgeB_ready hir (tailB_two hT (by omega) hil)
                rw [hti.rest j (by omega) (by omega)] at h3; cases h3
              · obtain rfl : i = k := by omega
                refine hall ?_
                have key : ∀ d j, j + d = i → j < i → listed[j]? = some true := by
                  intro d
                  induction d using Nat.strongRecOn with
                  | _ d ihd =>
                    intro j hjd hji
                    obtain ⟨x, hx1, hx2, hx3⟩ := tailB_one hT hji
                    rcases Nat.lt_or_ge x i with h3 | h3
                    · exact hti.closed x j (ihd (i - x) (by omega) x (by omega) h3) hx3
                    · obtain rfl : x = i := by omega
                      exact edgeB_ready hir hx3
                exact fun j hj => key (i - j) j (by omega) hj
          have hG := hop.at (j := i) (o := o) (by rw [List.getElem?_take, if_pos hik]; exact ho')
          rw [Nat.zero_add] at hG
          have hdst : dstAt l i = o.dst := by simp [dstAt, ho']
          have hG' := hG vs W hi.bel (fun j hj => by
            obtain ⟨e, he, rfl⟩ := List.mem_map.1 hj
            rw [List.mem_filter] at he
            exact hi.holds _ (getD_true (hall2 e (Array.mem_toList_iff.1 he.1) he.2)))
          obtain ⟨hr1, hr2, hr3⟩ := orderB_at hB ho'
          have hp := putAll_agree l a vs hB l 0 a (fun j => by simp) ⟨rfl, rfl, fun _ _ => rfl, fun j t hj => absurd hj (Nat.not_lt_zero _)⟩
          rw [Nat.zero_add] at hp
          have hsame : ∀ t, t ∈ readsOf l o → b.tmps[t]? = (putAll vs l 0 a).tmps[t]? := fun t ht =>
            eval_agree hi.agree hp (fun j hj => by
              obtain ⟨e, he, hb, rfl⟩ := hr1 j t ht hj
              exact getD_true (hall2 e he hb))
          have hev : ∀ x ∈ o.op.operands, (putAll vs l 0 a).eval x = b.eval x := by
            intro x hx
            cases x with
            | tmp t =>
              have := hsame t (List.mem_append_left _ (List.mem_filterMap.2 ⟨.tmp t, by simpa using hx, rfl⟩))
              simp only [Act.eval]
              simp only [Array.getD_eq_getD_getElem?, this]
            | _ => rfl
          have hwant : Region.wanted o (yielded l.toArray (putAll vs l 0 a).tmps) = Region.wanted o (yielded l.toArray b.tmps) := by
            unfold Region.wanted
            cases hg : o.guard with
            | none => rfl
            | some gw =>
              obtain ⟨g, want⟩ := gw
              have : yielded l.toArray (putAll vs l 0 a).tmps g = yielded l.toArray b.tmps g := by
                unfold yielded
                have hd : (l.toArray[g]?).bind (·.dst) = dstAt l g := by simp [dstAt]
                rw [hd]
                cases hdd : dstAt l g with
                | none => rfl
                | some d =>
                  simp only [Option.bind_some]
                  rw [hsame d (List.mem_append_right _ (by rw [hg]; simp [hdd]))]
              simp only [this]
          have hab : ∀ W, o.about Try.prog W (putAll vs l 0 a).eval = o.about Try.prog W b.eval := fun W => about_congr o W hev
          have hex := execOp_congr o hr3 hev
          have hcnt : (listed.setIfInBounds i true).toList.count false = fuel := by have := count_set_false hun'; omega
          have hS : ∀ j, ((listed.setIfInBounds i true)[j]? = some true) ↔ (listed[j]? = some true ∨ j = i) := by
            intro j
            rw [Array.getElem?_setIfInBounds]
            by_cases e : i = j
            · subst e
              have := (Array.getElem?_eq_some_iff.1 hun').1
              simp [this]
            · simp [e, Ne.symm e]
          have hnext : ∀ v W', Φ i v W' → Bel W W' → wpAnyIn F 0 Try.prog .any l.toArray Q fuel (listed.setIfInBounds i true) (b.put o.dst v) W' := by
            intro v W' hv hb
            refine ih _ (fun j => if j = i then v else vs j) _ _ hcnt ⟨⟨by rw [Array.size_setIfInBounds]; exact hi.size, ?_, hi.bel.trans hb, ?_⟩, ?_, ?_⟩
            · have h1 := hi.agree.put hB i (by rw [hun']; simp) v
              rw [hdst] at h1
              refine ⟨h1.defers, h1.size, fun t ht => h1.old t (fun j hj => ht j ((hS j).2 hj)), fun j t hj => h1.new j t ((hS j).1 hj)⟩
            · intro j hj
              by_cases e : j = i
              · subst e; rw [if_pos rfl]; exact hv
              · rw [if_neg e]
                rw [Array.getElem?_setIfInBounds_ne (Ne.symm e)] at hj
                exact hst _ _ _ _ (hi.holds j hj) hb
            · intro j hj hjl
              rw [Array.getElem?_setIfInBounds_ne (by omega)]
              exact hti.rest j hj hjl
            · intro x y hx hxy
              rcases (hS x).1 hx with h | rfl
              · exact (hS y).2 (.inl (hti.closed x y h hxy))
              · exact (hS y).2 (.inl (edgeB_ready hir hxy))
          unfold wpOpIn
          simp only [ho]
          simp only [wpListIn] at hG'
          rw [hwant] at hG'
          have hval : ∀ v, valOf o ((putAll vs l 0 a).put o.dst v) = v ∨ ((putAll vs l 0 a).put o.dst (valOf o ((putAll vs l 0 a).put o.dst v)) = (putAll vs l 0 a).put o.dst v ∧ b.put o.dst (valOf o ((putAll vs l 0 a).put o.dst v)) = b.put o.dst v) := by
            intro v
            cases hd : o.dst with
            | none => right; exact ⟨rfl, rfl⟩
            | some d =>
              by_cases hlt : d < a.tmps.size
              · left
                have := put_get (putAll vs l 0 a) (some d) v d
                rw [if_pos ⟨rfl, by rw [hp.size]; exact hlt⟩] at this
                simp only [valOf, hd, Array.getD_eq_getD_getElem?, this]; rfl
              · right
                have h1 : ∀ (c : Act) u, c.tmps.size = a.tmps.size → c.put (some d) u = c := by
                  intro c u hc
                  simp only [Act.put]
                  rw [Array.setIfInBounds_eq_of_size_le (by rw [hc]; exact Nat.le_of_not_lt hlt)]
                rw [h1 _ _ hp.size, h1 _ _ hp.size, h1 _ _ hi.agree.size, h1 _ _ hi.agree.size]
                exact ⟨rfl, rfl⟩
          have hgo : ∀ v W', (Φ i (valOf o ((putAll vs l 0 a).put o.dst v)) W' ∧ Bel W W') → wpAnyIn F 0 Try.prog .any l.toArray Q fuel (listed.setIfInBounds i true) (b.put o.dst v) W' := by
            rintro v W' ⟨h1, h2⟩
            rcases hval v with h | ⟨-, h⟩
            · rw [h] at h1; exact hnext v W' h1 h2
            · have := hnext _ W' h1 h2
              rw [h] at this; exact this
          by_cases hw : Region.wanted o (yielded l.toArray b.tmps) = true
          · rw [if_pos hw] at hG' ⊢
            unfold Oper.wpIn at hG' ⊢
            rw [Oper.semAt_eq _ _ _ hr2] at hG' ⊢
            rw [hex] at hG'
            refine ⟨fun f hf => hG'.1 f (by rw [hab]; exact hf), ?_⟩
            refine upon_transfer hG'.2 (fun v W' h => hgo v W' ⟨h.2.2.1, h.2.2.2⟩) (fun c W' h => by cases h.1) ?_ ?_
            · rintro ⟨_, _, h1, _⟩
              cases h1
            · rintro d W' ⟨-, h1, -⟩
              have h2 := congrArg Act.defers h1
              rw [put_defers, put_defers] at h2
              have h3 := congrArg List.length h2
              simp at h3
          · rw [if_neg hw] at hG' ⊢
            exact ⟨fun f hf => hG'.1 f (by rw [hab]; exact hf), hgo _ _ ⟨hG'.2.2.2.1, hG'.2.2.2.2⟩⟩
  refine H _ _ (fun _ => undef) _ _ (by simp) ⟨⟨by simp, ⟨rfl, rfl, fun _ _ => rfl, fun j t hj => ?_⟩, (Bel.refl w).drew, fun j hj => ?_⟩, fun j hj hjl => ?_, fun i j hi => ?_⟩
  · rw [Array.getElem?_replicate] at hj; split at hj <;> cases hj
  · rw [Array.getElem?_replicate] at hj; split at hj <;> cases hj
  · rw [Array.getElem?_replicate, if_pos (by simpa using hjl)]
  · rw [Array.getElem?_replicate] at hi; split at hi <;> cases hi

end Go.Proofs.Ytpkadofgmhninaa
namespace Go.Proofs.Ytpkadofgmhninaa
open Go.RowKit

/-- The drawn operations' guards are drawn operations. -/
def guardB (L : List Oper) (k : Nat) : Bool := (List.range k).all fun i => match L[i]? with | some o => (match o.guard with | some (g, _) => decide (g < k) | none => true) | none => true
theorem guardB_at {L : List Oper} {k : Nat} (h : guardB L k = true) {i : Nat} (hi : i < k) {o : Oper} (ho : L[i]? = some o) {g : Nat} {x : Bool} (hg : o.guard = some (g, x)) : g < k := by
  unfold guardB at h
  have := List.all_eq_true.1 h i (by simpa using hi)
  rw [ho] at this
  simp only [hg] at this
  simpa using this

/-- What is asked of one drawn operation. -/
def GrowOp2 (F : Fence) (L l : List Oper) (a : Act) (w : World) (Φ : Nat → Value → World → Prop) (o : Oper) (i : Nat) : Prop :=
  ∀ vs W, Bel w W → (∀ j ∈ (o.after.toList.filter (Region.binds .any)).map (·.on), Φ j (vs j) W) →
    wpListIn F 0 Try.prog L.toArray (fun e b W' => e = .normal ∧ b = (putAll vs l 0 a).put o.dst (valOf o b) ∧ Φ i (valOf o b) W' ∧ Bel W W') [o] (putAll vs l 0 a) W
def GrowOps2 (F : Fence) (L l : List Oper) (a : Act) (w : World) (Φ : Nat → Value → World → Prop) : List Oper → Nat → Prop
  | [], _ => True
  | o :: m, i => GrowOp2 F L l a w Φ o i ∧ GrowOps2 F L l a w Φ m (i + 1)
theorem GrowOps2.at {F : Fence} {L l : List Oper} {a : Act} {w : World} {Φ : Nat → Value → World → Prop} : ∀ {m : List Oper} {k : Nat}, GrowOps2 F L l a w Φ m k → ∀ {j : Nat} {o : Oper}, m[j]? = some o → GrowOp2 F L l a w Φ o (k + j)
  | [], _, _, j, o, hj => by simp at hj
  | p :: m, k, h, 0, o, hj => by simp at hj; subst hj; exact h.1
  | p :: m, k, h, j + 1, o, hj => by
    have := h.2.at (j := j) (o := o) (by simpa using hj)
    rw [show k + (j + 1) = k + 1 + j from by omega]
    exact this
structure GrowK2 (l : List Oper) (a : Act) (Φ : Nat → Value → World → Prop) (o : Oper) (i : Nat) (vs : Nat → Value) (W : World) (K : Exit → Act → World → Prop) : Prop where
  out : ∀ b W', b = (putAll vs l 0 a).put o.dst (valOf o b) → Φ i (valOf o b) W' → Bel W W' → K .normal b W'
theorem growOp2_k {F : Fence} {L l : List Oper} {a : Act} {w : World} {Φ : Nat → Value → World → Prop} {o : Oper} {i : Nat}
    (h : ∀ vs W, Bel w W → (∀ j ∈ (o.after.toList.filter (Region.binds .any)).map (·.on), Φ j (vs j) W) →
      ∀ K : Exit → Act → World → Prop, GrowK2 l a Φ o i vs W K → wpListIn F 0 Try.prog L.toArray K [o] (putAll vs l 0 a) W) : GrowOp2 F L l a w Φ o i :=
  fun vs W hb hd => h vs W hb hd _ ⟨fun _ _ h1 h2 h3 => ⟨rfl, h1, h2, h3⟩⟩

structure TailInv2 (L : List Oper) (k : Nat) (a : Act) (w : World) (Φ : Nat → Value → World → Prop) (listed : Array Bool) (vs : Nat → Value) (b : Act) (W : World) : Prop where
  size : listed.size = L.length
  agree : Agree (L.take k) a (fun j => listed[j]? = some true) vs b
  bel : Bel w W
  holds : ∀ j, listed[j]? = some true → Φ j (vs j) W
  rest : ∀ j, k ≤ j → j < L.length → listed[j]? = some false
  closed : ∀ i j, listed[i]? = some true → edgeB L i j = true → listed[j]? = some true

theorem region_tail2 {F : Fence} {L : List Oper} {id : Nat} {Q : Exit → Act → World → Prop} {a : Act} {w : World} (k : Nat) (Φ : Nat → Value → World → Prop)
    (hm : Try.prog.follows .mixedOrders = true) (hB : orderB (L.take k) = true) (hK : backB L = true) (hT : tailB L k = true) (hGd : guardB L k = true)
    (hst : ∀ i v W W', Φ i v W → Bel W W' → Φ i v W')
    (hop : GrowOps2 F L (L.take k) a w Φ (L.take k) 0)
    (hfin : ∀ vs W, Bel w W → (∀ j, j < k → Φ j (vs j) W) → wpListIn F 0 Try.prog L.toArray Q (L.drop k) (putAll vs (L.take k) 0 a) W) : (Code.region id L.toArray true).wpIn F 0 Try.prog Q a w := by
  refine wpIn_region_any hm ?_
  have hkl := tailB_lt hT
  have H : ∀ (fuel : Nat) (listed : Array Bool) (vs : Nat → Value) (b : Act) (W : World), listed.toList.count false = fuel → TailInv2 L k a w Φ listed vs b W → wpAnyIn F 0 Try.prog .any L.toArray Q fuel listed b W := by
    intro fuel
    induction fuel with
    | zero =>
      intro listed vs b W hc hi
      exfalso
      have h1 := hi.rest k (Nat.le_refl _) hkl
      have hlt : k < listed.size := (Array.getElem?_eq_some_iff.1 h1).1
      have h2 : false ∈ listed.toList := by
        have := (Array.getElem?_eq_some_iff.1 h1).2
        rw [← this]; exact Array.getElem_mem_toList hlt
      have := List.count_pos_iff.2 h2
      omega
    | succ fuel ih =>
      intro listed vs b W hc hti
      have hi := hti
      have hlk : (L.take k).length = k := by rw [List.length_take]; omega
      by_cases hall : ∀ j, j < k → listed[j]? = some true
      · -- all that is drawn has come
        have hp := putAll_agree (L.take k) a vs hB (L.take k) 0 a (fun j => by simp) ⟨rfl, rfl, fun _ _ => rfl, fun j t hj => absurd hj (Nat.not_lt_zero _)⟩
        have hlen : 0 + (L.take k).length = k := by omega
        rw [hlen] at hp
        have hb : Agree (L.take k) a (fun j => j < k) vs b := by
          refine ⟨hi.agree.defers, hi.agree.size, fun t ht => hi.agree.old t (fun j hj => ?_), fun j t hj => hi.agree.new j t (hall j hj)⟩
          refine ht j ?_
          rcases Nat.lt_or_ge j k with h | h
          · exact h
          · have hjl : j < L.length := by have := (Array.getElem?_eq_some_iff.1 hj).1; rw [hi.size] at this; exact this
            rw [hti.rest j h hjl] at hj; cases hj
        rw [hb.unique hp]
        have hcount : k + (fuel + 1) = L.length := by
          have h1 : listed.toList = List.replicate k true ++ List.replicate (L.length - k) false := by
            apply List.ext_getElem?
            intro j
            rw [Array.getElem?_toList, List.getElem?_append, List.length_replicate]
            by_cases e : j < k
            · rw [if_pos e, hall j e, List.getElem?_replicate, if_pos e]
            · rw [if_neg e]
              by_cases e2 : j < L.length
              · rw [hti.rest j (by omega) e2, List.getElem?_replicate, if_pos (by omega)]
              · rw [Array.getElem?_eq_none (by rw [hi.size]; omega), List.getElem?_replicate, if_neg (by omega)]
          rw [h1, List.count_append, List.count_replicate_self, List.count_replicate] at hc
          simp at hc
          omega
        refine tail_any hK hT (fuel + 1) k listed _ W hcount (Nat.le_refl _) hi.size (fun j hj => ⟨fun h => ?_, fun h => hall j h⟩) (hfin vs W hi.bel (fun j hj => hi.holds j (hall j hj)))
        rcases Nat.lt_or_ge j k with h2 | h2
        · exact h2
        · rw [hti.rest j h2 hj] at h; cases h
      · refine ⟨fun hr => ?_, fun i hir => ?_⟩
        · exfalso
          have hmem : false ∈ listed.toList := List.count_pos_iff.1 (by omega)
          obtain ⟨k', hk', hke⟩ := List.getElem_of_mem hmem
          have hk'' : k' < listed.size := by simpa using hk'
          have hex : ∃ k, k < listed.size ∧ listed[k]? = some false := ⟨k', hk'', by rw [Array.getElem?_eq_getElem hk'']; simpa using hke⟩
          obtain ⟨m, ⟨hm1, hm2⟩, hmin⟩ : ∃ m, (m < listed.size ∧ listed[m]? = some false) ∧ ∀ j, j < m → ¬ (j < listed.size ∧ listed[j]? = some false) := by
            obtain ⟨k, hk⟩ := hex
            induction k using Nat.strongRecOn with
            | _ k ihk =>
              by_cases e : ∃ j, j < k ∧ (j < listed.size ∧ listed[j]? = some false)
              · obtain ⟨j, hj, hj2⟩ := e; exact ihk j hj hj2
              · exact ⟨k, hk, fun j hj hj2 => e ⟨j, hj, hj2⟩⟩
          have hml : m < L.length := by rw [← hi.size]; exact hm1
          have : m ∈ Region.ready .any L.toArray listed := by
            refine mem_ready.2 ⟨by rw [Array.getD_eq_getD_getElem?, hm2]; rfl, L[m], by simp [hml], fun e he hb => ?_⟩
            have h1 := backB_at hK (List.getElem?_eq_getElem hml) e he hb
            have h2 := hmin _ h1
            have h3 : e.on < listed.size := by omega
            cases h4 : listed[e.on] with
            | true => rw [Array.getD_eq_getD_getElem?, Array.getElem?_eq_getElem h3, h4]; rfl
            | false => exact absurd ⟨h3, by rw [Array.getElem?_eq_getElem h3, h4]⟩ h2
          rw [hr] at this
          cases this
        · obtain ⟨hun, o, ho, hall2⟩ := mem_ready.1 hir
          have hun' := getD_false hun
          have ho' : L[i]? = some o := by simpa using ho
          have hil : i < L.length := (List.getElem?_eq_some_iff.1 ho').1
          have hik : i < k := by
            rcases Nat.lt_or_ge i k with h | h
            · exact h
            · exfalso
              rcases Nat.lt_or_ge k i with h2 | h2
              · obtain ⟨j, rfl⟩ : ∃ j, i = j + 1 := ⟨i - 1, by omega⟩
                have h3 := edgeB_ready hir (tailB_two hT (by omega) hil)
                rw [hti.rest j (by omega) (by omega)] at h3; cases h3
              · obtain rfl : i = k := by omega
                refine hall ?_
                have key : ∀ d j, j + d = i → j < i → listed[j]? = some true := by
                  intro d
                  induction d using Nat.strongRecOn with
                  | _ d ihd =>
                    intro j hjd hji
                    obtain ⟨x, hx1, hx2, hx3⟩ := tailB_one hT hji
                    rcases Nat.lt_or_ge x i with h3 | h3
                    · exact hti.closed x j (ihd (i - x) (by omega) x (by omega) h3) hx3
                    · obtain rfl : x = i := by omega
                      exact edgeB_ready hir hx3
                exact fun j hj => key (i - j) j (by omega) hj
          have ho2 : (L.take k)[i]? = some o := by rw [List.getElem?_take, if_pos hik]; exact ho'
          have hG := hop.at (j := i) (o := o) ho2
          rw [Nat.zero_add] at hG
          have hdst : dstAt (L.take k) i = o.dst := by simp [dstAt, ho2]
          have hG' := hG vs W hi.bel (fun j hj => by
            obtain ⟨e, he, rfl⟩ := List.mem_map.1 hj
            rw [List.mem_filter] at he
            exact hi.holds _ (getD_true (hall2 e (Array.mem_toList_iff.1 he.1) he.2)))
          obtain ⟨hr1, hr2, hr3⟩ := orderB_at hB ho2
          have hp := putAll_agree (L.take k) a vs hB (L.take k) 0 a (fun j => by simp) ⟨rfl, rfl, fun _ _ => rfl, fun j t hj => absurd hj (Nat.not_lt_zero _)⟩
          rw [Nat.zero_add] at hp
          have hsame : ∀ t, t ∈ readsOf (L.take k) o → b.tmps[t]? = (putAll vs (L.take k) 0 a).tmps[t]? := fun t ht =>
            eval_agree hi.agree hp (fun j hj => by
              obtain ⟨e, he, hb, rfl⟩ := hr1 j t ht hj
              exact getD_true (hall2 e he hb))
          have hev : ∀ x ∈ o.op.operands, (putAll vs (L.take k) 0 a).eval x = b.eval x := by
            intro x hx
            cases x with
            | tmp t =>
              have := hsame t (List.mem_append_left _ (List.mem_filterMap.2 ⟨.tmp t, by simpa using hx, rfl⟩))
              simp only [Act.eval]
              simp only [Array.getD_eq_getD_getElem?, this]
            | _ => rfl
          have hwant : Region.wanted o (yielded L.toArray (putAll vs (L.take k) 0 a).tmps) = Region.wanted o (yielded L.toArray b.tmps) := by
            unfold Region.wanted
            cases hg : o.guard with
            | none => rfl
            | some gw =>
              obtain ⟨g, want⟩ := gw
              have : yielded L.toArray (putAll vs (L.take k) 0 a).tmps g = yielded L.toArray b.tmps g := by
                unfold yielded
                have hgk := guardB_at hGd hik ho' hg
                have hd : (L.toArray[g]?).bind (·.dst) = dstAt (L.take k) g := by simp [dstAt, hgk]
                rw [hd]
                cases hdd : dstAt (L.take k) g with
                | none => rfl
                | some d =>
                  simp only [Option.bind_some]
                  rw [hsame d (List.mem_append_right _ (by rw [hg]; simp [hdd]))]
              simp only [this]
          have hab : ∀ W, o.about Try.prog W (putAll vs (L.take k) 0 a).eval = o.about Try.prog W b.eval := fun W => about_congr o W hev
          have hex := execOp_congr o hr3 hev
          have hcnt : (listed.setIfInBounds i true).toList.count false = fuel := by have := count_set_false hun'; omega
          have hS : ∀ j, ((listed.setIfInBounds i true)[j]? = some true) ↔ (listed[j]? = some true ∨ j = i) := by
            intro j
            rw [Array.getElem?_setIfInBounds]
            by_cases e : i = j
            · subst e
              have := (Array.getElem?_eq_some_iff.1 hun').1
              simp [this]
            · simp [e, Ne.symm e]
          have hnext : ∀ v W', Φ i v W' → Bel W W' → wpAnyIn F 0 Try.prog .any L.toArray Q fuel (listed.setIfInBounds i true) (b.put o.dst v) W' := by
            intro v W' hv hb
            refine ih _ (fun j => if j = i then v else vs j) _ _ hcnt ⟨by rw [Array.size_setIfInBounds]; exact hi.size, ?_, hi.bel.trans hb, ?_, ?_, ?_⟩
            · have h1 := hi.agree.put hB i (by rw [hun']; simp) v
              rw [hdst] at h1
              refine ⟨h1.defers, h1.size, fun t ht => h1.old t (fun j hj => ht j ((hS j).2 hj)), fun j t hj => h1.new j t ((hS j).1 hj)⟩
            · intro j hj
              by_cases e : j = i
              · subst e; rw [if_pos rfl]; exact hv
              · rw [if_neg e]
                rw [Array.getElem?_setIfInBounds_ne (Ne.symm e)] at hj
                exact hst _ _ _ _ (hi.holds j hj) hb
            · intro j hj hjl
              rw [Array.getElem?_setIfInBounds_ne (by omega)]
              exact hti.rest j hj hjl
            · intro x y hx hxy
              rcases (hS x).1 hx with h | rfl
              · exact (hS y).2 (.inl (hti.closed x y h hxy))
              · exact (hS y).2 (.inl (edgeB_ready hir hxy))
          unfold wpOpIn
          simp only [ho]
          simp only [wpListIn] at hG'
          rw [hwant] at hG'
          have hval : ∀ v, valOf o ((putAll vs (L.take k) 0 a).put o.dst v) = v ∨ ((putAll vs (L.take k) 0 a).put o.dst (valOf o ((putAll vs (L.take k) 0 a).put o.dst v)) = (putAll vs (L.take k) 0 a).put o.dst v ∧ b.put o.dst (valOf o ((putAll vs (L.take k) 0 a).put o.dst v)) = b.put o.dst v) := by
            intro v
            cases hd : o.dst with
            | none => right; exact ⟨rfl, rfl⟩
            | some d =>
              by_cases hlt : d < a.tmps.size
              · left
                have := put_get (putAll vs (L.take k) 0 a) (some d) v d
                rw [if_pos ⟨rfl, by rw [hp.size]; exact hlt⟩] at this
                simp only [valOf, hd, Array.getD_eq_getD_getElem?, this]; rfl
              · right
                have h1 : ∀ (c : Act) u, c.tmps.size = a.tmps.size → c.put (some d) u = c := by
                  intro c u hc
                  simp only [Act.put]
                  rw [Array.setIfInBounds_eq_of_size_le (by rw [hc]; exact Nat.le_of_not_lt hlt)]
                rw [h1 _ _ hp.size, h1 _ _ hp.size, h1 _ _ hi.agree.size, h1 _ _ hi.agree.size]
                exact ⟨rfl, rfl⟩
          have hgo : ∀ v W', (Φ i (valOf o ((putAll vs (L.take k) 0 a).put o.dst v)) W' ∧ Bel W W') → wpAnyIn F 0 Try.prog .any L.toArray Q fuel (listed.setIfInBounds i true) (b.put o.dst v) W' := by
            rintro v W' ⟨h1, h2⟩
            rcases hval v with h | ⟨-, h⟩
            · rw [h] at h1; exact hnext v W' h1 h2
            · have := hnext _ W' h1 h2
              rw [h] at this; exact this
          by_cases hw : Region.wanted o (yielded L.toArray b.tmps) = true
          · rw [if_pos hw] at hG' ⊢
            unfold Oper.wpIn at hG' ⊢
            rw [Oper.semAt_eq _ _ _ hr2] at hG' ⊢
            rw [hex] at hG'
            refine ⟨fun f hf => hG'.1 f (by rw [hab]; exact hf), ?_⟩
            refine upon_transfer hG'.2 (fun v W' h => hgo v W' ⟨h.2.2.1, h.2.2.2⟩) (fun c W' h => by cases h.1) ?_ ?_
            · rintro ⟨_, _, h1, _⟩
              cases h1
            · rintro d W' ⟨-, h1, -⟩
              have h2 := congrArg Act.defers h1
              rw [put_defers, put_defers] at h2
              have h3 := congrArg List.length h2
              simp at h3
          · rw [if_neg hw] at hG' ⊢
            exact ⟨fun f hf => hG'.1 f (by rw [hab]; exact hf), hgo _ _ ⟨hG'.2.2.2.1, hG'.2.2.2.2⟩⟩
  refine H _ _ (fun _ => undef) _ _ (by simp) ⟨by simp, ⟨rfl, rfl, fun _ _ => rfl, fun j t hj => ?_⟩, (Bel.refl w).drew, fun j hj => ?_, fun j hj hjl => ?_, fun i j hi => ?_⟩
  · rw [Array.getElem?_replicate] at hj; split at hj <;> cases hj
  · rw [Array.getElem?_replicate] at hj; split at hj <;> cases hj
  · rw [Array.getElem?_replicate, if_pos (by simpa using hjl)]
  · rw [Array.getElem?_replicate] at hi; split at hi <;> cases hi

end Go.Proofs.Ytpkadofgmhninaa
namespace Go.Proofs.Ytpkadofgmhninaa
open Go.RowKit

/-- What is asked of one operation, in a frame that is given. -/
def GrowOpF (F : Fence) (l : List Oper) (Fr : (Nat → Value) → Act) (w : World) (Φ : Nat → Value → World → Prop) (o : Oper) (i : Nat) : Prop :=
  ∀ vs W, Bel w W → (∀ j ∈ (o.after.toList.filter (Region.binds .any)).map (·.on), Φ j (vs j) W) →
    wpListIn F 0 Try.prog l.toArray (fun e b W' => e = .normal ∧ b = (Fr vs).put o.dst (valOf o b) ∧ Φ i (valOf o b) W' ∧ Bel W W') [o] (Fr vs) W
def GrowOpsF (F : Fence) (l : List Oper) (Fr : (Nat → Value) → Act) (w : World) (Φ : Nat → Value → World → Prop) : List Oper → Nat → Prop
  | [], _ => True
  | o :: m, i => GrowOpF F l Fr w Φ o i ∧ GrowOpsF F l Fr w Φ m (i + 1)
structure GrowKF (Fr : (Nat → Value) → Act) (Φ : Nat → Value → World → Prop) (o : Oper) (i : Nat) (vs : Nat → Value) (W : World) (K : Exit → Act → World → Prop) : Prop where
  out : ∀ b W', b = (Fr vs).put o.dst (valOf o b) → Φ i (valOf o b) W' → Bel W W' → K .normal b W'
theorem growOpF_k {F : Fence} {l : List Oper} {Fr : (Nat → Value) → Act} {w : World} {Φ : Nat → Value → World → Prop} {o : Oper} {i : Nat}
    (h : ∀ vs W, Bel w W → (∀ j ∈ (o.after.toList.filter (Region.binds .any)).map (·.on), Φ j (vs j) W) →
      ∀ K : Exit → Act → World → Prop, GrowKF Fr Φ o i vs W K → wpListIn F 0 Try.prog l.toArray K [o] (Fr vs) W) : GrowOpF F l Fr w Φ o i :=
  fun vs W hb hd => h vs W hb hd _ ⟨fun _ _ h1 h2 h3 => ⟨rfl, h1, h2, h3⟩⟩

theorem growOps_frame {F : Fence} {l : List Oper} {a : Act} {w : World} {Φ : Nat → Value → World → Prop} {Fr : (Nat → Value) → Act} (hF : ∀ vs, putAll vs l 0 a = Fr vs) : ∀ (m : List Oper) (i : Nat), GrowOpsF F l Fr w Φ m i → GrowOps F l a w Φ m i
  | [], _, _ => trivial
  | o :: m, i, h => ⟨fun vs W hb hd => by
      rw [hF vs]
      exact h.1 vs W hb hd, growOps_frame hF m (i + 1) h.2⟩
theorem growOps2_frame {F : Fence} {L l : List Oper} {a : Act} {w : World} {Φ : Nat → Value → World → Prop} {Fr : (Nat → Value) → Act} (hF : ∀ vs, putAll vs l 0 a = Fr vs) : ∀ (m : List Oper) (i : Nat), GrowOpsF F L Fr w Φ m i → GrowOps2 F L l a w Φ m i
  | [], _, _ => trivial
  | o :: m, i, h => ⟨fun vs W hb hd => by
      rw [hF vs]
      exact h.1 vs W hb hd, growOps2_frame hF m (i + 1) h.2⟩

theorem region_growF {F : Fence} {l : List Oper} {id : Nat} {Q : Exit → Act → World → Prop} {a : Act} {w : World} (Φ : Nat → Value → World → Prop) (Fr : (Nat → Value) → Act)
    (hF : ∀ vs, putAll vs l 0 a = Fr vs)
    (hm : Try.prog.follows .mixedOrders = true) (hB : orderB l = true) (hK : backB l = true)
    (hst : ∀ i v W W', Φ i v W → Bel W W' → Φ i v W')
    (hop : GrowOpsF F l Fr w Φ l 0)
    (hfin : ∀ vs W, Bel w W → (∀ j, j < l.length → Φ j (vs j) W) → Q .normal (Fr vs) W) : (Code.region id l.toArray true).wpIn F 0 Try.prog Q a w :=
  region_grow Φ hm hB hK hst (growOps_frame hF l 0 hop) (fun vs W h1 h2 => by rw [hF vs]; exact hfin vs W h1 h2)

theorem region_tailF {F : Fence} {l : List Oper} {id : Nat} {Q : Exit → Act → World → Prop} {a : Act} {w : World} (k : Nat) (Φ : Nat → Value → World → Prop) (Fr Fk : (Nat → Value) → Act)
    (hF : ∀ vs, putAll vs l 0 a = Fr vs) (hFk : ∀ vs, putAll vs (l.take k) 0 a = Fk vs)
    (hm : Try.prog.follows .mixedOrders = true) (hB : orderB l = true) (hK : backB l = true) (hT : tailB l k = true)
    (hst : ∀ i v W W', Φ i v W → Bel W W' → Φ i v W')
    (hop : GrowOpsF F l Fr w Φ (l.take k) 0)
    (hfin : ∀ vs W, Bel w W → (∀ j, j < k → Φ j (vs j) W) → wpListIn F 0 Try.prog l.toArray Q (l.drop k) (Fk vs) W) : (Code.region id l.toArray true).wpIn F 0 Try.prog Q a w :=
  region_tail k Φ hm hB hK hT hst (growOps_frame hF (l.take k) 0 hop) (fun vs W h1 h2 => by rw [hFk vs]; exact hfin vs W h1 h2)

theorem region_tail2F {F : Fence} {L : List Oper} {id : Nat} {Q : Exit → Act → World → Prop} {a : Act} {w : World} (k : Nat) (Φ : Nat → Value → World → Prop) (Fr : (Nat → Value) → Act)
    (hF : ∀ vs, putAll vs (L.take k) 0 a = Fr vs)
    (hm : Try.prog.follows .mixedOrders = true) (hB : orderB (L.take k) = true) (hK : backB L = true) (hT : tailB L k = true) (hGd : guardB L k = true)
    (hst : ∀ i v W W', Φ i v W → Bel W W' → Φ i v W')
    (hop : GrowOpsF F L Fr w Φ (L.take k) 0)
    (hfin : ∀ vs W, Bel w W → (∀ j, j < k → Φ j (vs j) W) → wpListIn F 0 Try.prog L.toArray Q (L.drop k) (Fr vs) W) : (Code.region id L.toArray true).wpIn F 0 Try.prog Q a w :=
  region_tail2 k Φ hm hB hK hT hGd hst (growOps2_frame hF (L.take k) 0 hop) (fun vs W h1 h2 => by rw [hF vs]; exact hfin vs W h1 h2)

end Go.Proofs.Ytpkadofgmhninaa
