/- Drawn regions one of whose operations may change what others have laid. -/
import Derived.Test.YtpkadofgmhninaaTail
namespace Go.Proofs.Ytpkadofgmhninaa
open Go.RowKit

/-- A relation that holds where nothing old has changed, and goes on. -/
structure RelW (R : World → World → Prop) : Prop where
  bel : ∀ {A B : World}, Bel A B → R A B
  trans : ∀ {A B C : World}, R A B → R B C → R A C
/-- The operations that one waits for. -/
def depsAt (l : List Oper) (i : Nat) : List Nat := match l[i]? with | some o => (o.after.toList.filter (Region.binds .any)).map (·.on) | none => []
/-- What comes behind X. -/
def lateI (X : Nat) (E : List Nat) (i : Nat) : Bool := E.contains i && i != X
/-- What is dead behind X is asked for by X alone, by what X waits for, and by what comes behind it. -/
def deadB (l : List Oper) (X : Nat) (D E : List Nat) : Bool := (List.range l.length).all fun i => lateI X E i || (depsAt l i).all fun j => !D.contains j || i == X || (depsAt l X).contains i
theorem deadB_at {l : List Oper} {X : Nat} {D E : List Nat} (h : deadB l X D E = true) {i : Nat} {o : Oper} (hi : l[i]? = some o) (hl : lateI X E i = false) {j : Nat} (hj : j ∈ (o.after.toList.filter (Region.binds .any)).map (·.on)) (hd : j ∈ D) : i = X ∨ i ∈ depsAt l X := by
  unfold deadB at h
  rw [List.all_eq_true] at h
  have h1 := h i (List.mem_range.2 (List.getElem?_eq_some_iff.1 hi).1)
  rw [hl, Bool.false_or, List.all_eq_true] at h1
  have h2 := h1 j (by unfold depsAt; rw [hi]; exact hj)
  simp only [List.contains_eq_mem, Bool.or_eq_true, Bool.not_eq_true', decide_eq_false_iff_not, decide_eq_true_eq, beq_iff_eq] at h2
  rcases h2 with (h2 | h2) | h2
  · exact absurd hd h2
  · exact .inl h2
  · exact .inr h2
def GrowOpX (R : World → World → Prop) (X : Nat) (D E : List Nat) (F : Fence) (l : List Oper) (a : Act) (w : World) (Φ : Nat → Value → World → Prop) (o : Oper) (i : Nat) : Prop :=
  ∀ vs W, R w W → (∀ j ∈ (o.after.toList.filter (Region.binds .any)).map (·.on), (lateI X E i = true → j ∉ D) → Φ j (vs j) W) →
    wpListIn F 0 Try.prog l.toArray (fun e b W' => e = .normal ∧ b = (putAll vs l 0 a).put o.dst (valOf o b) ∧ Φ i (valOf o b) W' ∧ (if i = X then R W W' else Bel W W')) [o] (putAll vs l 0 a) W
def GrowOpsX (R : World → World → Prop) (X : Nat) (D E : List Nat) (F : Fence) (l : List Oper) (a : Act) (w : World) (Φ : Nat → Value → World → Prop) : List Oper → Nat → Prop
  | [], _ => True
  | o :: m, i => GrowOpX R X D E F l a w Φ o i ∧ GrowOpsX R X D E F l a w Φ m (i + 1)
theorem GrowOpsX.at {R : World → World → Prop} {X : Nat} {D E : List Nat} {F : Fence} {l : List Oper} {a : Act} {w : World} {Φ : Nat → Value → World → Prop} : ∀ {m : List Oper} {k : Nat}, GrowOpsX R X D E F l a w Φ m k → ∀ {j : Nat} {o : Oper}, m[j]? = some o → GrowOpX R X D E F l a w Φ o (k + j)
  | [], _, _, j, o, hj => by simp at hj
  | p :: m, k, h, 0, o, hj => by simp at hj; subst hj; exact h.1
  | p :: m, k, h, j + 1, o, hj => by
    have := h.2.at (j := j) (o := o) (by simpa using hj)
    rw [show k + (j + 1) = k + 1 + j from by omega]
    exact this

/-- What comes behind X waits for X, or for what comes behind it. -/
def lateB (l : List Oper) (X : Nat) (E : List Nat) : Bool := E.all fun i => i == X || (depsAt l i).any fun j => E.contains j
theorem lateB_at {l : List Oper} {X : Nat} {E : List Nat} (h : lateB l X E = true) {i : Nat} (hi : i ∈ E) : i = X ∨ ∃ j, j ∈ depsAt l i ∧ j ∈ E := by
  unfold lateB at h
  rw [List.all_eq_true] at h
  have h1 := h i hi
  rw [Bool.or_eq_true, beq_iff_eq, List.any_eq_true] at h1
  rcases h1 with h1 | ⟨j, h2, h3⟩
  · exact .inl h1
  · exact .inr ⟨j, h2, by simpa [List.contains_eq_mem] using h3⟩

structure GrowInvX (R : World → World → Prop) (X : Nat) (D E : List Nat) (l : List Oper) (a : Act) (w : World) (Φ : Nat → Value → World → Prop) (listed : Array Bool) (vs : Nat → Value) (b : Act) (W : World) : Prop where
  size : listed.size = l.length
  agree : Agree l a (fun j => listed[j]? = some true) vs b
  bel : R w W
  holds : ∀ j, listed[j]? = some true → (listed[X]? = some true → j ∉ D) → Φ j (vs j) W
  closed : listed[X]? = some true → ∀ j, j ∈ depsAt l X → listed[j]? = some true
  late : ∀ j, j ∈ E → listed[j]? = some true → listed[X]? = some true
theorem region_growX {R : World → World → Prop} (hR : RelW R) (X : Nat) (D E : List Nat) {F : Fence} {l : List Oper} {id : Nat} {Q : Exit → Act → World → Prop} {a : Act} {w : World} (Φ : Nat → Value → World → Prop)
    (hm : Try.prog.follows .mixedOrders = true) (hB : orderB l = true) (hK : backB l = true)
    (hdead : deadB l X D E = true) (hlate : lateB l X E = true) (hst : ∀ i v W W', Φ i v W → Bel W W' → Φ i v W') (hst2 : ∀ i v W W', i ∉ D → i ∉ E → Φ i v W → R W W' → Φ i v W')
    (hop : GrowOpsX R X D E F l a w Φ l 0)
    (hfin : ∀ vs W, R w W → (∀ j, j < l.length → j ∉ D → Φ j (vs j) W) → Q .normal (putAll vs l 0 a) W) : (Code.region id l.toArray true).wpIn F 0 Try.prog Q a w := by
  refine wpIn_region_any hm ?_
  have H : ∀ (fuel : Nat) (listed : Array Bool) (vs : Nat → Value) (b : Act) (W : World), listed.toList.count false = fuel → GrowInvX R X D E l a w Φ listed vs b W → wpAnyIn F 0 Try.prog .any l.toArray Q fuel listed b W := by
    intro fuel
    induction fuel with
    | zero =>
      intro listed vs b W hc hi
      have hall : ∀ j, j < l.length → listed[j]? = some true := by
        intro j hj
        rw [← hi.size] at hj
        cases e : listed[j] with
        | true => rw [Array.getElem?_eq_getElem hj, e]
        | false =>
          have : false ∈ listed.toList := by rw [← e]; exact Array.getElem_mem_toList hj
          have := List.count_pos_iff.2 this
          omega
      refine ⟨?_, ?_⟩
      · cases hr : Region.ready .any l.toArray listed with
        | nil => rfl
        | cons x xs =>
          have hx : x ∈ Region.ready .any l.toArray listed := by rw [hr]; simp
          obtain ⟨h1, o, ho, -⟩ := mem_ready.1 hx
          have h2 := getD_false h1
          rw [hall x (by rw [← hi.size]; exact (Array.getElem?_eq_some_iff.1 h2).1)] at h2
          cases h2
      · have hp := putAll_agree l a vs hB l 0 a (fun j => by simp) ⟨rfl, rfl, fun _ _ => rfl, fun j t hj => absurd hj (Nat.not_lt_zero _)⟩
        have hb : Agree l a (fun j => j < 0 + l.length) vs b := by
          refine ⟨hi.agree.defers, hi.agree.size, fun t ht => hi.agree.old t (fun j hj => ht j (by have := (Array.getElem?_eq_some_iff.1 hj).1; rw [hi.size] at this; omega)), fun j t hj => hi.agree.new j t (hall j (by omega))⟩
        rw [hb.unique hp]
        exact hfin vs W hi.bel (fun j hj hjd => hi.holds j (hall j hj) (fun _ => hjd))
    | succ fuel ih =>
      intro listed vs b W hc hi
      refine ⟨fun hr => ?_, fun i hir => ?_⟩
      · exfalso
        have hmem : false ∈ listed.toList := List.count_pos_iff.1 (by omega)
        obtain ⟨k, hk, hke⟩ := List.getElem_of_mem hmem
        have hk' : k < listed.size := by simpa using hk
        have hex : ∃ k, k < listed.size ∧ listed[k]? = some false := ⟨k, hk', by rw [Array.getElem?_eq_getElem hk']; simpa using hke⟩
        obtain ⟨m, ⟨hm1, hm2⟩, hmin⟩ : ∃ m, (m < listed.size ∧ listed[m]? = some false) ∧ ∀ j, j < m → ¬ (j < listed.size ∧ listed[j]? = some false) := by
          obtain ⟨k, hk⟩ := hex
          induction k using Nat.strongRecOn with
          | _ k ihk =>
            by_cases e : ∃ j, j < k ∧ (j < listed.size ∧ listed[j]? = some false)
            · obtain ⟨j, hj, hj2⟩ := e; exact ihk j hj hj2
            · exact ⟨k, hk, fun j hj hj2 => e ⟨j, hj, hj2⟩⟩
        have hml : m < l.length := by rw [← hi.size]; exact hm1
        have : m ∈ Region.ready .any l.toArray listed := by
          refine mem_ready.2 ⟨by rw [Array.getD_eq_getD_getElem?, hm2]; rfl, l[m], by simp [hml], fun e he hb => ?_⟩
          have h1 := backB_at hK (List.getElem?_eq_getElem hml) e he hb
          have h2 := hmin _ h1
          have h3 : e.on < listed.size := by omega
          cases h4 : listed[e.on] with
          | true => rw [Array.getD_eq_getD_getElem?, Array.getElem?_eq_getElem h3, h4]; rfl
          | false => exact absurd ⟨h3, by rw [Array.getElem?_eq_getElem h3, h4]⟩ h2
        rw [hr] at this
        cases this
      · obtain ⟨hun, o, ho, hall⟩ := mem_ready.1 hir
        have hun' := getD_false hun
        have ho' : l[i]? = some o := by simpa using ho
        have hG := hop.at ho'
        rw [Nat.zero_add] at hG
        have hdst : dstAt l i = o.dst := by simp [dstAt, ho']
        have hG' := hG vs W hi.bel (fun j hj hlj => by
          obtain ⟨e, he, rfl⟩ := List.mem_map.1 hj
          rw [List.mem_filter] at he
          refine hi.holds _ (getD_true (hall e (Array.mem_toList_iff.1 he.1) he.2)) (fun hX hjd => ?_)
          cases hli : lateI X E i with
          | true => exact hlj hli hjd
          | false =>
          rcases deadB_at hdead ho' hli (List.mem_map.2 ⟨e, by rw [List.mem_filter]; exact he, rfl⟩) hjd with rfl | h
          · rw [hun'] at hX; cases hX
          · have := hi.closed hX i h
            rw [hun'] at this; cases this)
        obtain ⟨hr1, hr2, hr3⟩ := orderB_at hB ho'
        have hp := putAll_agree l a vs hB l 0 a (fun j => by simp) ⟨rfl, rfl, fun _ _ => rfl, fun j t hj => absurd hj (Nat.not_lt_zero _)⟩
        rw [Nat.zero_add] at hp
        have hsame : ∀ t, t ∈ readsOf l o → b.tmps[t]? = (putAll vs l 0 a).tmps[t]? := fun t ht =>
          eval_agree hi.agree hp (fun j hj => by
            obtain ⟨e, he, hb, rfl⟩ := hr1 j t ht hj
            exact getD_true (hall e he hb))
        have hev : ∀ x ∈ o.op.operands, (putAll vs l 0 a).eval x = b.eval x := by
          intro x hx
          cases x with
          | tmp t =>
            have := hsame t (List.mem_append_left _ (List.mem_filterMap.2 ⟨.tmp t, by simpa using hx, rfl⟩))
            simp only [Act.eval]
            simp only [Array.getD_eq_getD_getElem?, this]
          | _ => rfl
        have hwant : Region.wanted o (yielded l.toArray (putAll vs l 0 a).tmps) = Region.wanted o (yielded l.toArray b.tmps) := by
          unfold Region.wanted
          cases hg : o.guard with
          | none => rfl
          | some gw =>
            obtain ⟨g, want⟩ := gw
            have : yielded l.toArray (putAll vs l 0 a).tmps g = yielded l.toArray b.tmps g := by
              unfold yielded
              have hd : (l.toArray[g]?).bind (·.dst) = dstAt l g := by simp [dstAt]
              rw [hd]
              cases hdd : dstAt l g with
              | none => rfl
              | some d =>
                simp only [Option.bind_some]
                rw [hsame d (List.mem_append_right _ (by rw [hg]; simp [hdd]))]
            simp only [this]
        have hab : ∀ W, o.about Try.prog W (putAll vs l 0 a).eval = o.about Try.prog W b.eval := fun W => about_congr o W hev
        have hex := execOp_congr o hr3 hev
        have hcnt : (listed.setIfInBounds i true).toList.count false = fuel := by have := count_set_false hun'; omega
        have hnext : ∀ v W', Φ i v W' → (if i = X then R W W' else Bel W W') → wpAnyIn F 0 Try.prog .any l.toArray Q fuel (listed.setIfInBounds i true) (b.put o.dst v) W' := by
          intro v W' hv hb
          have hbR : R W W' := by
            by_cases e : i = X
            · rw [if_pos e] at hb; exact hb
            · rw [if_neg e] at hb; exact hR.bel hb
          have hS : ∀ j, ((listed.setIfInBounds i true)[j]? = some true) ↔ (listed[j]? = some true ∨ j = i) := by
            intro j
            rw [Array.getElem?_setIfInBounds]
            by_cases e : i = j
            · subst e
              have := (Array.getElem?_eq_some_iff.1 hun').1
              simp [this]
            · simp [e, Ne.symm e]
          refine ih _ (fun j => if j = i then v else vs j) _ _ hcnt ⟨by rw [Array.size_setIfInBounds]; exact hi.size, ?_, hR.trans hi.bel hbR, ?_, ?_, ?_⟩
          · have h1 := hi.agree.put hB i (by rw [hun']; simp) v
            rw [hdst] at h1
            refine ⟨h1.defers, h1.size, fun t ht => h1.old t (fun j hj => ht j ((hS j).2 hj)), fun j t hj => h1.new j t ((hS j).1 hj)⟩
          · intro j hj hjX
            by_cases e : j = i
            · subst e; rw [if_pos rfl]; exact hv
            · rw [if_neg e]
              have hj' : listed[j]? = some true := ((hS j).1 hj).resolve_right e
              by_cases eX : i = X
              · have hjd : j ∉ D := hjX ((hS X).2 (.inr eX.symm))
                exact hst2 _ _ _ _ hjd (fun hjE => by
                  have := hi.late j hjE hj'
                  rw [← eX, hun'] at this; cases this) (hi.holds j hj' (fun _ => hjd)) hbR
              · rw [if_neg eX] at hb
                exact hst _ _ _ _ (hi.holds j hj' (fun h => hjX ((hS X).2 (.inl h)))) hb
          · intro hX j hj
            rcases (hS X).1 hX with h | h
            · exact (hS j).2 (.inl (hi.closed h j hj))
            · subst h
              refine (hS j).2 (.inl ?_)
              unfold depsAt at hj
              rw [ho'] at hj
              obtain ⟨e, he, rfl⟩ := List.mem_map.1 hj
              rw [List.mem_filter] at he
              exact getD_true (hall e (Array.mem_toList_iff.1 he.1) he.2)
          · intro j hjE hj
            rcases (hS j).1 hj with h | h
            · exact (hS X).2 (.inl (hi.late j hjE h))
            · subst h
              rcases lateB_at hlate hjE with h | ⟨m, h1, h2⟩
              · exact (hS X).2 (.inr h.symm)
              · refine (hS X).2 (.inl (hi.late m h2 ?_))
                unfold depsAt at h1
                rw [ho'] at h1
                obtain ⟨e, he, rfl⟩ := List.mem_map.1 h1
                rw [List.mem_filter] at he
                exact getD_true (hall e (Array.mem_toList_iff.1 he.1) he.2)
        unfold wpOpIn
        simp only [ho]
        simp only [wpListIn] at hG'
        rw [hwant] at hG'
        have hpd : ∀ v, ((putAll vs l 0 a).put o.dst v).tmps.size = a.tmps.size := fun v => (put_size _ _ _).trans hp.size
        have hval : ∀ v, valOf o ((putAll vs l 0 a).put o.dst v) = v ∨ ((putAll vs l 0 a).put o.dst (valOf o ((putAll vs l 0 a).put o.dst v)) = (putAll vs l 0 a).put o.dst v ∧ b.put o.dst (valOf o ((putAll vs l 0 a).put o.dst v)) = b.put o.dst v) := by
          intro v
          cases hd : o.dst with
          | none => right; exact ⟨rfl, rfl⟩
          | some d =>
            by_cases hlt : d < a.tmps.size
            · left
              have := put_get (putAll vs l 0 a) (some d) v d
              rw [if_pos ⟨rfl, by rw [hp.size]; exact hlt⟩] at this
              simp only [valOf, hd, Array.getD_eq_getD_getElem?, this]; rfl
            · right
              have h1 : ∀ (c : Act) u, c.tmps.size = a.tmps.size → c.put (some d) u = c := by
                intro c u hc
                simp only [Act.put]
                rw [Array.setIfInBounds_eq_of_size_le (by rw [hc]; exact Nat.le_of_not_lt hlt)]
              rw [h1 _ _ hp.size, h1 _ _ hp.size, h1 _ _ hi.agree.size, h1 _ _ hi.agree.size]
              exact ⟨rfl, rfl⟩
        have hgo : ∀ v W', (Φ i (valOf o ((putAll vs l 0 a).put o.dst v)) W' ∧ (if i = X then R W W' else Bel W W')) → wpAnyIn F 0 Try.prog .any l.toArray Q fuel (listed.setIfInBounds i true) (b.put o.dst v) W' := by
          rintro v W' ⟨h1, h2⟩
          rcases hval v with h | ⟨-, h⟩
          · rw [h] at h1; exact hnext v W' h1 h2
          · have := hnext _ W' h1 h2
            rw [h] at this; exact this
        by_cases hw : Region.wanted o (yielded l.toArray b.tmps) = true
        · rw [if_pos hw] at hG' ⊢
          unfold Oper.wpIn at hG' ⊢
          rw [Oper.semAt_eq _ _ _ hr2] at hG' ⊢
          rw [hex] at hG'
          refine ⟨fun f hf => hG'.1 f (by rw [hab]; exact hf), ?_⟩
          refine upon_transfer hG'.2 (fun v W' h => hgo v W' ⟨h.2.2.1, h.2.2.2⟩) (fun c W' h => by cases h.1) ?_ ?_
          · rintro ⟨_, _, h1, _⟩
            cases h1
          · rintro d W' ⟨-, h1, -⟩
            have h2 := congrArg Act.defers h1
            rw [put_defers, put_defers] at h2
            have h3 := congrArg List.length h2
            simp at h3
        · rw [if_neg hw] at hG' ⊢
          exact ⟨fun f hf => hG'.1 f (by rw [hab]; exact hf), hgo _ _ ⟨hG'.2.2.2.1, hG'.2.2.2.2⟩⟩
  refine H _ _ (fun _ => undef) _ _ (by simp) ⟨by simp, ⟨rfl, rfl, fun _ _ => rfl, fun j t hj => ?_⟩, hR.bel (Bel.refl w).drew, fun j hj _ => ?_, fun hj => ?_, fun j _ hj => ?_⟩
  · rw [Array.getElem?_replicate] at hj; split at hj <;> cases hj
  · rw [Array.getElem?_replicate] at hj; split at hj <;> cases hj
  · rw [Array.getElem?_replicate] at hj; split at hj <;> cases hj
  · rw [Array.getElem?_replicate] at hj; split at hj <;> cases hj

def GrowOpXF (R : World → World → Prop) (X : Nat) (D E : List Nat) (F : Fence) (l : List Oper) (Fr : (Nat → Value) → Act) (w : World) (Φ : Nat → Value → World → Prop) (o : Oper) (i : Nat) : Prop :=
  ∀ vs W, R w W → (∀ j ∈ (o.after.toList.filter (Region.binds .any)).map (·.on), (lateI X E i = true → j ∉ D) → Φ j (vs j) W) →
    wpListIn F 0 Try.prog l.toArray (fun e b W' => e = .normal ∧ b = (Fr vs).put o.dst (valOf o b) ∧ Φ i (valOf o b) W' ∧ (if i = X then R W W' else Bel W W')) [o] (Fr vs) W
def GrowOpsXF (R : World → World → Prop) (X : Nat) (D E : List Nat) (F : Fence) (l : List Oper) (Fr : (Nat → Value) → Act) (w : World) (Φ : Nat → Value → World → Prop) : List Oper → Nat → Prop
  | [], _ => True
  | o :: m, i => GrowOpXF R X D E F l Fr w Φ o i ∧ GrowOpsXF R X D E F l Fr w Φ m (i + 1)
structure GrowKX (G : World → World → Prop) (Fr : (Nat → Value) → Act) (Φ : Nat → Value → World → Prop) (o : Oper) (i : Nat) (vs : Nat → Value) (W : World) (K : Exit → Act → World → Prop) : Prop where
  out : ∀ b W', b = (Fr vs).put o.dst (valOf o b) → Φ i (valOf o b) W' → G W W' → K .normal b W'
theorem growOpXF_k {R : World → World → Prop} {X : Nat} {D E : List Nat} {F : Fence} {l : List Oper} {Fr : (Nat → Value) → Act} {w : World} {Φ : Nat → Value → World → Prop} {o : Oper} {i : Nat} (hi : i ≠ X)
    (h : ∀ vs W, R w W → (∀ j ∈ (o.after.toList.filter (Region.binds .any)).map (·.on), (lateI X E i = true → j ∉ D) → Φ j (vs j) W) →
      ∀ K : Exit → Act → World → Prop, GrowKX Bel Fr Φ o i vs W K → wpListIn F 0 Try.prog l.toArray K [o] (Fr vs) W) : GrowOpXF R X D E F l Fr w Φ o i :=
  fun vs W hb hd => h vs W hb hd _ ⟨fun _ _ h1 h2 h3 => ⟨rfl, h1, h2, by rw [if_neg hi]; exact h3⟩⟩
theorem growOpXF_x {R : World → World → Prop} {X : Nat} {D E : List Nat} {F : Fence} {l : List Oper} {Fr : (Nat → Value) → Act} {w : World} {Φ : Nat → Value → World → Prop} {o : Oper} {i : Nat} (hi : i = X)
    (h : ∀ vs W, R w W → (∀ j ∈ (o.after.toList.filter (Region.binds .any)).map (·.on), (lateI X E i = true → j ∉ D) → Φ j (vs j) W) →
      ∀ K : Exit → Act → World → Prop, GrowKX R Fr Φ o i vs W K → wpListIn F 0 Try.prog l.toArray K [o] (Fr vs) W) : GrowOpXF R X D E F l Fr w Φ o i :=
  fun vs W hb hd => h vs W hb hd _ ⟨fun _ _ h1 h2 h3 => ⟨rfl, h1, h2, by rw [if_pos hi]; exact h3⟩⟩
theorem growOpsX_frame {R : World → World → Prop} {X : Nat} {D E : List Nat} {F : Fence} {l : List Oper} {a : Act} {w : World} {Φ : Nat → Value → World → Prop} {Fr : (Nat → Value) → Act} (hF : ∀ vs, putAll vs l 0 a = Fr vs) : ∀ (m : List Oper) (i : Nat), GrowOpsXF R X D E F l Fr w Φ m i → GrowOpsX R X D E F l a w Φ m i
  | [], _, _ => trivial
  | o :: m, i, h => ⟨fun vs W hb hd => by
      rw [hF vs]
      exact h.1 vs W hb hd, growOpsX_frame hF m (i + 1) h.2⟩
theorem region_growXF {R : World → World → Prop} (hR : RelW R) (X : Nat) (D E : List Nat) {F : Fence} {l : List Oper} {id : Nat} {Q : Exit → Act → World → Prop} {a : Act} {w : World} (Φ : Nat → Value → World → Prop) (Fr : (Nat → Value) → Act)
    (hF : ∀ vs, putAll vs l 0 a = Fr vs)
    (hm : Try.prog.follows .mixedOrders = true) (hB : orderB l = true) (hK : backB l = true) (hdead : deadB l X D E = true) (hlate : lateB l X E = true)
    (hst : ∀ i v W W', Φ i v W → Bel W W' → Φ i v W') (hst2 : ∀ i v W W', i ∉ D → i ∉ E → Φ i v W → R W W' → Φ i v W')
    (hop : GrowOpsXF R X D E F l Fr w Φ l 0)
    (hfin : ∀ vs W, R w W → (∀ j, j < l.length → j ∉ D → Φ j (vs j) W) → Q .normal (Fr vs) W) : (Code.region id l.toArray true).wpIn F 0 Try.prog Q a w :=
  region_growX hR X D E Φ hm hB hK hdead hlate hst hst2 (growOpsX_frame hF l 0 hop) (fun vs W h1 h2 => by rw [hF vs]; exact hfin vs W h1 h2)
end Go.Proofs.Ytpkadofgmhninaa
