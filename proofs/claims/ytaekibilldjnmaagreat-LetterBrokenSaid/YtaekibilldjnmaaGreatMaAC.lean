/- A region in any order, some of whose operations turn objects that the others do not look at, or make new ones. A range over a function: the statement, and a round of it. Maps. A row that grows by appends: what it is after each; loops that lay one. A region in any order that ends with a new variable and what is stored in it. A region of which the first operations come in any order, and each of the others waits for all before it. What a sequence may do: it yields its items, one after another, until one is refused. -/
import Derived.Test.YtaekibilldjnmaaGreatMaAB
import Derived.DeepKeys3
set_option linter.unusedVariables false
set_option linter.unusedSimpArgs false
set_option linter.unusedSectionVars false
namespace Go.Proofs.YtaekibilldjnmaaGreat
variable {P : Program} {H : Hp}

def upd (b : Nat → Bool) (i : Nat) : Nat → Bool := fun j => if j = i then true else b j
def bindsOn (o : Oper) : List Nat := (o.after.toList.filter (Region.binds .any)).map (·.on)
/-- What is known when an operation is carried out: the objects are those of the operations that have been. -/
structure Good (ops : Array Oper) (H : Hp) (isn : Nat → Bool) (o : Oper) (i : Nat) (ids : Nat → Nat) (b : Nat → Bool) : Prop where
  fresh : ∀ j, H (ids j) = none
  inj : ∀ j k, isn j = true → isn k = true → j ≠ k → ids j ≠ ids k
  done : ∀ j ∈ bindsOn o, b j = true
  not : b i = false
  wait : ∀ (k : Nat) (o' : Oper), ops[k]? = some o' → i ∈ bindsOn o' → b k = false

def LexB (P : Program) (N : Nat) (ops : Array Oper) (H : Hp) (isn : Nat → Bool) (Hs : (Nat → Nat) → (Nat → Bool) → Hp) (Q : (Nat → Nat) → Fr → Prop) : Nat → List Oper → ((Nat → Nat) → Fr) → Prop
  | _, [], fr => ∀ ids, (∀ j, H (ids j) = none) → (∀ j k, isn j = true → isn k = true → j ≠ k → ids j ≠ ids k) → Q ids (fr ids)
  | i, o :: l, fr => (o.dst.all (· < N)) = true ∧ Oper.calm o = true ∧
    (((∀ ids, guardOf ops (fr ids) o = some true) ∧ ∃ x, (∀ ids b, Good ops H isn o i ids b → OpW P o (fr ids).ev (Hs ids b) (fun x' H' => x' = x ∧ H' = Hs ids (upd b i))) ∧ LexB P N ops H isn Hs Q (i + 1) l (fun ids => (fr ids).put o.dst x)) ∨
     ((∀ ids, guardOf ops (fr ids) o = some false) ∧ (∀ ids b, Good ops H isn o i ids b → Hs ids (upd b i) = Hs ids b) ∧ LexB P N ops H isn Hs Q (i + 1) l (fun ids => (fr ids).put o.dst (.tup []))) ∨
     (isn i = true ∧ (∀ ids, guardOf ops (fr ids) o = some true) ∧ ∃ (X : Nat → AV) (ob : Ob), (∀ ids b, Good ops H isn o i ids b → OpW P o (fr ids).ev (Hs ids b) (fun x' H' => ∃ id, (Hs ids b) id = none ∧ x' = X id ∧ H' = (Hs ids b).set id (some ob))) ∧
       (∀ ids b, Good ops H isn o i ids b → (Hs ids b) (ids i) = none → Hs ids (upd b i) = (Hs ids b).set (ids i) (some ob)) ∧ LexB P N ops H isn Hs Q (i + 1) l (fun ids => (fr ids).put o.dst (X (ids i)))))

def valsK (ids : Nat → Nat) : Nat → List (Nat → AV) → List AV
  | _, [] => []
  | j, k :: ks => k (ids j) :: valsK ids (j + 1) ks
theorem valsK_length (ids : Nat → Nat) : ∀ (ks : List (Nat → AV)) (j : Nat), (valsK ids j ks).length = ks.length
  | [], _ => rfl
  | _ :: ks, j => by simp [valsK, valsK_length ids ks]
theorem valsK_get (ids : Nat → Nat) : ∀ (ks : List (Nat → AV)) (s j : Nat), (valsK ids s ks)[j]? = (ks[j]?).map fun k => k (ids (s + j))
  | [], _, _ => by simp [valsK]
  | k :: ks, s, 0 => by simp [valsK]
  | k :: ks, s, j + 1 => by simp only [valsK, List.getElem?_cons_succ]; rw [valsK_get ids ks, show s + 1 + j = s + (j + 1) by omega]

structure LexBAt (P : Program) (N : Nat) (ops : Array Oper) (H : Hp) (isn : Nat → Bool) (Hs : (Nat → Nat) → (Nat → Bool) → Hp) (i : Nat) (o : Oper) (fr : (Nat → Nat) → Fr) (k : Nat → AV) : Prop where
  lt : (o.dst.all (· < N)) = true
  calm : Oper.calm o = true
  does : ((∀ ids, guardOf ops (fr ids) o = some true) ∧ ∃ x, (k = fun _ => x) ∧ ∀ ids b, Good ops H isn o i ids b → OpW P o (fr ids).ev (Hs ids b) (fun x' H' => x' = x ∧ H' = Hs ids (upd b i))) ∨
    ((∀ ids, guardOf ops (fr ids) o = some false) ∧ (k = fun _ => .tup []) ∧ ∀ ids b, Good ops H isn o i ids b → Hs ids (upd b i) = Hs ids b) ∨
    (isn i = true ∧ (∀ ids, guardOf ops (fr ids) o = some true) ∧ ∃ (ob : Ob), (∀ ids b, Good ops H isn o i ids b → OpW P o (fr ids).ev (Hs ids b) (fun x' H' => ∃ id, (Hs ids b) id = none ∧ x' = k id ∧ H' = (Hs ids b).set id (some ob))) ∧
      ∀ ids b, Good ops H isn o i ids b → (Hs ids b) (ids i) = none → Hs ids (upd b i) = (Hs ids b).set (ids i) (some ob))

theorem LexB.out {N : Nat} {ops : Array Oper} {isn : Nat → Bool} {Hs : (Nat → Nat) → (Nat → Bool) → Hp} {Q : (Nat → Nat) → Fr → Prop} : ∀ (l : List Oper) (s : Nat) (fr : (Nat → Nat) → Fr), LexB P N ops H isn Hs Q s l fr → ∃ ks : List (Nat → AV), ks.length = l.length ∧
    (∀ ids, (∀ j, H (ids j) = none) → (∀ j k, isn j = true → isn k = true → j ≠ k → ids j ≠ ids k) → Q ids (putsA l (valsK ids s ks) (fr ids))) ∧
    ∀ (i : Nat) (o : Oper) (k : Nat → AV), l[i]? = some o → ks[i]? = some k → LexBAt P N ops H isn Hs (s + i) o (fun ids => putsA (l.take i) ((valsK ids s ks).take i) (fr ids)) k
  | [], s, fr, h => ⟨[], rfl, h, fun i o x h => by simp at h⟩
  | o :: l, s, fr, ⟨hN, hc, h⟩ => by
    rcases h with ⟨hg, x, hx, h⟩ | ⟨hg, hn, h⟩ | ⟨hisn, hg, X, ob, hop, hn, h⟩
    · obtain ⟨ks, h1, h2, h3⟩ := LexB.out l _ _ h
      refine ⟨(fun _ => x) :: ks, by simp [h1], h2, fun i o' y ho hy => ?_⟩
      cases i with
      | zero =>
        simp only [List.getElem?_cons_zero, Option.some.injEq] at ho hy
        subst ho hy
        exact ⟨hN, hc, .inl ⟨hg, x, rfl, hx⟩⟩
      | succ i => rw [show s + (i + 1) = s + 1 + i by omega]; exact h3 i o' y (by simpa using ho) (by simpa using hy)
    · obtain ⟨ks, h1, h2, h3⟩ := LexB.out l _ _ h
      refine ⟨(fun _ => .tup []) :: ks, by simp [h1], h2, fun i o' y ho hy => ?_⟩
      cases i with
      | zero =>
        simp only [List.getElem?_cons_zero, Option.some.injEq] at ho hy
        subst ho hy
        exact ⟨hN, hc, .inr (.inl ⟨hg, rfl, hn⟩)⟩
      | succ i => rw [show s + (i + 1) = s + 1 + i by omega]; exact h3 i o' y (by simpa using ho) (by simpa using hy)
    · obtain ⟨ks, h1, h2, h3⟩ := LexB.out l _ _ h
      refine ⟨X :: ks, by simp [h1], h2, fun i o' y ho hy => ?_⟩
      cases i with
      | zero =>
        simp only [List.getElem?_cons_zero, Option.some.injEq] at ho hy
        subst ho hy
        exact ⟨hN, hc, .inr (.inr ⟨hisn, hg, ob, hop, hn⟩)⟩
      | succ i => rw [show s + (i + 1) = s + 1 + i by omega]; exact h3 i o' y (by simpa using ho) (by simpa using hy)

def bOf (listed : Array Bool) : Nat → Bool := fun j => listed.getD j false

structure BInv (l : List Oper) (N : Nat) (ks : List (Nat → AV)) (fr : Fr) (ρ0 : Own) (W0 : World) (H : Hp) (isn : Nat → Bool) (Hs : (Nat → Nat) → (Nat → Bool) → Hp) (ds : List Deferred) (listed : Array Bool) (b : Act) (W : World) : Prop where
  size : listed.size = l.length
  tmps : b.tmps.size = N
  defs : b.defers = ds
  closed : ∀ (k : Nat) (o : Oper), l[k]? = some o → listed[k]? = some true → ∀ j ∈ bindsOn o, listed[j]? = some true
  st : ∃ ρ ids, Ext ρ0 W0 ρ W ∧ ((∀ j, H (ids j) = none) ∧ ∀ j k, isn j = true → isn k = true → j ≠ k → ids j ≠ ids k) ∧ HD ρ W (Hs ids (bOf listed)) ∧ (∀ t x, fr.get t = some x → (∀ j, dstAt l j = some t → listed[j]? ≠ some true) → ∃ v, b.tmps[t]? = some v ∧ Den ρ W x v) ∧
    (∀ j x d, listed[j]? = some true → (valsK ids 0 ks)[j]? = some x → dstAt l j = some d → ∃ v, b.tmps[d]? = some v ∧ Den ρ W x v)

theorem WpV.regionB {r : Option Nat} {N id : Nat} {l : List Oper} {Q : Exit → Fr → List Nat → Hp → Prop} {fr : Fr} {D : List Nat} (hm : P.follows .mixedOrders = true) (hB : orderB l = true) (hK : backB l = true)
    (isn : Nat → Bool) (Hs : (Nat → Nat) → (Nat → Bool) → Hp) (hH0 : ∀ ids, Hs ids (fun _ => false) = H) (hind : ∀ ids ids' b, (∀ j, isn j = true → b j = true → ids j = ids' j) → Hs ids b = Hs ids' b) (hmade : ∀ ids b j, isn j = true → b j = true → Hs ids b (ids j) ≠ none) (hmono : ∀ ids b id, (∀ j, H (ids j) = none) → Hs ids b id = none → H id = none)
    (h : LexB P N l.toArray H isn Hs (fun ids fr' => Marks D (Hs ids (fun j => decide (j < l.length))) ∧ Q .normal fr' D (Hs ids (fun j => decide (j < l.length)))) 0 l (fun _ => fr)) : WpV P r N (.region id l.toArray true) Q fr D H := by
  intro r ρ0 W0 a hr0 hs0 hf0 hd0
  obtain ⟨ks, hkl, hQ, hat⟩ := LexB.out l 0 _ h
  refine wpIn_region_any hm ?_
  have inv : ∀ (fuel : Nat) (listed : Array Bool) (b : Act) (W : World), listed.toList.count false = fuel → BInv l N ks fr ρ0 W0 H isn Hs a.defers listed b W →
      wpAnyIn (Fw r) 0 P .any l.toArray (fun e a' W' => ∃ ρ' fr' D' H', Ext ρ0 W0 ρ' W' ∧ Sim N fr' ρ' W' a' ∧ Defs ρ' D' a'.defers ∧ HD ρ' W' H' ∧ Q e fr' D' H') fuel listed b W := by
    intro fuel
    induction fuel with
    | zero =>
      intro listed b W hc hi
      have hall : ∀ j, j < l.length → listed[j]? = some true := by
        intro j hj
        rw [← hi.size] at hj
        cases e : listed[j] with
        | true => rw [Array.getElem?_eq_getElem hj, e]
        | false =>
          have : false ∈ listed.toList := by rw [← e]; exact Array.getElem_mem_toList hj
          have := List.count_pos_iff.2 this
          omega
      refine ⟨?_, ?_⟩
      · cases hr : Region.ready .any l.toArray listed with
        | nil => rfl
        | cons x xs =>
          have hx : x ∈ Region.ready .any l.toArray listed := by rw [hr]; simp
          obtain ⟨h1, o, ho, -⟩ := mem_ready.1 hx
          have h2 := getD_false h1
          rw [hall x (by rw [← hi.size]; exact (Array.getElem?_eq_some_iff.1 h2).1)] at h2
          cases h2
      · obtain ⟨ρ, ids, q, hfr, hd, hold, hnew⟩ := hi.st
        have hbo : bOf listed = fun j => decide (j < l.length) := by
          funext j
          by_cases hj : j < l.length
          · simp only [bOf, Array.getD_eq_getD_getElem?, hall j hj, Option.getD_some, hj, decide_true]
          · simp only [bOf, Array.getD_eq_getD_getElem?, hj, decide_false]
            rw [Array.getElem?_eq_none (by rw [hi.size]; omega)]; rfl
        rw [hbo] at hd
        obtain ⟨hmk, hq⟩ := hQ ids hfr.1 hfr.2
        refine ⟨ρ, _, D, _, q, ⟨hi.tmps, fun t x hx => ?_⟩, by rw [hi.defs]; exact Defs.of_marks q hd hmk hf0, hd, hq⟩
        by_cases e : ∃ j, dstAt l j = some t
        · obtain ⟨j, hj⟩ := e
          have hjl : j < l.length := by
            by_cases e : j < l.length
            · exact e
            · simp [dstAt, List.getElem?_eq_none (Nat.le_of_not_lt e)] at hj
          have hvl : j < (valsK ids 0 ks).length := by rw [valsK_length]; omega
          have hxj : (valsK ids 0 ks)[j]? = some (valsK ids 0 ks)[j] := List.getElem?_eq_getElem hvl
          rw [putsA_new l (valsK ids 0 ks) fr t j _ hj (fun k hk => orderB_dst hB hk hj) hxj] at hx
          cases hx
          exact hnew j _ t (hall j hjl) hxj hj
        · have e' : ∀ j, dstAt l j ≠ some t := fun j hj => e ⟨j, hj⟩
          rw [putsA_old l (valsK ids 0 ks) fr t e'] at hx
          exact hold t x hx (fun j hj => absurd hj (e' j))
    | succ fuel ih =>
      intro listed b W hc hi
      refine ⟨fun hr => ?_, fun i hir => ?_⟩
      · exfalso
        have hmem : false ∈ listed.toList := List.count_pos_iff.1 (by omega)
        obtain ⟨k, hk, hke⟩ := List.getElem_of_mem hmem
        have hk' : k < listed.size := by simpa using hk
        have hex : ∃ k, k < listed.size ∧ listed[k]? = some false := ⟨k, hk', by rw [Array.getElem?_eq_getElem hk']; simpa using hke⟩
        obtain ⟨m, ⟨hm1, hm2⟩, hmin⟩ : ∃ m, (m < listed.size ∧ listed[m]? = some false) ∧ ∀ j, j < m → ¬ (j < listed.size ∧ listed[j]? = some false) := by
          obtain ⟨k, hk⟩ := hex
          induction k using Nat.strongRecOn with
          | _ k ihk =>
            by_cases e : ∃ j, j < k ∧ (j < listed.size ∧ listed[j]? = some false)
            · obtain ⟨j, hj, hj2⟩ := e; exact ihk j hj hj2
            · exact ⟨k, hk, fun j hj hj2 => e ⟨j, hj, hj2⟩⟩
        have hml : m < l.length := by rw [← hi.size]; exact hm1
        have : m ∈ Region.ready .any l.toArray listed := by
          refine mem_ready.2 ⟨by rw [Array.getD_eq_getD_getElem?, hm2]; rfl, l[m], by simp [hml], fun e he hb => ?_⟩
          have h1 := backB_at hK (List.getElem?_eq_getElem hml) e he hb
          have h2 := hmin _ h1
          have h3 : e.on < listed.size := by omega
          cases h4 : listed[e.on] with
          | true => rw [Array.getD_eq_getD_getElem?, Array.getElem?_eq_getElem h3, h4]; rfl
          | false => exact absurd ⟨h3, by rw [Array.getElem?_eq_getElem h3, h4]⟩ h2
        rw [hr] at this
        cases this
      · obtain ⟨hun, o, ho, hall⟩ := mem_ready.1 hir
        have hun' := getD_false hun
        have ho' : l[i]? = some o := by simpa using ho
        have hil : i < l.length := (List.getElem?_eq_some_iff.1 ho').1
        have hki : ks[i]? = some ks[i] := List.getElem?_eq_getElem (by omega)
        have hA := hat i o _ ho' hki
        rw [Nat.zero_add] at hA
        obtain ⟨hr1, hr2, hr3⟩ := orderB_at hB ho'
        obtain ⟨ρ, ids, q, hfr, hd, hold, hnew⟩ := hi.st
        have slot : ∀ t, t ∈ readsOf l o → ∀ z, (putsA (l.take i) ((valsK ids 0 ks).take i) fr).get t = some z → ∃ v, b.tmps[t]? = some v ∧ Den ρ W z v := by
          intro t ht z hz
          by_cases e : ∃ j, dstAt l j = some t
          · obtain ⟨j, hj⟩ := e
            obtain ⟨e, he, hb, rfl⟩ := hr1 j t ht hj
            have hlt := backB_at hK ho' e he hb
            have hlis := getD_true (hall e he hb)
            have hvl : e.on < (valsK ids 0 ks).length := by rw [valsK_length]; omega
            have hxj : (valsK ids 0 ks)[e.on]? = some (valsK ids 0 ks)[e.on] := List.getElem?_eq_getElem hvl
            rw [putsA_new (l.take i) ((valsK ids 0 ks).take i) fr t e.on _ (by rw [dstAt_take, if_pos hlt]; exact hj) (fun k hk => by
              rw [dstAt_take] at hk; split at hk
              · exact orderB_dst hB hk hj
              · cases hk) (by rw [List.getElem?_take, if_pos hlt]; exact hxj)] at hz
            cases hz
            exact hnew _ _ t hlis hxj hj
          · have e' : ∀ j, dstAt l j ≠ some t := fun j hj => e ⟨j, hj⟩
            rw [putsA_old (l.take i) ((valsK ids 0 ks).take i) fr t (fun j hj => by
              rw [dstAt_take] at hj; split at hj
              · exact e' j hj
              · cases hj)] at hz
            exact hold t z hz (fun j hj => absurd hj (e' j))
        have hcnt : (listed.setIfInBounds i true).toList.count false = fuel := by have := count_set_false hun'; omega
        have hS : ∀ j, ((listed.setIfInBounds i true)[j]? = some true) ↔ (listed[j]? = some true ∨ j = i) := by
          intro j
          rw [Array.getElem?_setIfInBounds]
          by_cases e : i = j
          · subst e
            have := (Array.getElem?_eq_some_iff.1 hun').1
            simp [this]
          · simp [e, Ne.symm e]
        have hbS : bOf (listed.setIfInBounds i true) = upd (bOf listed) i := by
          funext j
          simp only [bOf, upd, Array.getD_eq_getD_getElem?]
          by_cases e : j = i
          · subst e
            have := (hS j).2 (.inr rfl)
            rw [this, if_pos rfl]; rfl
          · rw [if_neg e, Array.getElem?_setIfInBounds_ne (Ne.symm e)]
        have hgood : ∀ ids', ((∀ j, H (ids' j) = none) ∧ ∀ j k, isn j = true → isn k = true → j ≠ k → ids' j ≠ ids' k) → Good l.toArray H isn o i ids' (bOf listed) := fun ids' hf => ⟨hf.1, hf.2, fun j hj => by
          obtain ⟨e, he, rfl⟩ := List.mem_map.1 hj
          rw [List.mem_filter] at he
          have := getD_true (hall e (Array.mem_toList_iff.1 he.1) he.2)
          simp only [bOf, Array.getD_eq_getD_getElem?, this]; rfl, by
          simp only [bOf, Array.getD_eq_getD_getElem?, hun']; rfl, fun k o' hk hi' => by
          cases e : bOf listed k with
          | false => rfl
          | true =>
            exfalso
            have hlk : listed[k]? = some true := getD_true e
            have := hi.closed k o' (by simpa using hk) hlk i hi'
            rw [hun'] at this; cases this⟩
        have hdst : dstAt l i = o.dst := by simp [dstAt, ho']
        have hnext : ∀ v W' ρ' ids', Ext ρ W ρ' W' → ((∀ j, H (ids' j) = none) ∧ ∀ j k, isn j = true → isn k = true → j ≠ k → ids' j ≠ ids' k) → (∀ j, listed[j]? = some true → ids' j = ids j) → HD ρ' W' (Hs ids' (upd (bOf listed) i)) → (∀ x, (valsK ids' 0 ks)[i]? = some x → Den ρ' W' x v) →
            wpAnyIn (Fw r) 0 P .any l.toArray (fun e a' W' => ∃ ρ' fr' D' H', Ext ρ0 W0 ρ' W' ∧ Sim N fr' ρ' W' a' ∧ Defs ρ' D' a'.defers ∧ HD ρ' W' H' ∧ Q e fr' D' H') fuel (listed.setIfInBounds i true) (b.put o.dst v) W' := by
          intro v W' ρ' ids' q' hf' hids hd' hv
          refine ih _ _ _ hcnt ⟨by rw [Array.size_setIfInBounds]; exact hi.size, ?_, ?_, fun k o' hk hlk j hj => ?_, ρ', ids', q.trans hd0.live q', hf', by rw [hbS]; exact hd', ?_, ?_⟩
          · cases o.dst <;> simp [Act.put, hi.tmps]
          · rw [put_defs]; exact hi.defs
          · refine (hS j).2 (.inl ?_)
            rcases (hS k).1 hlk with hlk | rfl
            · exact hi.closed k o' hk hlk j hj
            · rw [ho'] at hk; cases hk
              obtain ⟨e, he, rfl⟩ := List.mem_map.1 hj
              rw [List.mem_filter] at he
              exact getD_true (hall e (Array.mem_toList_iff.1 he.1) he.2)
          · intro t x hx hno
            have hne : o.dst ≠ some t := fun e => hno i (by rw [hdst, e]) ((hS i).2 (.inr rfl))
            obtain ⟨u, hu, hdu⟩ := hold t x hx (fun j hj hl => hno j hj ((hS j).2 (.inl hl)))
            refine ⟨u, ?_, Den.ext q' hd.live _ _ hdu⟩
            cases hd2 : o.dst with
            | none => simpa [Act.put] using hu
            | some d =>
              simp only [Act.put]
              rw [Array.getElem?_setIfInBounds_ne (fun e => hne (by rw [hd2, e]))]
              exact hu
          · intro j x d hj hx hjd
            by_cases e : j = i
            · subst e
              rw [hdst] at hjd
              have hlt : d < N := by have := hA.lt; rw [hjd] at this; simpa using this
              exact ⟨v, by simp [hjd, Act.put, hi.tmps, hlt], hv x hx⟩
            · have hl := ((hS j).1 hj).resolve_right e
              have hx' : (valsK ids 0 ks)[j]? = some x := by
                rw [valsK_get] at hx ⊢
                rw [Nat.zero_add] at hx ⊢
                rw [hids j hl] at hx; exact hx
              obtain ⟨u, hu, hdu⟩ := hnew j x d hl hx' hjd
              refine ⟨u, ?_, Den.ext q' hd.live _ _ hdu⟩
              cases hd2 : o.dst with
              | none => simpa [Act.put] using hu
              | some d' =>
                simp only [Act.put]
                rw [Array.getElem?_setIfInBounds_ne (fun e' => e (orderB_dst hB hjd (by rw [hdst, hd2, e'])))]
                exact hu
        have hguard : ∀ g, guardOf l.toArray (putsA (l.take i) ((valsK ids 0 ks).take i) fr) o = some g → Region.wanted o (yielded l.toArray b.tmps) = g := by
          intro g hg
          unfold guardOf at hg
          unfold Region.wanted
          cases hgo : o.guard with
          | none => rw [hgo] at hg; simpa using hg
          | some gw =>
            obtain ⟨j, want⟩ := gw
            rw [hgo] at hg
            simp only at hg ⊢
            split at hg
            · rename_i c hc2
              cases hg
              obtain ⟨d, hd2, hx⟩ := Option.bind_eq_some_iff.1 hc2
              have hdj : dstAt l j = some d := by simpa [dstAt] using hd2
              obtain ⟨v, hv, hden⟩ := slot d (List.mem_append_right _ (by rw [hgo]; simp [hdj])) _ hx
              rw [Den] at hden
              subst hden
              unfold yielded
              rw [hd2, Option.bind_some, hv]
              cases c <;> cases want <;> rfl
            · rename_i hc2
              cases hg
              obtain ⟨d, hd2, hx⟩ := Option.bind_eq_some_iff.1 hc2
              have hdj : dstAt l j = some d := by simpa [dstAt] using hd2
              obtain ⟨v, hv, hden⟩ := slot d (List.mem_append_right _ (by rw [hgo]; simp [hdj])) _ hx
              have := wanted_undef hgo hd2 hv hden
              unfold Region.wanted at this
              rw [hgo] at this
              exact this
            · cases hg
        have heval : ∀ y ∈ o.op.operands, ∀ z, (putsA (l.take i) ((valsK ids 0 ks).take i) fr).ev y = some z → Den ρ W z (b.eval y) := by
          intro y hy z hz
          cases y with
          | tmp t =>
            obtain ⟨v, hv, hden⟩ := slot t (List.mem_append_left _ (List.mem_filterMap.2 ⟨.tmp t, by simpa using hy, rfl⟩)) z hz
            simp only [Act.eval, Array.getD_eq_getD_getElem?, hv, Option.getD_some]
            exact hden
          | const v => exact AV.ofV_den hz
          | global g => cases hz
          | func f =>
            simp only [Fr.ev, Option.some.injEq] at hz
            subst hz
            rw [Den]
            exact ⟨#[], #[], rfl, rfl, rfl, by rw [DenL]; trivial, by rw [DenL]; trivial⟩
        unfold wpOpIn
        simp only [ho]
        rcases hA.does with ⟨hg, x, hkx, hop⟩ | ⟨hg, hany, hsame⟩ | ⟨hisn, hg, ob, hop, hset⟩
        · rw [hguard _ (hg ids), if_pos rfl]
          refine Runs.wpIn hA.calm ((hop ids _ (hgood ids hfr)).runs ρ W b.eval heval hd) ?_
          rintro v W' ⟨ρ', x', H', q', hv, hd', rfl, rfl⟩
          refine hnext v W' ρ' ids q' hfr (fun _ _ => rfl) hd' (fun y hy => ?_)
          rw [valsK_get, hki, Option.map_some, hkx] at hy
          cases hy
          exact hv
        · rw [hguard _ (hg ids)]
          refine ⟨fun _ _ => trivial, hnext _ _ ρ ids hd.refl hfr (fun _ _ => rfl) (by rw [hsame ids _ (hgood ids hfr)]; exact hd) (fun y hy => ?_)⟩
          rw [valsK_get, hki, Option.map_some, hany] at hy
          cases hy
          exact Den.undef
        · rw [hguard _ (hg ids), if_pos rfl]
          refine Runs.wpIn hA.calm ((hop ids _ (hgood ids hfr)).runs ρ W b.eval heval hd) ?_
          rintro v W' ⟨ρ', x', H', q', hv, hd', id, hidn, rfl, rfl⟩
          have hne : ∀ j, listed[j]? = some true → j ≠ i := fun j hj e => by rw [e, hun'] at hj; cases hj
          obtain ⟨M, hM0, hM1, hM2⟩ : ∃ M, ρ0.nx ≤ M ∧ id < M ∧ ∀ j, j < l.length → ids j < M := by
            have hsum : ∀ n, ∃ M, ∀ j, j < n → ids j < M := by
              intro n
              induction n with
              | zero => exact ⟨0, fun j hj => absurd hj (Nat.not_lt_zero _)⟩
              | succ n ih =>
                obtain ⟨M, hM⟩ := ih
                refine ⟨M + ids n + 1, fun j hj => ?_⟩
                by_cases e : j = n
                · subst e; omega
                · have := hM j (by omega); omega
            obtain ⟨M, hM⟩ := hsum l.length
            exact ⟨M + ρ0.nx + id + 1, by omega, by omega, fun j hj => by have := hM j hj; omega⟩
          have hll : ∀ j, listed[j]? = some true → j < l.length := fun j hj => by rw [← hi.size]; exact (Array.getElem?_eq_some_iff.1 hj).1
          obtain ⟨ids', hi1, hi2, hi3⟩ : ∃ ids' : Nat → Nat, ids' i = id ∧ (∀ j, j ≠ i → listed[j]? = some true → ids' j = ids j) ∧ (∀ j, j ≠ i → ¬ listed[j]? = some true → ids' j = M + j) :=
            ⟨fun j => if j = i then id else if listed[j]? = some true then ids j else M + j, by simp, fun j h1 h2 => by simp [h1, h2], fun j h1 h2 => by simp [h1, h2]⟩
          have hmd : ∀ j, isn j = true → listed[j]? = some true → ids j ≠ id := by
            intro j hj hl e
            have hb : bOf listed j = true := by simp [bOf, Array.getD_eq_getD_getElem?, hl]
            exact hmade ids (bOf listed) j hj hb (by rw [e]; exact hidn)
          have hfr' : (∀ j, H (ids' j) = none) ∧ ∀ j k, isn j = true → isn k = true → j ≠ k → ids' j ≠ ids' k := by
            refine ⟨fun j => ?_, fun j k hj hk hjk => ?_⟩
            · by_cases e : j = i
              · rw [e, hi1]; exact hmono _ _ _ hfr.1 hidn
              · by_cases e2 : listed[j]? = some true
                · rw [hi2 j e e2]; exact hfr.1 j
                · rw [hi3 j e e2]; exact hd0.fresh (by omega)
            · by_cases e : j = i
              · have ek : k ≠ i := fun e' => hjk (by rw [e, e'])
                rw [e, hi1]
                by_cases e2 : listed[k]? = some true
                · rw [hi2 k ek e2]; exact fun e' => hmd k hk e2 e'.symm
                · rw [hi3 k ek e2]; omega
              · by_cases e1 : listed[j]? = some true
                · rw [hi2 j e e1]
                  have hjM := hM2 j (hll j e1)
                  by_cases ek : k = i
                  · rw [ek, hi1]; exact hmd j hj e1
                  · by_cases e2 : listed[k]? = some true
                    · rw [hi2 k ek e2]; exact hfr.2 j k hj hk hjk
                    · rw [hi3 k ek e2]; omega
                · rw [hi3 j e e1]
                  by_cases ek : k = i
                  · rw [ek, hi1]; omega
                  · by_cases e2 : listed[k]? = some true
                    · rw [hi2 k ek e2]; have := hM2 k (hll k e2); omega
                    · rw [hi3 k ek e2]; omega
          refine hnext _ _ _ ids' q' hfr' (fun j hj => hi2 j (hne j hj) hj) ?_ (fun y hy => ?_)
          · have hin : Hs ids' (bOf listed) = Hs ids (bOf listed) := hind ids' ids (bOf listed) (fun j _ hj => by
              have hl : listed[j]? = some true := getD_true hj
              exact hi2 j (hne j hl) hl)
            rw [hset _ _ (hgood _ hfr') (by rw [hin, hi1]; exact hidn), hin, hi1]
            exact hd'
          · rw [valsK_get, hki, Option.map_some] at hy
            cases hy
            simp only [Nat.zero_add, hi1]
            exact hv
  refine inv _ _ _ _ (by simp) ⟨by simp, hs0.size, rfl, fun k o hk hl => (by rw [Array.getElem?_replicate] at hl; split at hl <;> cases hl), ρ0, fun j => ρ0.nx + j, Ext.drew hd0, ⟨fun j => hd0.fresh (Nat.le_add_right _ _), fun j k _ _ h e => h (Nat.add_left_cancel e)⟩, ?_, fun t x hx _ => ?_, fun j x d hj => ?_⟩
  · have : bOf (Array.replicate l.toArray.size false) = fun _ => false := by
      funext j
      simp only [bOf, Array.getD_eq_getD_getElem?, Array.getElem?_replicate]
      split <;> rfl
    rw [this, hH0]; exact hd0.drew
  · obtain ⟨v, hv, hden⟩ := hs0.fr t x hx
    exact ⟨v, hv, Den.ext (Ext.drew hd0) hd0.live _ _ hden⟩
  · rw [Array.getElem?_replicate] at hj; split at hj <;> cases hj
end Go.Proofs.YtaekibilldjnmaaGreat
namespace Go.Proofs.YtaekibilldjnmaaGreat
variable {P : Program} {ρ : Own} {W : World} {H : Hp}

theorem loop_at (h : HD ρ W H) {id N : Nat} {fr : Fr} {ps : Array Tmp} {assign body : Code} {st : LoopState} {pend : Option Code} (ho : H id = some (.loop N fr ps assign body st pend)) :
    ∃ b fn tmps df, ρ.obj id = some (0, b) ∧ W.heap[b]? = some (.loop { state := st, pending := pend, fn := fn, tmps := tmps, params := ps, assign := assign, body := body, defers := df }) ∧
      tmps.size = N ∧ ∀ t x, Fr.get fr t = some x → ∃ v, tmps[t]? = some v ∧ Den ρ W x v := by
  obtain ⟨e, b, h1, -, h2⟩ := h.obs id _ ho
  obtain ⟨rfl, fn, tmps, df, h3, h4, h5⟩ := h2
  exact ⟨b, fn, tmps, df, h1, h3, h4, h5⟩

theorem HD.setLoop (h : HD ρ W H) {id N b : Nat} {fr : Fr} {ps : Array Tmp} {assign body : Code} {st : LoopState} {pend : Option Code} {fn : FuncId} {tmps : Array Value} {df : Nat}
    (hb : ρ.obj id = some (0, b)) (hh : ∃ r, W.heap[b]? = some (.loop r)) (ht : tmps.size = N) (hd : ∀ t x, Fr.get fr t = some x → ∃ v, tmps[t]? = some v ∧ Den ρ W x v) :
    Ext ρ W ρ (W.putObj b (.loop { state := st, pending := pend, fn := fn, tmps := tmps, params := ps, assign := assign, body := body, defers := df })) ∧
    HD ρ (W.putObj b (.loop { state := st, pending := pend, fn := fn, tmps := tmps, params := ps, assign := assign, body := body, defers := df })) (H.set id (some (.loop N fr ps assign body st pend))) := by
  obtain ⟨r, hr⟩ := hh
  have hot : ∀ k, k ≠ b → (W.putObj b (.loop { state := st, pending := pend, fn := fn, tmps := tmps, params := ps, assign := assign, body := body, defers := df })).heap[k]? = W.heap[k]? := by
    intro k hk; simp only [World.putObj]; rw [Array.getElem?_setIfInBounds_ne (Ne.symm hk)]
  have hsz : (W.putObj b (.loop { state := st, pending := pend, fn := fn, tmps := tmps, params := ps, assign := assign, body := body, defers := df })).heap.size = W.heap.size := by simp [World.putObj]
  have hcs : ∀ cs ty fz, W.heap[b]? = some (.cells cs ty fz) → ∃ cs', (W.putObj b (.loop { state := st, pending := pend, fn := fn, tmps := tmps, params := ps, assign := assign, body := body, defers := df })).heap[b]? = some (.cells cs' ty fz) ∧ cs'.size = cs.size := by
    intro cs ty fz hx; rw [hr] at hx; cases hx
  have q := Ext.write h hb hsz hot hcs
  have hlt := h.lt hb
  refine ⟨q, HD.write h hb hsz hot hcs ⟨rfl, fn, tmps, df, by simp [World.putObj, hlt], ht, fun t x hx => ?_⟩⟩
  obtain ⟨v, hv, hdv⟩ := hd t x hx
  exact ⟨v, hv, Den.ext q h.live _ _ hdv⟩

/-- What follows when the function has returned: on behind the statement, or the jump that a round has left. -/
def AfterV (P : Program) (ro : Option Nat) (N : Nat) (Q : Exit → Fr → List Nat → Hp → Prop) (fr : Fr) (D : List Nat) (H : Hp) : Option Code → Prop
  | none => Q .normal fr D H
  | some c => WpV P ro N c Q fr D H

theorem run_endLoop {b : Nat} {r : Loop} (h : W.heap[b]? = some (.loop r)) (hs : r.state ≠ .busy) : (Instr.endLoop b).run P W = .ok r.pending (W.putObj b (.loop { r with state := .exhausted })) := by
  have hbs : (r.state == LoopState.busy) = false := by cases hr : r.state <;> first | rfl | exact absurd hr hs
  simp [Instr.endLoop, Instr.getLoop, getObj, setObj, Sem.run, h, hbs, World.putObj]
  intro hh; exact absurd hh hs

theorem rangeFunc_core {ro r : Option Nat} {N : Nat} {Q : Exit → Fr → List Nat → Hp → Prop} {fr : Fr} {D2 : List Nat} {g : Operand} {ps : Array Tmp} {assign body : Code} {f : FuncId} {fs cs : List AV} {a : Act}
    (hg : fr.ev g = some (.fn (.func f) fs cs)) (eg : EntersF P f) (h0 : ∀ id e b, ρ.obj id = some (e, b) → id < ρ.nx) (hro : RO ρ ro r) (hs : Sim N fr ρ W a) {l : Nat} {mark : List Deferred} {ρ2 : Own} {W2 : FuncId → World} {H2 : Hp} {idl : Nat}
    (he : ∀ fn, (Instr.enterLoop fn a.tmps ps assign body r).run P W = .ok (l, mark) (W2 fn)) (hW : ∀ fn, Ext ρ W ρ2 (W2 fn) ∧ HD ρ2 (W2 fn) H2) (hl : ρ2.obj idl = some (0, l)) (hdf : Defs ρ2 D2 (mark ++ a.defers))
    (h : CallV P f (fs ++ [.yl idl] ++ cs) H2 (fun _ H' => ∃ st pend, H' idl = some (.loop N fr ps assign body st pend) ∧ st ≠ .busy ∧ Marks D2 (H'.set idl none) ∧ AfterV P ro N Q fr D2 (H'.set idl none) pend)) :
    (Code.rangeFunc g ps assign body).wpIn (Fw r) 0 P (fun e a' W' => ∃ ρ' fr' D' H', Ext ρ W ρ' W' ∧ Sim N fr' ρ' W' a' ∧ Defs ρ' D' a'.defers ∧ HD ρ' W' H' ∧ Q e fr' D' H') a W := by
  have hF : (Fw r).round = r := rfl
  refine wpIn_rangeFunc fun fn _ => ?_
  obtain ⟨q, hd⟩ := hW fn
  have hgd := hs.eval hg
  rw [Den] at hgd
  obtain ⟨xs, ys, e, h1, h2, h3, h4⟩ := hgd
  have hs2 := hs.ext q h0
  refine ⟨l, mark, W2 fn, { target := .fn (.func f) ys, args := xs ++ #[.func (.yield l) #[] #[]] }, W2 fn, f, (xs ++ #[.func (.yield l) #[] #[]]) ++ ys, W2 fn, he fn, ?_, fun _ _ => trivial, by simp only [invoke]; exact eg _ _, fun h' => (by cases h'), callsIn_fw ?_⟩
  · simp only [resolve, rangeCall, e, Deferred.ofValue, Sem.run_pure]
    simp [Act.eval]
  have hargs : DenL ρ2 (W2 fn) (fs ++ [.yl idl] ++ cs) (fun i => (xs ++ #[Value.func (.yield l) #[] #[]] ++ ys)[i]?) := by
    refine denL_append (by simp [h1]) (denL_append h1 (DenL.ext q h0 _ _ h3) ?_) (DenL.ext q h0 _ _ h4)
    rw [DenL, DenL]
    refine ⟨⟨_, rfl, ?_⟩, trivial⟩
    rw [Den]
    refine ⟨hd.live _ _ _ hl, rfl, fun b hb => ?_⟩
    rw [hl] at hb; cases hb; rfl
  refine Calls.mono (h ρ2 (W2 fn) _ (by simp [h1, h2]; omega) hargs hd) ?_
  rintro e' W3 ⟨v, ρ', x, H', rfl, q3, -, hd3, st, pend, ho, hst, hmk, haf⟩
  obtain ⟨b, fn', tmps, df, hb, hh, -, -⟩ := loop_at hd3 ho
  obtain ⟨-, hbl⟩ := q3.up _ _ _ _ _ hl hb
  obtain ⟨rfl, -⟩ := hbl rfl
  refine ⟨pend, _, run_endLoop hh hst, ?_⟩
  have hot : ∀ k, k ≠ b → (W3.putObj b (.loop { state := .exhausted, pending := pend, fn := fn', tmps := tmps, params := ps, assign := assign, body := body, defers := df })).heap[k]? = W3.heap[k]? := by
    intro k hk; simp only [World.putObj]; rw [Array.getElem?_setIfInBounds_ne (Ne.symm hk)]
  obtain ⟨q4, hd4⟩ := hd3.kill hb (by simp [World.putObj]) hot
  have q5 := (q.trans h0 q3).trans h0 q4
  have hs5 : Sim N fr (ρ'.drop idl) (W3.putObj b (.loop { state := .exhausted, pending := pend, fn := fn', tmps := tmps, params := ps, assign := assign, body := body, defers := df })) { a with defers := mark ++ a.defers } :=
    ⟨(hs.ext q5 h0).size, (hs.ext q5 h0).fr⟩
  have hdf5 := Defs.of_marks (q3.trans hd.live q4) hd4 hmk hdf
  cases pend with
  | none => exact ⟨_, fr, D2, _, q5, hs5, hdf5, hd4, haf⟩
  | some c => exact WpV.after haf hro q5 h0 hs5 hdf5 hd4

theorem WpV.rangeFunc {N : Nat} {Q : Exit → Fr → List Nat → Hp → Prop} {fr : Fr} {D : List Nat} {g : Operand} {ps : Array Tmp} {assign body : Code} {f : FuncId} {fs cs : List AV}
    (hg : fr.ev g = some (.fn (.func f) fs cs)) (eg : EntersF P f) (hmD : Marks D H)
    (h : ∀ idm idl, idm ≠ idl → H idm = none → H idl = none → CallV P f (fs ++ [.yl idl] ++ cs) ((H.set idm (some .mark)).set idl (some (.loop N fr ps assign body .ready none)))
      (fun _ H' => ∃ st pend, H' idl = some (.loop N fr ps assign body st pend) ∧ st ≠ .busy ∧ Marks (idm :: D) (H'.set idl none) ∧ AfterV P none N Q fr (idm :: D) (H'.set idl none) pend)) :
    WpV P none N (.rangeFunc g ps assign body) Q fr D H := by
  intro r ρ W a hro hs hf hd
  have hr : r = none := by cases r with
    | none => rfl
    | some l => exact hro.elim
  subst hr
  have q1 := Ext.own hd (.deferred (some [])) (Nat.le_refl ρ.nx)
  have hd1 := hd.own (o := .deferred (some [])) (id := ρ.nx) (Nat.le_refl _) (ob := .mark) ⟨rfl, World.alloc_heap_new _ _⟩
  generalize hρ1 : ρ.add ρ.nx W.heap.size = ρ1 at q1 hd1
  generalize hW1 : W.alloc (.deferred (some [])) = W1 at q1 hd1
  have hnx : ρ1.nx = ρ.nx + 1 := by subst hρ1; simp only [Own.add]; omega
  have hob : ρ1.obj ρ.nx = some (0, W.heap.size) := by subst hρ1; simp [Own.add]
  have q2 : ∀ fn, Ext ρ1 W1 (ρ1.add ρ1.nx W1.heap.size) (W1.alloc (.loop { state := .ready, pending := none, fn := fn, tmps := a.tmps, params := ps, assign := assign, body := body, defers := W.heap.size })) := fun fn => Ext.own hd1 _ (Nat.le_refl _)
  have hd2 : ∀ fn, HD (ρ1.add ρ1.nx W1.heap.size) (W1.alloc (.loop { state := .ready, pending := none, fn := fn, tmps := a.tmps, params := ps, assign := assign, body := body, defers := W.heap.size })) ((H.set ρ.nx (some .mark)).set ρ1.nx (some (.loop N fr ps assign body .ready none))) := fun fn =>
    hd1.own (Nat.le_refl _) ⟨rfl, fn, a.tmps, W.heap.size, World.alloc_heap_new _ _, hs.size, ((hs.ext q1 hd.live).ext (q2 fn) hd1.live).fr⟩
  refine rangeFunc_core (ro := none) (r := none) (idl := ρ1.nx) (l := W1.heap.size) (mark := [{ target := .collected W.heap.size, args := #[] }]) (D2 := ρ.nx :: D) hg eg hd.live trivial hs (fun fn => ?_) (fun fn => ⟨q1.trans hd.live (q2 fn), hd2 fn⟩) (by simp [Own.add]) ?_ (h ρ.nx ρ1.nx (by omega) (hd.fresh (Nat.le_refl _)) (hd.fresh (by omega)))
  · subst hW1
    simp only [Instr.enterLoop, Sem.run_bind, run_newObj, Result.andThen_ok, Sem.run_pure]
    rfl
  · refine ⟨W.heap.size, a.defers, rfl, ?_, ?_⟩
    · simp only [Own.add]; rw [if_neg (by omega)]; exact hob
    · refine Defs.of_marks (q1.trans hd.live (q2 0)) (hd2 0) (fun id hid => ?_) hf
      have h1 := hmD id hid
      have hlt : id < ρ.nx := by
        obtain ⟨e, b, h2, -⟩ := hd.obs id _ h1
        exact hd.live _ _ _ h2
      rw [Hp.set_ne _ _ (by omega), Hp.set_ne _ _ (by omega)]
      exact h1

/-- Within a round: the mark is the outer statement's. -/
theorem WpV.rangeFuncI {N idr : Nat} {Q : Exit → Fr → List Nat → Hp → Prop} {fr : Fr} {D : List Nat} {g : Operand} {ps : Array Tmp} {assign body : Code} {f : FuncId} {fs cs : List AV} {N0 : Nat} {fr0 : Fr} {ps0 : Array Tmp} {as0 bo0 : Code} {st0 : LoopState} {pe0 : Option Code}
    (hg : fr.ev g = some (.fn (.func f) fs cs)) (eg : EntersF P f) (hmD : Marks D H) (hidr : H idr = some (.loop N0 fr0 ps0 as0 bo0 st0 pe0))
    (h : ∀ idl, H idl = none → CallV P f (fs ++ [.yl idl] ++ cs) (H.set idl (some (.loop N fr ps assign body .ready none)))
      (fun _ H' => ∃ st pend, H' idl = some (.loop N fr ps assign body st pend) ∧ st ≠ .busy ∧ Marks D (H'.set idl none) ∧ AfterV P (some idr) N Q fr D (H'.set idl none) pend)) :
    WpV P (some idr) N (.rangeFunc g ps assign body) Q fr D H := by
  intro r ρ W a hro hs hf hd
  obtain ⟨b0, fn0, tmps0, df0, hb0, hh0, -, -⟩ := loop_at hd hidr
  obtain ⟨l0, rfl⟩ : ∃ l0, r = some l0 := by cases r with
    | none => exact hro.elim
    | some l => exact ⟨l, rfl⟩
  obtain rfl := hro.2 _ hb0
  have q2 : ∀ fn, Ext ρ W (ρ.add ρ.nx W.heap.size) (W.alloc (.loop { state := .ready, pending := none, fn := fn, tmps := a.tmps, params := ps, assign := assign, body := body, defers := df0 })) := fun fn => Ext.own hd _ (Nat.le_refl _)
  have hd2 : ∀ fn, HD (ρ.add ρ.nx W.heap.size) (W.alloc (.loop { state := .ready, pending := none, fn := fn, tmps := a.tmps, params := ps, assign := assign, body := body, defers := df0 })) (H.set ρ.nx (some (.loop N fr ps assign body .ready none))) := fun fn =>
    hd.own (Nat.le_refl _) ⟨rfl, fn, a.tmps, df0, World.alloc_heap_new _ _, hs.size, (hs.ext (q2 fn) hd.live).fr⟩
  refine rangeFunc_core (ro := some idr) (r := some b0) (idl := ρ.nx) (l := W.heap.size) (mark := []) (D2 := D) hg eg hd.live hro hs (fun fn => ?_) (fun fn => ⟨q2 fn, hd2 fn⟩) (by simp [Own.add]) ?_ (h ρ.nx (hd.fresh (Nat.le_refl _)))
  · simp only [Instr.enterLoop, Instr.getLoop, getObj, Sem.run_bind, Sem.run, hh0, run_newObj, Result.andThen_ok, Sem.run_pure]
    rfl
  · refine Defs.of_marks (q2 0) (hd2 0) (fun id hid => ?_) hf
    have h1 := hmD id hid
    have hlt : id < ρ.nx := by
      obtain ⟨e, b, h2, -⟩ := hd.obs id _ h1
      exact hd.live _ _ _ h2
    rw [Hp.set_ne _ _ (by omega)]
    exact h1

/-! ### A round -/
def putPs : List Tmp → List AV → Fr → Fr
  | t :: ts, x :: xs, fr => putPs ts xs ((t, x) :: fr)
  | _, _, fr => fr
theorem putPs_den {N : Nat} : ∀ (ts : List Tmp) (xs : List AV) (vs : List Value) (fr : Fr) (tmps : Array Value), (ts.all (· < N)) = true → tmps.size = N → xs.length = vs.length → DenL ρ W xs (fun i => vs[i]?) →
    (∀ t x, Fr.get fr t = some x → ∃ v, tmps[t]? = some v ∧ Den ρ W x v) →
    ((ts.zip vs).foldl (fun tmps (t, a) => tmps.setIfInBounds t a) tmps).size = N ∧ ∀ t x, Fr.get (putPs ts xs fr) t = some x → ∃ v, ((ts.zip vs).foldl (fun tmps (t, a) => tmps.setIfInBounds t a) tmps)[t]? = some v ∧ Den ρ W x v
  | [], xs, vs, fr, tmps, _, hN, _, _, h => by
    cases xs <;> exact ⟨by simpa using hN, by simpa [putPs] using h⟩
  | t :: ts, [], vs, fr, tmps, _, hN, hl, _, h => by
    cases vs with
    | nil => exact ⟨by simpa using hN, by simpa [putPs] using h⟩
    | cons v vs => simp at hl
  | t :: ts, x :: xs, [], fr, tmps, _, hN, hl, _, h => by simp at hl
  | t :: ts, x :: xs, v :: vs, fr, tmps, ht, hN, hl, hd, h => by
    simp only [List.all_cons, Bool.and_eq_true, decide_eq_true_eq] at ht
    rw [DenL] at hd
    obtain ⟨⟨u, hu, hx⟩, hd⟩ := hd
    simp only [List.getElem?_cons_zero, Option.some.injEq] at hu
    subst hu
    simp only [List.zip_cons_cons, List.foldl_cons, putPs]
    refine putPs_den ts xs vs _ _ ht.2 (by simpa using hN) (by simpa using hl) (by simpa using hd) (fun k z hz => ?_)
    simp only [Fr.get] at hz
    by_cases e : t = k
    · subst e
      rw [if_pos rfl] at hz; cases hz
      exact ⟨v, by simp [hN, ht.1], hx⟩
    · rw [if_neg e] at hz
      obtain ⟨w, hw, hdw⟩ := h k z hz
      exact ⟨w, by rw [Array.getElem?_setIfInBounds_ne e]; exact hw, hdw⟩

/-- How a round ends. -/
def RoundV (id N : Nat) (fr : Fr) (ps : Array Tmp) (assign body : Code) (K : AV → Hp → Prop) : Exit → Fr → List Nat → Hp → Prop
  | .normal, _, _, H => ∃ pend, H id = some (.loop N fr ps assign body .busy pend) ∧ K (.bool true) (H.set id (some (.loop N fr ps assign body .ready none)))
  | .ret, _, _, H => ∃ pend, H id = some (.loop N fr ps assign body .busy pend) ∧ K (.bool false) (H.set id (some (.loop N fr ps assign body .done (some .ret))))
  | .exit i, _, _, H => ∃ pend, H id = some (.loop N fr ps assign body .busy pend) ∧ K (.bool false) (H.set id (some (.loop N fr ps assign body .done (some (.exit i)))))
  | _, _, _, _ => False

theorem run_beginRound {b : Nat} {r : Loop} (h : W.heap[b]? = some (.loop r)) (hs : r.state = .ready) : (Instr.beginRound b).run P W = .ok () (W.putObj b (.loop { r with state := .busy })) := by
  simp [Instr.beginRound, Instr.getLoop, getObj, setObj, Sem.run, h, hs, World.putObj]
theorem run_endRound {b : Nat} {r : Loop} (h : W.heap[b]? = some (.loop r)) (jump : Option Code) : (Instr.endRound b jump).run P W = .ok (.bool jump.isNone) (W.putObj b (.loop { r with state := if jump.isNone then .ready else .done, pending := jump })) := by
  simp [Instr.endRound, Instr.getLoop, getObj, setObj, Sem.run, h, World.putObj]

theorem OpW.yield {o : Oper} {ev : Operand → Option AV} {K : AV → Hp → Prop} {y : Operand} {args : Array Operand} {ts : Array TypeId} {id N : Nat} {fr : Fr} {ps : Array Tmp} {assign body : Code} {pend : Option Code} {xs : List AV}
    (ho : o.op = .call { callee := .value y, args := args, argTypes := ts }) (hy : ev y = some (.yl id)) (hx : mapEv ev args.toList = some xs) (hH0 : H id = some (.loop N fr ps assign body .ready pend)) (hlen : xs.length = ps.size) (hps : (ps.toList.all (· < N)) = true)
    (h : WpV P (some id) N assign (Vthen (fun fr1 D1 H1 => ∃ pend1, H1 id = some (.loop N fr ps assign body .ready pend1) ∧ WpV P (some id) N body (RoundV id N fr ps assign body K) fr1 D1 (H1.set id (some (.loop N fr ps assign body .busy pend1)))) (fun _ _ _ _ => False)) (putPs ps.toList xs fr) [] H) :
    OpW P o ev H K := by
  refine ⟨by simp [Oper.calm, ho], fun ρ W σ hd hH => ?_⟩
  have hyd := hd y (by simp [ho, Op.operands, Call.operands]) _ hy
  obtain ⟨k1, k2⟩ := mapEv_den (ρ := ρ) (W := W) (σ := σ) (fun z hz => hd z (by simp [ho, Op.operands, Call.operands]; exact .inr (Array.mem_toList_iff.1 hz))) hx
  obtain ⟨b, fn, tmps, df, hb, hh, ht, hfr⟩ := loop_at hH hH0
  rw [Den] at hyd
  have e := hyd.2.2 b hb
  have hasz : (args.map σ).size = ps.size := by simp; rw [← hlen]; simpa using k1
  have hrun : (execOp σ o).run P W = .ok (.round b fn ((ps.zip (args.map σ)).foldl (fun tmps (t, a) => tmps.setIfInBounds t a) tmps) assign body) W := by
    simp only [execOp, ho, resolve, e, Deferred.ofValue, Sem.run_bind, Sem.run_pure, Result.andThen_ok, invoke, Instr.yield, Instr.getLoop, getObj, Sem.run, hh]
    rw [if_neg (by rw [ne_eq, Decidable.not_not]; simpa using hasz)]
    simp
  unfold Runs
  rw [hrun]
  have hzip : (ps.zip (args.map σ)).foldl (fun tmps (t, a) => tmps.setIfInBounds t a) tmps = (ps.toList.zip (args.toList.map σ)).foldl (fun tmps (t, a) => tmps.setIfInBounds t a) tmps := by
    rw [← Array.foldl_toList, Array.toList_zip, Array.toList_map]
  rw [hzip]
  obtain ⟨g1, g2⟩ := putPs_den (ρ := ρ) (W := W) ps.toList xs (args.toList.map σ) fr tmps hps ht (by simp [k1]) k2 hfr
  refine roundIn_of_wpIn trivial ?_
  have hro : RO ρ (some id) (some b) := ⟨hH.live _ _ _ hb, fun b' hb' => by rw [hb] at hb'; cases hb'; rfl⟩
  refine wpIn_mono (h (some b) ρ W _ hro ⟨g1, g2⟩ rfl hH) ?_
  rintro e1 a1 W1 ⟨ρ1, fr1, D1, H1, q1, hs1, hf1, hd1, hq1⟩
  cases e1 with
  | normal =>
    obtain ⟨pend1, ho1, hbody⟩ := hq1
    obtain ⟨b1, fn1, tmps1, df1, hb1, hh1, ht1, hfr1⟩ := loop_at hd1 ho1
    obtain ⟨-, hbb⟩ := q1.up _ _ _ _ _ hb hb1
    obtain ⟨rfl, -⟩ := hbb rfl
    obtain ⟨q2, hd2⟩ := hd1.setLoop (st := .busy) (pend := pend1) (ps := ps) (assign := assign) (body := body) (fn := fn1) (df := df1) hb1 ⟨_, hh1⟩ ht1 hfr1
    refine ⟨_, run_beginRound hh1 rfl, ?_⟩
    refine wpIn_mono (WpV.after hbody (hro.ext q1) q2 hd1.live (hs1.ext q2 hd1.live) ?_ hd2) ?_
    · -- no mark is laid within a round
      have hD : ∀ {D : List Nat} {ds : List Deferred}, Defs ρ1 D ds → Defs ρ1 D ds := fun h => h
      exact hf1
    rintro e2 a2 W2 ⟨ρ2, fr2, D2, H2, q3, hs2, hf2, hd3, hq2⟩
    have fin : ∀ (jump : Option Code) (pend2 : Option Code), H2 id = some (.loop N fr ps assign body .busy pend2) → K (.bool jump.isNone) (H2.set id (some (.loop N fr ps assign body (if jump.isNone then .ready else .done) jump))) →
        ∃ v w', (Instr.endRound b1 jump).run P W2 = .ok v w' ∧ ∃ u, Ending.returned v = .returned u ∧ ∃ ρ' x H', Ext ρ W ρ' w' ∧ Den ρ' w' x u ∧ HD ρ' w' H' ∧ K x H' := by
      intro jump pend2 ho2 hk
      obtain ⟨b2, fn2, tmps2, df2, hb2, hh2, ht2, hfr2⟩ := loop_at hd3 ho2
      obtain ⟨-, hbb⟩ := q3.up _ _ _ _ _ hb1 hb2
      obtain ⟨rfl, -⟩ := hbb rfl
      obtain ⟨q4, hd4⟩ := hd3.setLoop (st := if jump.isNone then .ready else .done) (pend := jump) (ps := ps) (assign := assign) (body := body) (fn := fn2) (df := df2) hb2 ⟨_, hh2⟩ ht2 hfr2
      exact ⟨_, _, run_endRound hh2 jump, _, rfl, ρ2, .bool jump.isNone, _, (q1.trans hH.live q3).trans hH.live q4, by rw [Den], hd4, hk⟩
    cases e2 with
    | normal =>
      obtain ⟨pend2, ho2, hk⟩ := hq2
      exact fin none pend2 ho2 hk
    | ret =>
      obtain ⟨pend2, ho2, hk⟩ := hq2
      exact fin (some .ret) pend2 ho2 hk
    | exit i =>
      obtain ⟨pend2, ho2, hk⟩ := hq2
      exact fin (some (.exit i)) pend2 ho2 hk
    | _ => exact hq2.elim
  | _ => exact hq1.elim
end Go.Proofs.YtaekibilldjnmaaGreat
namespace Go.Proofs.YtaekibilldjnmaaGreat
variable {P : Program} {ρ : Own} {W : World} {H : Hp}

def AV.concs : List AV → Option (List Value)
  | [] => some []
  | x :: xs => match x, AV.concs xs with
    | .int k n, some vs => some (.int k n :: vs)
    | .bool b, some vs => some (.bool b :: vs)
    | _, _ => none
/-- The one value that a plain value denotes. -/
def AV.conc : AV → Option Value
  | .int k n => some (.int k n)
  | .bool b => some (.bool b)
  | .agg cs => (AV.concs cs).map fun vs => .agg vs.toArray
  | _ => none
theorem concs_den : ∀ {xs : List AV} {vs : List Value} {f : Nat → Option Value}, AV.concs xs = some vs → DenL ρ W xs f → vs.length = xs.length ∧ ∀ i, i < xs.length → f i = vs[i]?
  | [], vs, f, h, _ => by cases h; exact ⟨rfl, fun i hi => by simp at hi⟩
  | x :: xs, vs, f, h, hd => by
    unfold AV.concs at h
    rw [DenL] at hd
    obtain ⟨⟨v, hv, hx⟩, ht⟩ := hd
    split at h
    · rename_i k n ws hw
      cases h
      obtain ⟨h1, h2⟩ := concs_den hw ht
      rw [Den] at hx; subst hx
      refine ⟨by simp [h1], fun i hi => ?_⟩
      cases i with
      | zero => exact hv
      | succ i => exact h2 i (by simpa using hi)
    · rename_i b ws hw
      cases h
      obtain ⟨h1, h2⟩ := concs_den hw ht
      rw [Den] at hx; subst hx
      refine ⟨by simp [h1], fun i hi => ?_⟩
      cases i with
      | zero => exact hv
      | succ i => exact h2 i (by simpa using hi)
    · cases h
theorem conc_den {x : AV} {u v : Value} (h : x.conc = some u) (hd : Den ρ W x v) : v = u := by
  unfold AV.conc at h
  split at h
  · cases h; rw [Den] at hd; exact hd
  · cases h; rw [Den] at hd; exact hd
  · rename_i cs
    cases h1 : AV.concs cs with
    | none => rw [h1] at h; cases h
    | some vs =>
      rw [h1] at h; cases h
      rw [Den] at hd
      obtain ⟨xs, rfl, h2, h3⟩ := hd
      obtain ⟨h4, h5⟩ := concs_den h1 h3
      congr 1
      apply Array.ext'
      apply List.ext_getElem?
      intro i
      by_cases hi : i < cs.length
      · have := h5 i hi; simpa using this
      · rw [List.getElem?_eq_none (by simp; omega), List.getElem?_eq_none (by simp; omega)]
  · cases h

theorem OpW.makeMap {o : Oper} {ev : Operand → Option AV} {t : TypeId} {K : AV → Hp → Prop} (ho : o.op = .makeMap t none) (hk : ∀ id, H id = none → K (.mp id) (H.set id (some (.map [] [])))) : OpW P o ev H K := by
  refine ⟨by simp [Oper.calm, ho], fun ρ W σ hd hH => ?_⟩
  have hd' := hH.own (o := .map #[] 0) (id := ρ.nx) (Nat.le_refl _) (ob := .map [] []) ⟨rfl, #[], 0, World.alloc_heap_new _ _, rfl, rfl, by rw [DenL]; trivial, by rw [DenL]; trivial⟩
  have q := Ext.own hH (.map #[] 0) (Nat.le_refl ρ.nx)
  refine Runs.value (v := .map (some W.heap.size)) (W' := W.alloc (.map #[] 0)) ?_ ⟨_, _, _, q, ?_, hd', hk _ (hH.fresh (Nat.le_refl _))⟩
  · simp only [execOp, ho, Instr.makeMap, Option.map_none, Sem.run_bind, run_newObj, Result.andThen_ok, Sem.run_pure]
    rfl
  · rw [Den]
    refine ⟨by simp only [Own.add]; omega, rfl, fun b hb => ?_⟩
    simp only [Own.add, if_true, Option.some.injEq, Prod.mk.injEq] at hb
    rw [hb.2]

/-- What a map of plain keys is asked by. -/
structure Keys (P : Program) (t kt : TypeId) (et : TypeId) (ks : List AV) : Prop where
  map : P.underlying t = some (.map kt et)
  law : WideMaps.KeyLaw P kt
  keys : ∀ y ∈ ks, ∃ w l, y.conc = some w ∧ keyOf P kt w = some l

theorem find_of {t kt et : TypeId} {ks vs : List AV} (hK : Keys P t kt et ks) {es : Array MapEntry} (h1 : es.size = ks.length) (h2 : es.size = vs.length) (hd1 : DenL ρ W ks (fun i => (es[i]?).map (·.key))) (hd2 : DenL ρ W vs (fun i => (es[i]?).map (·.val)))
    {u : Value} {l : Lit} (hl : keyOf P kt u = some l) :
    ((Instr.findKey kt u es.toList).run P W = .ok none W ∧ ∀ (j : Nat) (y : AV), ks[j]? = some y → y.conc ≠ some u) ∨
    ∃ (j : Nat) (e : MapEntry) (y z : AV), (Instr.findKey kt u es.toList).run P W = .ok (some (j, e.val)) W ∧ es[j]? = some e ∧ e.key = u ∧ ks[j]? = some y ∧ vs[j]? = some z ∧ y.conc = some u ∧ Den ρ W z e.val := by
  have hall : ∀ e ∈ es.toList, ∃ l, keyOf P kt e.key = some l := by
    intro e he
    obtain ⟨i, hi, rfl⟩ := List.getElem_of_mem he
    have hi' : i < ks.length := by simp at hi; omega
    obtain ⟨v, hv, hd⟩ := hd1.at (List.getElem?_eq_getElem hi')
    have hv' : es[i].key = v := by
      rw [Array.getElem?_eq_getElem (by simpa using hi)] at hv; simpa using hv
    obtain ⟨w, l, h3, h4⟩ := hK.keys _ (List.getElem_mem hi')
    have := conc_den h3 hd
    exact ⟨l, by simp only [Array.getElem_toList]; rw [hv', this]; exact h4⟩
  rcases hK.law.find W hl es.toList hall with ⟨h3, h4⟩ | ⟨j, e, h3, h4, h5⟩
  · refine .inl ⟨h3, fun j y hj hy => ?_⟩
    obtain ⟨v, hv, hd⟩ := hd1.at hj
    obtain ⟨e, he, rfl⟩ := Option.map_eq_some_iff.1 hv
    exact h4 e (by rw [List.mem_iff_getElem?]; exact ⟨j, by simpa using he⟩) (conc_den hy hd)
  · have hej : es[j]? = some e := by simpa using h4
    have hjl : j < es.size := (Array.getElem?_eq_some_iff.1 hej).1
    have hj1 : j < ks.length := by omega
    have hj2 : j < vs.length := by omega
    obtain ⟨v, hv, hd⟩ := hd1.at (List.getElem?_eq_getElem hj1)
    rw [hej] at hv
    simp only [Option.map_some, Option.some.injEq] at hv
    obtain ⟨w, l', g1, g2⟩ := hK.keys _ (List.getElem_mem hj1)
    have hw := conc_den g1 hd
    obtain ⟨v2, hv2, hd2'⟩ := hd2.at (List.getElem?_eq_getElem hj2)
    rw [hej] at hv2
    simp only [Option.map_some, Option.some.injEq] at hv2
    exact .inr ⟨j, e, _, _, h3, hej, h5, List.getElem?_eq_getElem hj1, List.getElem?_eq_getElem hj2, by rw [g1, ← hw, ← hv, h5], by rw [hv2]; exact hd2'⟩

def mapV (H : Hp) : AV → Option (List AV × List AV)
  | .fm ks vs => some (ks, vs)
  | .mp id => match H id with
    | some (.map ks vs) => some (ks, vs)
    | _ => none
  | _ => none
theorem mapV_spec (h : HD ρ W H) {x : AV} {v : Value} {ks vs : List AV} (hv : Den ρ W x v) (hm : mapV H x = some (ks, vs)) : ∃ r es clock, v = .map (some r) ∧ W.heap[r]? = some (.map es clock) ∧ es.size = ks.length ∧ es.size = vs.length ∧
    DenL ρ W ks (fun i => (es[i]?).map (·.key)) ∧ DenL ρ W vs (fun i => (es[i]?).map (·.val)) := by
  unfold mapV at hm
  split at hm
  · cases hm
    rw [Den] at hv
    obtain ⟨r, es, cl, h1, -, -, h2, h3, h4, h5, h6⟩ := hv
    exact ⟨r, es, cl, h1, h2, h3, h4, h5, h6⟩
  · split at hm
    · rename_i ks' vs' ho
      cases hm
      obtain ⟨b, es, cl, -, h1, h2, h3, h4, h5, h6⟩ := mp_at h hv ho
      exact ⟨b, es, cl, h1, h2, h3, h4, h5, h6⟩
    · cases hm
  · cases hm

def zeroV (P : Program) (t : TypeId) : Option AV := match P.info? t with
  | some i => i.zero.bind AV.leaf
  | none => none
theorem zeroV_spec {t : TypeId} {x : AV} (h : zeroV P t = some x) : ∃ z, (zeroValue t).run P W = .ok z W ∧ Den ρ W x z := by
  unfold zeroV at h
  split at h
  · rename_i i hi
    obtain ⟨z, hz, hx⟩ := Option.bind_eq_some_iff.1 h
    exact ⟨z, by simp [zeroValue, typeInfo, hi, hz], AV.leaf_den hx⟩
  · cases h

theorem OpW.lookup {o : Oper} {ev : Operand → Option AV} {t kt et : TypeId} {m k : Operand} {x mv z0 : AV} {u : Value} {l : Lit} {ks vs : List AV} {K : AV → Hp → Prop} (ho : o.op = .lookup t m k false) (hm : ev m = some mv) (hv : mapV H mv = some (ks, vs)) (hk : ev k = some x)
    (hx : x.conc = some u) (hl : keyOf P kt u = some l) (hK : Keys P t kt et ks) (hz : zeroV P et = some z0)
    (hfound : ∀ (j : Nat) (y z : AV), ks[j]? = some y → vs[j]? = some z → y.conc = some u → K z H) (hnone : (∀ (j : Nat) (y : AV), ks[j]? = some y → y.conc ≠ some u) → K z0 H) : OpW P o ev H K := by
  refine ⟨by simp [Oper.calm, ho], fun ρ W σ hd hH => ?_⟩
  have hdm := hd m (by simp [ho, Op.operands]) _ hm
  have hdk := conc_den hx (hd k (by simp [ho, Op.operands]) _ hk)
  obtain ⟨r, es, clock, e, h1, h2, h3, h4, h5⟩ := mapV_spec hH hdm hv
  have hchk := hK.law.check W es.isEmpty hl
  rcases find_of hK h2 h3 h4 h5 hl with ⟨hf, hno⟩ | ⟨j, en, y, z, hf, he1, he2, hj1, hj2, hj3, hj4⟩
  · obtain ⟨zv, e1, hzv⟩ := zeroV_spec (ρ := ρ) (W := W) hz
    refine Runs.value (v := zv) (W' := W) ?_ ⟨ρ, _, H, hH.refl, hzv, hH, hnone hno⟩
    simp only [execOp, ho, Instr.lookup, Sem.run_bind, run_underlying hK.map, Result.andThen_ok, e, getObj, Sem.run, h1, hdk, Sem.run_pure, hchk, hf, e1]
    rfl
  · refine Runs.value (v := en.val) (W' := W) ?_ ⟨ρ, z, H, hH.refl, hj4, hH, hfound j y z hj1 hj2 hj3⟩
    simp only [execOp, ho, Instr.lookup, Sem.run_bind, run_underlying hK.map, Result.andThen_ok, e, getObj, Sem.run, h1, hdk, Sem.run_pure, hchk, hf]
    rfl

theorem OpW.mapUpdate {o : Oper} {ev : Operand → Option AV} {t kt et : TypeId} {m k w : Operand} {x z : AV} {id : Nat} {u : Value} {l : Lit} {ks vs : List AV} {K : AV → Hp → Prop} (ho : o.op = .mapUpdate t m k w) (hm : ev m = some (.mp id)) (hv : H id = some (.map ks vs)) (hk : ev k = some x) (hw : ev w = some z)
    (hx : x.conc = some u) (hl : keyOf P kt u = some l) (hK : Keys P t kt et ks)
    (hfound : ∀ (j : Nat) (y : AV), ks[j]? = some y → y.conc = some u → K .any (H.set id (some (.map ks (vs.set j z))))) (hnone : (∀ (j : Nat) (y : AV), ks[j]? = some y → y.conc ≠ some u) → K .any (H.set id (some (.map (ks ++ [x]) (vs ++ [z]))))) : OpW P o ev H K := by
  refine ⟨by simp [Oper.calm, ho], fun ρ W σ hd hH => ?_⟩
  have hdm := hd m (by simp [ho, Op.operands]) _ hm
  have hdk0 := hd k (by simp [ho, Op.operands]) _ hk
  have hdk := conc_den hx hdk0
  have hdw := hd w (by simp [ho, Op.operands]) _ hw
  obtain ⟨b, es, clock, hb, e, h1, h2, h3, h4, h5⟩ := mp_at hH hdm hv
  have hchk := hK.law.check W false hl
  have put : ∀ (es' : Array MapEntry) (clock' : Nat) (ks' vs' : List AV), es'.size = ks'.length → es'.size = vs'.length → DenL ρ W ks' (fun i => (es'[i]?).map (·.key)) → DenL ρ W vs' (fun i => (es'[i]?).map (·.val)) →
      K .any (H.set id (some (.map ks' vs'))) → ∃ ρ' x H', Ext ρ W ρ' (W.putObj b (.map es' clock')) ∧ Den ρ' (W.putObj b (.map es' clock')) x undef ∧ HD ρ' (W.putObj b (.map es' clock')) H' ∧ K x H' := by
    intro es' clock' ks' vs' g1 g2 g3 g4 g5
    have hot : ∀ k, k ≠ b → (W.putObj b (.map es' clock')).heap[k]? = W.heap[k]? := by
      intro k hk; simp only [World.putObj]; rw [Array.getElem?_setIfInBounds_ne (Ne.symm hk)]
    have hcs : ∀ cs ty fz, W.heap[b]? = some (.cells cs ty fz) → ∃ cs', (W.putObj b (.map es' clock')).heap[b]? = some (.cells cs' ty fz) ∧ cs'.size = cs.size := by
      intro cs ty fz hx; rw [h1] at hx; cases hx
    have hlt := hH.lt hb
    have q := Ext.write hH hb (W' := W.putObj b (.map es' clock')) (by simp [World.putObj]) hot hcs
    exact ⟨ρ, .any, _, q, Den.anyv _, HD.write hH hb (by simp [World.putObj]) hot hcs (ob := .map ks' vs') ⟨rfl, es', clock', by simp [World.putObj, hlt], g1, g2, DenL.ext q hH.live _ _ g3, DenL.ext q hH.live _ _ g4⟩, g5⟩
  rcases find_of hK h2 h3 h4 h5 hl with ⟨hf, hno⟩ | ⟨j, en, y, z', hf, he1, he2, hj1, hj2, hj3, hj4⟩
  · refine Runs.skip (W' := W.putObj b (.map (es.push { key := u, val := σ w, born := clock }) (clock + 1))) ?_ (put _ _ (ks ++ [x]) (vs ++ [z]) (by simp [h2]) (by simp [h3]) ?_ ?_ (hnone hno))
    · simp only [execOp, ho, Instr.mapUpdate, Sem.run_bind, run_underlying hK.map, Result.andThen_ok, e, getObj, setObj, Sem.run, h1, hdk, Sem.run_pure, hchk, hf]
      rfl
    · refine DenL.of fun i y hi => ?_
      by_cases hlt : i < ks.length
      · rw [List.getElem?_append_left hlt] at hi
        obtain ⟨v, hv, hdv⟩ := h4.at hi
        exact ⟨v, by rw [Array.getElem?_push, if_neg (by omega)]; exact hv, hdv⟩
      · have hi2 : i = ks.length := by have := (List.getElem?_eq_some_iff.1 hi).1; simp at this; omega
        subst hi2
        simp only [List.getElem?_append_right (Nat.le_refl _), Nat.sub_self, List.getElem?_cons_zero, Option.some.injEq] at hi
        subst hi
        exact ⟨u, by rw [Array.getElem?_push, if_pos h2.symm]; rfl, by rw [← hdk]; exact hdk0⟩
    · refine DenL.of fun i y hi => ?_
      by_cases hlt : i < vs.length
      · rw [List.getElem?_append_left hlt] at hi
        obtain ⟨v, hv, hdv⟩ := h5.at hi
        exact ⟨v, by rw [Array.getElem?_push, if_neg (by omega)]; exact hv, hdv⟩
      · have hi2 : i = vs.length := by have := (List.getElem?_eq_some_iff.1 hi).1; simp at this; omega
        subst hi2
        simp only [List.getElem?_append_right (Nat.le_refl _), Nat.sub_self, List.getElem?_cons_zero, Option.some.injEq] at hi
        subst hi
        exact ⟨σ w, by rw [Array.getElem?_push, if_pos h3.symm]; rfl, hdw⟩
  · have hst := hK.law.stays W hl
    have hjl : j < es.size := (Array.getElem?_eq_some_iff.1 he1).1
    refine Runs.skip (W' := W.putObj b (.map (es.modify j fun e => { e with key := u, val := σ w }) clock)) ?_ (put _ _ ks (vs.set j z) (by simp [h2]) (by simp [h3]) ?_ ?_ (hfound j y hj1 hj3))
    · simp only [execOp, ho, Instr.mapUpdate, Sem.run_bind, run_underlying hK.map, Result.andThen_ok, e, getObj, setObj, Sem.run, h1, hdk, Sem.run_pure, hchk, hf, he1, Option.map_some, Option.getD_some, he2, hst]
      rfl
    · refine DenL.of fun i y hi => ?_
      obtain ⟨v, hv, hdv⟩ := h4.at hi
      obtain ⟨en', hen, hkey⟩ := Option.map_eq_some_iff.1 hv
      refine ⟨v, ?_, hdv⟩
      rw [Array.getElem?_modify]
      split
      · rename_i e'
        subst e'
        rw [he1] at hen; cases hen
        rw [he1]
        simp only [Option.map_some]
        rw [← hkey, he2]
      · rw [hen]; simp [hkey]
    · refine DenL.of fun i y hi => ?_
      rw [List.getElem?_set] at hi
      rw [Array.getElem?_modify]
      split at hi
      · rename_i e'
        subst e'
        split at hi
        · cases hi
          rw [if_pos rfl, he1]
          exact ⟨σ w, rfl, hdw⟩
        · cases hi
      · rename_i e'
        rw [if_neg e']
        exact h5.at hi

theorem OpW.callY {o : Oper} {ev : Operand → Option AV} {K : AV → Hp → Prop} {y : Operand} {args : Array Operand} {ts : Array TypeId} {f : FuncId} {fs cs xs ys : List AV}
    (ho : o.op = .call { callee := .value y, args := args, argTypes := ts }) (hy : ev y = some (.fn (.func f) fs cs)) (hx : mapEv ev args.toList = some xs) (hall : fs ++ xs ++ cs = ys) (eg : EntersF P f)
    (h : CallV P f ys H K) : OpW P o ev H K := OpW.call ho hy hx eg (hall ▸ h)
theorem LexD.step {N : Nat} {ops : Array Oper} {Q : Fr → Prop} {fr : Fr} {o : Oper} {l : List Oper} {x : AV} (hg : guardOf ops fr o = some true) (hN : (o.dst.all (· < N)) = true) (h : OpW P o fr.ev H (fun x' H' => x' = x ∧ H' = H))
    (hl : LexD P N ops H Q l (fr.put o.dst x)) : LexD P N ops H Q (o :: l) fr := ⟨hN, .inl ⟨hg, x, h, hl⟩⟩
theorem LexD.nilE {N : Nat} {ops : Array Oper} {Q : Fr → Prop} {fr : Fr} (h : Q fr) : LexD P N ops H Q [] fr := h
theorem WpV.regionDE {r : Option Nat} {N id : Nat} {l : List Oper} {Q : Exit → Fr → List Nat → Hp → Prop} {fr fr' : Fr} {D : List Nat} (hm : P.follows .mixedOrders = true) (hB : orderB l = true) (hK : backB l = true) (hc : (l.all Oper.calm) = true)
    (h : evOps P H N l.toArray l fr = some fr') (hmk : Marks D H) (hq : Q .normal fr' D H) : WpV P r N (.region id l.toArray true) Q fr D H :=
  WpV.regionD hm hB hK (by
    have := LexD.evs (P := P) (N := N) (ops := l.toArray) (H := H) (l2 := []) (Q := fun fr' => Marks D H ∧ Q .normal fr' D H) (fr' := fr') ⟨hmk, hq⟩ l fr hc h
    rwa [List.append_nil] at this)

/-- As 'WpV.loopN', with what is known of each round's number. -/
theorem WpV.loopP {r : Option Nat} {N : Nat} {c : Code} {Q : Exit → Fr → List Nat → Hp → Prop} {fr : Fr} {D : List Nat} (n : Nat) (Pr : Nat → Prop) (I : Nat → Fr) (J : Nat → Hp)
    (hp : Pr 0) (h0 : Sub (I 0) fr) (hH : J 0 = H)
    (round : ∀ k, k ≤ n → Pr k → WpV P r N c (Vthen (fun fr' D' H' => D' = D ∧ k < n ∧ Pr (k + 1) ∧ Sub (I (k + 1)) fr' ∧ J (k + 1) = H') Q) (I k) D (J k)) : WpV P r N (.loop c) Q fr D H :=
  WpV.loop (ι := { k : Nat // k ≤ n ∧ Pr k }) (fun k => I k.1) (fun k => J k.1) (fun k => n - k.1) ⟨0, Nat.zero_le _, hp⟩ h0 hH fun k =>
    (round k.1 k.2.1 k.2.2).mono fun e fr' D' H' h => by
      cases e with
      | normal =>
        obtain ⟨e, hk, hp, hs, hj⟩ := h
        exact ⟨e, ⟨k.1 + 1, hk, hp⟩, by simp only; omega, hs, hj⟩
      | _ => exact h
end Go.Proofs.YtaekibilldjnmaaGreat
namespace Go.Proofs.YtaekibilldjnmaaGreat
variable {P : Program} {H0 H : Hp}

/-- A row under way: none yet, or an object of its own. -/
def Bld (H0 : Hp) (e : TypeId) (s : Nat) (nl : Bool) (m : Nat) (xs : List AV) (v : AV) (H : Hp) : Prop :=
  xs.length = m * s ∧ ((m = 0 ∧ xs = [] ∧ v = .sl nl true 0 [] ∧ H = H0) ∨ (0 < m ∧ ∃ id ver, H0 id = none ∧ v = .rs id ver s 0 m false ∧ H = H0.set id (some (.cells e ver xs))))
theorem Bld.nil (H0 : Hp) (e : TypeId) (s : Nat) (nl : Bool) : Bld H0 e s nl 0 [] (.sl nl true 0 []) H0 := ⟨by simp, .inl ⟨rfl, rfl, rfl, rfl⟩⟩

theorem OpW.appendB {o : Oper} {ev : Operand → Option AV} {t t2 e : TypeId} {a y : Operand} {nl : Bool} {len m s : Nat} {xs ys : List AV} {v y' : AV} {K : AV → Hp → Prop}
    (ho : o.op = .call { callee := .builtin .append, args := #[a, y], argTypes := #[t, t2] }) (hb : Bld H0 e s nl len xs v H) (ha : ev a = some v) (hy : ev y = some y') (hv : viewS H y' = some (m, ys))
    (hE : Elem P t e s (len + m)) (hu2 : P.underlying t2 = some (.slice e)) (hl2 : ys.length = m * s) (h1 : ys.all AV.one = true) (hm : 0 < m)
    (hk : ∀ v' H', Bld H0 e s nl (len + m) (xs ++ ys) v' H' → K v' H') : OpW P o ev H K := by
  obtain ⟨hl, ⟨rfl, rfl, rfl, rfl⟩ | ⟨hp, id, ver, hid, rfl, rfl⟩⟩ := hb
  · refine OpW.append ho ha hy hv hE hu2 (by simp) hl2 h1 hm fun id hid => hk _ _ ⟨by simp [hl2], .inr ⟨by omega, id, 0, hid, rfl, by simp⟩⟩
  · refine OpW.appendO ho ha (Hp.set_eq _ _ _) hy hv hE hu2 (by omega) hl2 h1 ?_
    rw [Hp.set_set]
    refine hk _ _ ⟨by simp [hl, hl2, Nat.add_mul], .inr ⟨by omega, id, ver + 1, hid, rfl, ?_⟩⟩
    rw [List.take_of_length_le (by omega)]

theorem Bld.frz {e : TypeId} {s m : Nat} {nl : Bool} {xs : List AV} {v : AV} {fr : Fr} {t : Nat} (hb : Bld H0 e s nl m xs v H) (ht : fr.get t = some v) : Frz fr H ((t, .sl (nl && decide (m = 0)) (decide (m = 0)) m xs) :: fr) H0 := by
  obtain ⟨hl, ⟨rfl, rfl, rfl, rfl⟩ | ⟨hp, id, ver, hid, rfl, rfl⟩⟩ := hb
  · refine Frz.weaken fun k x hx => ?_
    simp only [Fr.get] at hx
    split at hx
    · rename_i e'; subst e'; cases hx; simpa using ht
    · exact hx
  · have := Frz.slice (ty := e) (cs := xs) ht (Hp.set_eq H0 id _)
    rw [Hp.set_set, Hp.set_same _ _ _ hid, List.drop_zero, List.take_of_length_le (by omega)] at this
    have e1 : decide (m = 0) = false := by simp; omega
    rw [e1, Bool.and_false]
    exact this

/-- A loop of n rounds at most that lays a row; what is known of each round's number. -/
theorem WpV.loopB {r : Option Nat} {N : Nat} {c : Code} {Q : Exit → Fr → List Nat → Hp → Prop} {fr : Fr} {D : List Nat} (e : TypeId) (s : Nat) (nl : Bool) (n : Nat) (Pr : Nat → Prop) (M : Nat → Nat) (X : Nat → List AV) (I : Nat → AV → Fr) {v0 : AV}
    (hp : Pr 0) (hB : Bld H0 e s nl (M 0) (X 0) v0 H) (h0 : Sub (I 0 v0) fr)
    (round : ∀ k, k ≤ n → Pr k → ∀ v H, Bld H0 e s nl (M k) (X k) v H → WpV P r N c (Vthen (fun fr' D' H' => D' = D ∧ k < n ∧ Pr (k + 1) ∧ ∃ v', Bld H0 e s nl (M (k + 1)) (X (k + 1)) v' H' ∧ Sub (I (k + 1) v') fr') Q) (I k v) D H) : WpV P r N (.loop c) Q fr D H :=
  WpV.loop (ι := { p : Nat × AV × Hp // p.1 ≤ n ∧ Pr p.1 ∧ Bld H0 e s nl (M p.1) (X p.1) p.2.1 p.2.2 }) (fun p => I p.1.1 p.1.2.1) (fun p => p.1.2.2) (fun p => n - p.1.1) ⟨(0, v0, H), Nat.zero_le _, hp, hB⟩ h0 rfl fun p =>
    (round p.1.1 p.2.1 p.2.2.1 p.1.2.1 p.1.2.2 p.2.2.2).mono fun e' fr' D' H' h => by
      cases e' with
      | normal =>
        obtain ⟨e1, hk, hp, v', hb', hs⟩ := h
        exact ⟨e1, ⟨(p.1.1 + 1, v', H'), hk, hp, hb'⟩, by simp only; omega, hs, rfl⟩
      | _ => exact h
end Go.Proofs.YtaekibilldjnmaaGreat
namespace Go.Proofs.YtaekibilldjnmaaGreat
variable {P : Program} {H : Hp}

/-- As 'LexD', whatever the objects are. -/
def LexU (P : Program) (N : Nat) (ops : Array Oper) (Q : Fr → Prop) : List Oper → Fr → Prop
  | [], fr => Q fr
  | o :: l, fr => (o.dst.all (· < N)) = true ∧ Oper.calm o = true ∧ ((guardOf ops fr o = some true ∧ ∃ x, (∀ H, OpW P o fr.ev H (fun x' H' => x' = x ∧ H' = H)) ∧ LexU P N ops Q l (fr.put o.dst x)) ∨ (guardOf ops fr o = some false ∧ LexU P N ops Q l (fr.put o.dst (.tup []))))

theorem evOps_cons {N : Nat} {ops : Array Oper} {o : Oper} {l : List Oper} {fr fr' : Fr} (h : evOps P H N ops (o :: l) fr = some fr') : (o.dst.all (· < N)) = true ∧
    ((guardOf ops fr o = some true ∧ ∃ x, evP P H fr.ev o.op = some x ∧ evOps P H N ops l (fr.put o.dst x) = some fr') ∨ (guardOf ops fr o = some false ∧ evOps P H N ops l (fr.put o.dst (.tup [])) = some fr')) := by
  unfold evOps at h
  split at h
  · rename_i hg hN
    split at h
    · rename_i x hx; exact ⟨hN, .inl ⟨hg, x, hx, h⟩⟩
    · cases h
  · rename_i hg hN; exact ⟨hN, .inr ⟨hg, h⟩⟩
  · cases h
theorem evOps_pre {N : Nat} {ops : Array Oper} {fr' : Fr} : ∀ (l : List Oper) (fr : Fr), (l.all fun o => o.dst.isSome) = true → evOps P H N ops l fr = some fr' → ∃ pre, fr' = pre ++ fr ∧ pre.length = l.length
  | [], fr, _, h => by cases h; exact ⟨[], rfl, rfl⟩
  | o :: l, fr, hd, h => by
    simp only [List.all_cons, Bool.and_eq_true] at hd
    obtain ⟨d, hd1⟩ := Option.isSome_iff_exists.1 hd.1
    have go : ∀ x, evOps P H N ops l (fr.put o.dst x) = some fr' → ∃ pre, fr' = pre ++ fr ∧ pre.length = (o :: l).length := by
      intro x hx
      obtain ⟨pre, h1, h2⟩ := evOps_pre l _ hd.2 hx
      rw [hd1] at h1
      exact ⟨pre ++ [(d, x)], by rw [h1]; simp [Fr.put], by simp [h2]⟩
    rcases (evOps_cons h).2 with ⟨-, x, -, hx⟩ | ⟨-, hx⟩ <;> exact go _ hx

theorem LexU.evs {N : Nat} {ops : Array Oper} {Q : Fr → Prop} {fr' : Fr} {l2 : List Oper} (h2 : LexU P N ops Q l2 fr') : ∀ (l1 : List Oper) (fr : Fr), (l1.all Oper.calm) = true → (l1.all fun o => o.dst.isSome) = true → (∀ H, evOps P H N ops l1 fr = some fr') → LexU P N ops Q (l1 ++ l2) fr
  | [], fr, _, _, h => by have := h (fun _ => none); cases this; exact h2
  | o :: l, fr, hc, hd, h => by
    simp only [List.all_cons, Bool.and_eq_true] at hc hd
    obtain ⟨d, hd1⟩ := Option.isSome_iff_exists.1 hd.1
    obtain ⟨hN, h0⟩ := evOps_cons (h (fun _ => none))
    rcases h0 with ⟨hg, x, hx1, hx2⟩ | ⟨hg, -⟩
    · refine ⟨hN, hc.1, .inl ⟨hg, x, ?_⟩⟩
      have all : ∀ H, evP P H fr.ev o.op = some x ∧ evOps P H N ops l (fr.put o.dst x) = some fr' := by
        intro H
        rcases (evOps_cons (h H)).2 with ⟨-, y, hy1, hy2⟩ | ⟨hg', -⟩
        · obtain ⟨p1, e1, e2⟩ := evOps_pre l _ hd.2 hx2
          obtain ⟨p2, e3, e4⟩ := evOps_pre l _ hd.2 hy2
          rw [e1, hd1] at e3
          have := (List.append_inj e3 (by omega)).2
          simp only [Fr.put, List.cons.injEq, Prod.mk.injEq, true_and, and_true] at this
          subst this
          exact ⟨hy1, hy2⟩
        · rw [hg] at hg'; cases hg'
      exact ⟨fun H => OpW.ev (all H).1 ⟨rfl, rfl⟩, LexU.evs h2 l _ hc.2 hd.2 fun H => (all H).2⟩
    · refine ⟨hN, hc.1, .inr ⟨hg, LexU.evs h2 l _ hc.2 hd.2 fun H => ?_⟩⟩
      rcases (evOps_cons (h H)).2 with ⟨hg', -⟩ | ⟨-, hy⟩
      · rw [hg] at hg'; cases hg'
      · exact hy
theorem LexU.take {N : Nat} {ops : Array Oper} {Q : Fr → Prop} {fr fr' : Fr} {l : List Oper} (k : Nat) (hc : ((l.take k).all Oper.calm) = true) (hd : ((l.take k).all fun o => o.dst.isSome) = true) (h : ∀ H, evOps P H N ops (l.take k) fr = some fr') (h2 : LexU P N ops Q (l.drop k) fr') : LexU P N ops Q l fr := by
  have := LexU.evs (P := P) (N := N) h2 (l.take k) fr hc hd h
  rwa [List.take_append_drop] at this
theorem LexU.step {N : Nat} {ops : Array Oper} {Q : Fr → Prop} {fr : Fr} {o : Oper} {l : List Oper} {x : AV} (hg : guardOf ops fr o = some true) (hN : (o.dst.all (· < N)) = true) (hc : Oper.calm o = true) (h : ∀ H, OpW P o fr.ev H (fun x' H' => x' = x ∧ H' = H))
    (hl : LexU P N ops Q l (fr.put o.dst x)) : LexU P N ops Q (o :: l) fr := ⟨hN, hc, .inl ⟨hg, x, h, hl⟩⟩
theorem LexU.nilE {N : Nat} {ops : Array Oper} {Q : Fr → Prop} {fr : Fr} (h : Q fr) : LexU P N ops Q [] fr := h

theorem LexU.toB {N : Nat} {ops : Array Oper} {isn : Nat → Bool} {Qf : Fr → Prop} {Hs : (Nat → Nat) → (Nat → Bool) → Hp} {Q : (Nat → Nat) → Fr → Prop} {l2 : List Oper} : ∀ (l1 : List Oper) (i : Nat) (fr : Fr), LexU P N ops Qf l1 fr →
    (∀ fr1, Qf fr1 → LexB P N ops H isn Hs Q (i + l1.length) l2 (fun _ => fr1)) → (∀ j, i ≤ j → j < i + l1.length → ∀ ids b, Hs ids (upd b j) = Hs ids b) → LexB P N ops H isn Hs Q i (l1 ++ l2) (fun _ => fr)
  | [], i, fr, h, h2, _ => h2 fr h
  | o :: l, i, fr, ⟨hN, hc, h⟩, h2, hs => by
    have e := hs i (Nat.le_refl _) (by simp)
    have rest : ∀ fr', LexU P N ops Qf l fr' → LexB P N ops H isn Hs Q (i + 1) (l ++ l2) (fun _ => fr') := fun fr' hl =>
      LexU.toB l (i + 1) fr' hl (fun fr1 hq => by have := h2 fr1 hq; rwa [List.length_cons, show i + (l.length + 1) = i + 1 + l.length by omega] at this) (fun j h1 h3 => hs j (by omega) (by simp only [List.length_cons]; omega))
    refine ⟨hN, hc, ?_⟩
    rcases h with ⟨hg, x, hx, hl⟩ | ⟨hg, hl⟩
    · exact .inl ⟨fun _ => hg, x, fun ids b _ => by rw [e]; exact hx _, rest _ hl⟩
    · exact .inr (.inl ⟨fun _ => hg, fun ids b _ => e ids b, rest _ hl⟩)

theorem LexU.get {N : Nat} {ops : Array Oper} {Q : Fr → Prop} : ∀ (l : List Oper) (fr : Fr), LexU P N ops Q l fr → ∃ fr1, Q fr1 ∧ LexU P N ops (fun f => f = fr1) l fr
  | [], fr, h => ⟨fr, h, rfl⟩
  | o :: l, fr, ⟨hN, hc, h⟩ => by
    rcases h with ⟨hg, x, hx, hl⟩ | ⟨hg, hl⟩
    · obtain ⟨fr1, h1, h2⟩ := LexU.get l _ hl
      exact ⟨fr1, h1, hN, hc, .inl ⟨hg, x, hx, h2⟩⟩
    · obtain ⟨fr1, h1, h2⟩ := LexU.get l _ hl
      exact ⟨fr1, h1, hN, hc, .inr ⟨hg, h2⟩⟩

theorem WpV.regionAS {r : Option Nat} {N id n : Nat} {l l1 : List Oper} {oa os : Oper} {d : Tmp} {y : Operand} {t : TypeId} {zs : List AV} {Q : Exit → Fr → List Nat → Hp → Prop} {fr : Fr} {D : List Nat} (hm : P.follows .mixedOrders = true) (hB : orderB l = true) (hK : backB l = true)
    (hl : l = l1 ++ [oa, os]) (hn : l1.length = n) (hoa : oa.op = .alloc t) (hga : oa.guard = none) (hda : oa.dst = some d) (hdN : d < N) (hos : os.op = .store t (.tmp d) y) (hgs : os.guard = none) (hds : os.dst = none) (hbn : n ∈ bindsOn os) (hz : zeroT P t = some zs) (hmk : Marks D H)
    (h : LexU P N l.toArray (fun fr1 => ∃ x xs, Fr.ev ((d, AV.any) :: fr1) y = some x ∧ (∀ id, Fr.ev ((d, AV.rp id 0 0) :: fr1) y = some x) ∧ x.cells = some xs ∧ sizeT P t = some xs.length ∧ xs.length = zs.length ∧
      ∀ id, H id = none → Q .normal ((d, .rp id 0 0) :: fr1) D (H.set id (some (.cells t 0 xs)))) l1 fr) : WpV P r N (.region id l.toArray true) Q fr D H := by
  subst hl hn
  have hca : Oper.calm oa = true := by simp [Oper.calm, hoa]
  have hcs : Oper.calm os = true := by simp [Oper.calm, hos]
  obtain ⟨fr1, ⟨x, xs, hy0, hy, hxs, hsz, hlen, hQ⟩, hU⟩ := LexU.get _ _ h
  have hoaK : (l1 ++ [oa, os])[l1.length]? = some oa := by simp
  have hosK : (l1 ++ [oa, os])[l1.length + 1]? = some os := by simp
  refine WpV.regionB (H := H) hm hB hK (fun j => decide (j = l1.length)) (fun ids b => if b l1.length = true then (if b (l1.length + 1) = true then H.set (ids l1.length) (some (.cells t 0 xs)) else H.set (ids l1.length) (some (.cells t 0 zs))) else H) (fun ids => by simp) (fun ids ids' b hb => ?_) (fun ids b j hj hb => ?_) (fun ids b id _ hn => ?_) ?_
  · by_cases h1 : b l1.length = true
    · simp only [h1, if_true, hb _ (by simp) h1]
    · simp only [if_neg h1]
  · have hj' : j = l1.length := of_decide_eq_true hj
    subst hj'
    simp only [hb, if_true]
    split <;> simp [Hp.set]
  · have hset : ∀ (i : Nat) (o : Ob), (H.set i (some o)) id = none → H id = none := fun i o h => by
      simp only [Hp.set] at h
      split at h
      · cases h
      · exact h
    by_cases h1 : b l1.length = true
    · by_cases h2 : b (l1.length + 1) = true
      · simp only [h1, h2, if_true] at hn; exact hset _ _ hn
      · simp only [h1, if_true, if_neg h2] at hn; exact hset _ _ hn
    · simp only [if_neg h1] at hn; exact hn
  · refine LexU.toB l1 0 fr hU ?_ ?_
    · rintro _ rfl
      rw [Nat.zero_add]
      refine ⟨by rw [hda]; simpa using hdN, hca, .inr (.inr ⟨by simp, fun _ => by simp [guardOf, hga], fun id => .rp id 0 0, .cells t 0 zs, fun ids b _ => OpW.alloc hoa hz fun id hid => ⟨id, hid, rfl, rfl⟩, fun ids b hg => ?_, ?_⟩)⟩
      · have h1 := hg.wait (l1.length + 1) os (by simp) hbn
        have h2 := hg.not
        simp [upd, h1, h2]
      · rw [hda]
        refine ⟨by rw [hds]; rfl, hcs, .inl ⟨fun _ => by simp [guardOf, hgs], .any, fun ids b hg => ?_, ?_⟩⟩
        · have hb := hg.done _ hbn
          have hb1 := hg.not
          refine OpW.store (ty := t) (cs := zs) (id := ids l1.length) (ver := 0) (off := 0) hos (by simp [Fr.ev, Fr.put, Fr.get]) (hy _) ?_ hxs hsz (by omega) ?_
          · simp only [hb, if_true, hb1]
            simp [Hp.set_eq]
          · refine ⟨rfl, ?_⟩
            have hput : putC zs 0 xs = xs := by
              simp only [putC, List.take_zero, List.nil_append, Nat.zero_add]
              rw [List.drop_of_length_le (by omega), List.append_nil]
            simp [hb, hb1, upd, Hp.set_set, hput]
        · intro ids hf _
          have hl2 : (l1 ++ [oa, os]).length = l1.length + 2 := by simp
          simp only [hl2, show decide (l1.length < l1.length + 2) = true by simp, show decide (l1.length + 1 < l1.length + 2) = true by simp, if_true]
          rw [hds]
          refine ⟨fun k hk => ?_, hQ _ (hf _)⟩
          rw [Hp.set_ne _ _ (fun e => by have := hmk k hk; rw [e, hf] at this; cases this)]
          exact hmk k hk
    · intro j _ hj ids b
      have h1 : l1.length + 1 ≠ j := by omega
      have h2 : l1.length ≠ j := by omega
      simp [upd, h1, h2]
theorem WpV.regionAN {r : Option Nat} {N id : Nat} {l : List Oper} {oa os : Oper} {d : Tmp} {y : Operand} {t : TypeId} {zs : List AV} {Q : Exit → Fr → List Nat → Hp → Prop} {fr : Fr} {D : List Nat} (n : Nat) (hm : P.follows .mixedOrders = true) (hB : orderB l = true) (hK : backB l = true)
    (hl : l.drop n = [oa, os]) (hn : (l.take n).length = n) (hoa : oa.op = .alloc t) (hga : oa.guard = none) (hda : oa.dst = some d) (hdN : d < N) (hos : os.op = .store t (.tmp d) y) (hgs : os.guard = none) (hds : os.dst = none) (hbn : n ∈ bindsOn os) (hz : zeroT P t = some zs) (hmk : Marks D H)
    (h : LexU P N l.toArray (fun fr1 => ∃ x xs, Fr.ev ((d, AV.any) :: fr1) y = some x ∧ (∀ id, Fr.ev ((d, AV.rp id 0 0) :: fr1) y = some x) ∧ x.cells = some xs ∧ sizeT P t = some xs.length ∧ xs.length = zs.length ∧
      ∀ id, H id = none → Q .normal ((d, .rp id 0 0) :: fr1) D (H.set id (some (.cells t 0 xs)))) (l.take n) fr) : WpV P r N (.region id l.toArray true) Q fr D H :=
  WpV.regionAS (n := n) (l1 := l.take n) hm hB hK (by rw [← hl, List.take_append_drop]) hn hoa hga hda hdN hos hgs hds hbn hz hmk h
end Go.Proofs.YtaekibilldjnmaaGreat
namespace Go.Proofs.YtaekibilldjnmaaGreat
variable {P : Program} {H : Hp}

def LexT (P : Program) (N : Nat) (ops : Array Oper) (Q : Fr → Hp → Prop) : List Oper → Fr → Hp → Prop
  | [], fr, H => Q fr H
  | o :: l, fr, H => (o.dst.all (· < N)) = true ∧ ((guardOf ops fr o = some true ∧ OpW P o fr.ev H (fun x H' => LexT P N ops Q l (fr.put o.dst x) H')) ∨ (guardOf ops fr o = some false ∧ LexT P N ops Q l (fr.put o.dst (.tup [])) H))

def bindsAt (l : List Oper) (i : Nat) : List Nat := match l[i]? with | some o => bindsOn o | none => []
def reachB (l : List Oper) : Nat → Nat → Nat → Bool
  | 0, _, _ => false
  | f + 1, i, j => (bindsAt l i).any (fun k => k == j) || (bindsAt l i).any (fun k => reachB l f k j)
theorem reach_in {l : List Oper} {R : Nat → Prop} (hR : ∀ k, R k → ∀ j ∈ bindsAt l k, R j) : ∀ (f i j : Nat), (∀ k ∈ bindsAt l i, R k) → reachB l f i j = true → R j
  | 0, i, j, _, h => by simp [reachB] at h
  | f + 1, i, j, hi, h => by
    unfold reachB at h
    rw [Bool.or_eq_true] at h
    rcases h with h | h
    · obtain ⟨k, hk, h2⟩ := List.any_eq_true.1 h
      have : k = j := by simpa using h2
      exact this ▸ hi k hk
    · obtain ⟨k, hk, h2⟩ := List.any_eq_true.1 h
      exact reach_in hR f k j (hR k (hi k hk)) h2
def tailB (l1 l2 : List Oper) : Bool :=
  (List.range l2.length).all (fun i => (List.range (l1.length + i)).all fun j => reachB (l1 ++ l2) (l1.length + l2.length) (l1.length + i) j) &&
  l1.all (fun o => match o.guard with | some (g, _) => decide (g < l1.length) | none => true)
theorem tailB_at {l1 l2 : List Oper} (h : tailB l1 l2 = true) {i j : Nat} (h1 : l1.length ≤ i) (h2 : i < l1.length + l2.length) (hj : j < i) : reachB (l1 ++ l2) (l1.length + l2.length) i j = true := by
  unfold tailB at h
  rw [Bool.and_eq_true] at h
  have h3 := List.all_eq_true.1 h.1 (i - l1.length) (by simp; omega)
  have h4 := List.all_eq_true.1 h3 j (by simp; omega)
  rwa [show l1.length + (i - l1.length) = i by omega] at h4
theorem tailB_guard {l1 l2 : List Oper} (h : tailB l1 l2 = true) {o : Oper} (ho : o ∈ l1) {g : Nat} {w : Bool} (hg : o.guard = some (g, w)) : g < l1.length := by
  unfold tailB at h
  rw [Bool.and_eq_true] at h
  have := List.all_eq_true.1 h.2 o ho
  rw [hg] at this
  simpa using this
theorem mem_bindsAt {l : List Oper} {i : Nat} {o : Oper} (ho : l[i]? = some o) {k : Nat} : k ∈ bindsAt l i ↔ ∃ e ∈ o.after, Region.binds .any e = true ∧ e.on = k := by
  unfold bindsAt bindsOn
  rw [ho]
  simp only [List.mem_map, List.mem_filter, Array.mem_toList_iff]
  constructor
  · rintro ⟨e, ⟨h1, h2⟩, h3⟩; exact ⟨e, h1, h2, h3⟩
  · rintro ⟨e, h1, h2, h3⟩; exact ⟨e, ⟨h1, h2⟩, h3⟩

theorem ops_at (l1 l2 : List Oper) {i : Nat} (h : i < l1.length) : (l1 ++ l2)[i]? = l1[i]? := by rw [List.getElem?_append_left h]

/-- What an operation does, told of one frame, at an activation that has its slots. -/
theorem op_at {r : Option Nat} {o : Oper} {fr : Fr} {ρ : Own} {W : World} {b : Act} {K : AV → Hp → Prop} {next : Act → World → Prop} {Qx : Exit → Act → World → Prop}
    (hop : OpW P o fr.ev H K) (hev : ∀ y ∈ o.op.operands, ∀ z, fr.ev y = some z → Den ρ W z (b.eval y)) (hd : HD ρ W H)
    (hn : ∀ v W' ρ' x H', Ext ρ W ρ' W' → Den ρ' W' x v → HD ρ' W' H' → K x H' → next (b.put o.dst v) W') : o.wpIn (Fw r) 0 P b W next Qx :=
  Runs.wpIn hop.calm (hop.runs ρ W b.eval hev hd) fun v W' ⟨ρ', x, H', q, hv, hd', hk⟩ => hn v W' ρ' x H' q hv hd' hk

theorem guard_at {N : Nat} {ops : Array Oper} {fr : Fr} {ρ : Own} {W : World} {b : Act} {o : Oper} {g : Bool} (hslot : ∀ j want d, o.guard = some (j, want) → (ops[j]?).bind (·.dst) = some d → ∀ z, fr.get d = some z → ∃ v, b.tmps[d]? = some v ∧ Den ρ W z v) (hg : guardOf ops fr o = some g) : Region.wanted o (yielded ops b.tmps) = g := by
  unfold guardOf at hg
  unfold Region.wanted
  cases hgo : o.guard with
  | none => rw [hgo] at hg; simpa using hg
  | some gw =>
    obtain ⟨j, want⟩ := gw
    rw [hgo] at hg
    simp only at hg ⊢
    split at hg
    · rename_i c hc2
      cases hg
      obtain ⟨d, hd2, hx⟩ := Option.bind_eq_some_iff.1 hc2
      obtain ⟨v, hv, hden⟩ := hslot j want d hgo hd2 _ hx
      rw [Den] at hden
      subst hden
      unfold yielded
      rw [hd2, Option.bind_some, hv]
      cases c <;> cases want <;> rfl
    · rename_i hc2
      cases hg
      obtain ⟨d, hd2, hx⟩ := Option.bind_eq_some_iff.1 hc2
      obtain ⟨v, hv, hden⟩ := hslot j want d hgo hd2 _ hx
      have := wanted_undef hgo hd2 hv hden
      unfold Region.wanted at this
      rw [hgo] at this
      exact this
    · cases hg

structure TInv (l1 l2 : List Oper) (N : Nat) (xs : List AV) (fr : Fr) (ρ0 : Own) (W0 : World) (H : Hp) (ds : List Deferred) (listed : Array Bool) (b : Act) (W : World) : Prop where
  size : listed.size = (l1 ++ l2).length
  tmps : b.tmps.size = N
  defs : b.defers = ds
  low : ∀ j, l1.length ≤ j → listed[j]? ≠ some true
  closed : ∀ k, listed[k]? = some true → ∀ j ∈ bindsAt (l1 ++ l2) k, listed[j]? = some true
  st : ∃ ρ, Ext ρ0 W0 ρ W ∧ HD ρ W H ∧ (∀ t x, fr.get t = some x → (∀ j, dstAt l1 j = some t → listed[j]? ≠ some true) → ∃ v, b.tmps[t]? = some v ∧ Den ρ W x v) ∧
    (∀ j x d, listed[j]? = some true → xs[j]? = some x → dstAt l1 j = some d → ∃ v, b.tmps[d]? = some v ∧ Den ρ W x v)

theorem count_pref (listed : Array Bool) {n m : Nat} (hs : listed.size = m) (h : ∀ j, listed[j]? = some true ↔ j < n) : n + listed.toList.count false = max n m := by
  cases listed with
  | mk l =>
    simp only [List.size_toArray, List.getElem?_toArray] at hs h ⊢
    induction l generalizing n m with
    | nil =>
      have : m = 0 := by simpa using hs.symm
      subst this
      simp
    | cons x l ih =>
      obtain ⟨m, rfl⟩ : ∃ k, m = k + 1 := ⟨l.length, by simpa using hs.symm⟩
      cases n with
      | zero =>
        have hx : x = false := by
          cases x with
          | false => rfl
          | true => exact absurd ((h 0).1 rfl) (by omega)
        subst hx
        have := ih (n := 0) (m := m) (by simpa using hs) (fun j => ⟨fun hj => by have := (h (j + 1)).1 (by simpa using hj); omega, fun hj => by omega⟩)
        simp only [List.count_cons_self]
        omega
      | succ n =>
        have hx : x = true := by have := (h 0).2 (by omega); simpa using this
        subst hx
        have := ih (n := n) (m := m) (by simpa using hs) (fun j => by have := h (j + 1); simp only [List.getElem?_cons_succ] at this; rw [this]; omega)
        rw [List.count_cons_of_ne (by decide)]
        omega

theorem WpV.regionT {r : Option Nat} {N id : Nat} {l1 l2 : List Oper} {Q : Exit → Fr → List Nat → Hp → Prop} {fr : Fr} {D : List Nat} (hm : P.follows .mixedOrders = true) (hB : orderB l1 = true) (hK : backB (l1 ++ l2) = true) (hT : tailB l1 l2 = true)
    (h : LexD P N (l1 ++ l2).toArray H (fun fr1 => LexT P N (l1 ++ l2).toArray (fun fr' H' => Marks D H' ∧ Q .normal fr' D H') l2 fr1 H) l1 fr) : WpV P r N (.region id (l1 ++ l2).toArray true) Q fr D H := by
  intro r ρ0 W0 a hr0 hs0 hf0 hd0
  obtain ⟨xs, hxl, hQ, hat⟩ := LexD.out l1 fr h
  refine wpIn_region_any hm ?_
  -- the tail, one after another
  have goB : ∀ (m i : Nat) (listed : Array Bool) (b : Act) (W : World), i + m = (l1 ++ l2).length → l1.length ≤ i → listed.size = (l1 ++ l2).length → (∀ j, listed[j]? = some true ↔ j < i) → listed.toList.count false = m →
      (∃ ρ fr' H', Ext ρ0 W0 ρ W ∧ Sim N fr' ρ W b ∧ b.defers = a.defers ∧ HD ρ W H' ∧ LexT P N (l1 ++ l2).toArray (fun fr' H' => Marks D H' ∧ Q .normal fr' D H') ((l1 ++ l2).drop i) fr' H') →
      wpAnyIn (Fw r) 0 P .any (l1 ++ l2).toArray (fun e a' W' => ∃ ρ' fr' D' H', Ext ρ0 W0 ρ' W' ∧ Sim N fr' ρ' W' a' ∧ Defs ρ' D' a'.defers ∧ HD ρ' W' H' ∧ Q e fr' D' H') m listed b W := by
    intro m
    induction m with
    | zero =>
      rintro i listed b W him hil hsz hiff hcnt ⟨ρ, fr', H', q, hs, hdf, hd, ht⟩
      refine ⟨?_, ?_⟩
      · cases hr : Region.ready .any (l1 ++ l2).toArray listed with
        | nil => rfl
        | cons x xs =>
          have hx : x ∈ Region.ready .any (l1 ++ l2).toArray listed := by rw [hr]; simp
          obtain ⟨h1, o, ho, -⟩ := mem_ready.1 hx
          have h2 := getD_false h1
          rw [(hiff x).2 (by have := (Array.getElem?_eq_some_iff.1 h2).1; omega)] at h2
          cases h2
      · rw [List.drop_of_length_le (by omega)] at ht
        obtain ⟨hmk, hq⟩ := ht
        exact ⟨ρ, fr', D, H', q, hs, by rw [hdf]; exact Defs.of_marks q hd hmk hf0, hd, hq⟩
    | succ m ih =>
      rintro i listed b W him hil hsz hiff hcnt ⟨ρ, fr', H', q, hs, hdf, hd, ht⟩
      have hi : i < (l1 ++ l2).length := by omega
      have hun : listed[i]? = some false := by
        have h1 : i < listed.size := by omega
        cases e : listed[i] with
        | false => rw [Array.getElem?_eq_getElem h1, e]
        | true => exact absurd ((hiff i).1 (by rw [Array.getElem?_eq_getElem h1, e])) (by omega)
      refine ⟨fun hr => ?_, fun i' hir => ?_⟩
      · have : i ∈ Region.ready .any (l1 ++ l2).toArray listed := by
          refine mem_ready.2 ⟨by rw [Array.getD_eq_getD_getElem?, hun]; rfl, (l1 ++ l2)[i], by simp [hi], fun e he hb => ?_⟩
          have h1 := backB_at hK (List.getElem?_eq_getElem hi) e he hb
          rw [Array.getD_eq_getD_getElem?, (hiff e.on).2 h1]; rfl
        rw [hr] at this; cases this
      · obtain ⟨hun', o, ho, hall⟩ := mem_ready.1 hir
        have hun2 := getD_false hun'
        have ho' : (l1 ++ l2)[i']? = some o := by simpa using ho
        have hil' : i' < (l1 ++ l2).length := (List.getElem?_eq_some_iff.1 ho').1
        have hge : i ≤ i' := by
          by_cases e : i' < i
          · rw [(hiff i').2 e] at hun2; cases hun2
          · omega
        have heq : i' = i := by
          by_cases e : i' = i
          · exact e
          · exfalso
            have hre := tailB_at hT (i := i') (j := i) (by omega) (by simpa using hil') (by omega)
            have := reach_in (l := l1 ++ l2) (R := fun k => listed[k]? = some true) (fun k hk j hj => by
              have hkl : k < i := (hiff k).1 hk
              obtain ⟨e, he, hb, rfl⟩ := (mem_bindsAt (List.getElem?_eq_getElem (show k < (l1 ++ l2).length by omega))).1 hj
              have := backB_at hK (List.getElem?_eq_getElem (show k < (l1 ++ l2).length by omega)) e he hb
              exact (hiff _).2 (by omega)) _ i' i (fun k hk => by
                obtain ⟨e, he, hb, rfl⟩ := (mem_bindsAt ho').1 hk
                exact getD_true (hall e he hb)) hre
            have := (hiff i).1 this
            omega
        subst heq
        rw [List.drop_eq_getElem_cons hil'] at ht
        have hoe : (l1 ++ l2)[i'] = o := by rw [List.getElem?_eq_getElem hil'] at ho'; exact Option.some.inj ho'
        rw [hoe] at ht
        obtain ⟨hN, ht⟩ := ht
        have hcnt' : (listed.setIfInBounds i' true).toList.count false = m := by have := count_set_false hun2; omega
        have hS : ∀ j, ((listed.setIfInBounds i' true)[j]? = some true) ↔ j < i' + 1 := by
          intro j
          rw [Array.getElem?_setIfInBounds]
          by_cases e : i' = j
          · subst e
            have := (Array.getElem?_eq_some_iff.1 hun2).1
            simp [this]
          · rw [if_neg e, hiff j]; omega
        have hnext : ∀ v W' ρ' x H'', Ext ρ W ρ' W' → Den ρ' W' x v → HD ρ' W' H'' → LexT P N (l1 ++ l2).toArray (fun fr' H' => Marks D H' ∧ Q .normal fr' D H') ((l1 ++ l2).drop (i' + 1)) (fr'.put o.dst x) H'' →
            wpAnyIn (Fw r) 0 P .any (l1 ++ l2).toArray (fun e a' W' => ∃ ρ' fr' D' H', Ext ρ0 W0 ρ' W' ∧ Sim N fr' ρ' W' a' ∧ Defs ρ' D' a'.defers ∧ HD ρ' W' H' ∧ Q e fr' D' H') m (listed.setIfInBounds i' true) (b.put o.dst v) W' := by
          intro v W' ρ' x H'' q' hv hd' hk
          refine ih (i' + 1) _ _ _ (by omega) (by omega) (by rw [Array.size_setIfInBounds]; exact hsz) hS hcnt' ⟨ρ', fr'.put o.dst x, H'', q.trans hd0.live q', (hs.ext q' hd.live).put hN hv, by rw [put_defs]; exact hdf, hd', hk⟩
        unfold wpOpIn
        simp only [ho]
        rcases ht with ⟨hg, hop⟩ | ⟨hg, hk⟩
        · rw [guard_at (N := N) (fun j want d _ _ z hz => hs.fr d z hz) hg, if_pos rfl]
          exact op_at hop (fun y _ z hz => hs.eval hz) hd hnext
        · rw [guard_at (N := N) (fun j want d _ _ z hz => hs.fr d z hz) hg]
          exact ⟨fun _ _ => trivial, hnext _ _ ρ (.tup []) H' hd.refl Den.undef hd hk⟩
  -- the first operations are all done
  have trans : ∀ (m : Nat) (listed : Array Bool) (b : Act) (W : World), listed.toList.count false = m → TInv l1 l2 N xs fr ρ0 W0 H a.defers listed b W → (∀ j, j < l1.length → listed[j]? = some true) →
      wpAnyIn (Fw r) 0 P .any (l1 ++ l2).toArray (fun e a' W' => ∃ ρ' fr' D' H', Ext ρ0 W0 ρ' W' ∧ Sim N fr' ρ' W' a' ∧ Defs ρ' D' a'.defers ∧ HD ρ' W' H' ∧ Q e fr' D' H') m listed b W := by
    intro m listed b W hc hi hdone
    have hiff : ∀ j, listed[j]? = some true ↔ j < l1.length := fun j => ⟨fun e => by
      by_cases e2 : j < l1.length
      · exact e2
      · exact absurd e (hi.low j (by omega)), hdone j⟩
    obtain ⟨ρ, q, hd, hold, hnew⟩ := hi.st
    refine goB m l1.length listed b W ?_ (Nat.le_refl _) hi.size hiff hc ⟨ρ, putsA l1 xs fr, H, q, ⟨hi.tmps, fun t x hx => ?_⟩, hi.defs, hd, ?_⟩
    · have hcount := count_pref listed hi.size hiff
      simp only [List.length_append] at hcount ⊢
      omega
    · by_cases e : ∃ j, dstAt l1 j = some t
      · obtain ⟨j, hj⟩ := e
        have hjl : j < l1.length := by
          by_cases e : j < l1.length
          · exact e
          · simp [dstAt, List.getElem?_eq_none (Nat.le_of_not_lt e)] at hj
        have hxj : xs[j]? = some xs[j] := List.getElem?_eq_getElem (by omega)
        rw [putsA_new l1 xs fr t j _ hj (fun k hk => orderB_dst hB hk hj) hxj] at hx
        cases hx
        exact hnew j _ t (hdone j hjl) hxj hj
      · have e' : ∀ j, dstAt l1 j ≠ some t := fun j hj => e ⟨j, hj⟩
        rw [putsA_old l1 xs fr t e'] at hx
        exact hold t x hx (fun j hj => absurd hj (e' j))
    · rw [List.drop_left]; exact hQ
  have invA : ∀ (fuel : Nat) (listed : Array Bool) (b : Act) (W : World), listed.toList.count false = fuel → TInv l1 l2 N xs fr ρ0 W0 H a.defers listed b W →
      wpAnyIn (Fw r) 0 P .any (l1 ++ l2).toArray (fun e a' W' => ∃ ρ' fr' D' H', Ext ρ0 W0 ρ' W' ∧ Sim N fr' ρ' W' a' ∧ Defs ρ' D' a'.defers ∧ HD ρ' W' H' ∧ Q e fr' D' H') fuel listed b W := by
    intro fuel
    induction fuel with
    | zero =>
      intro listed b W hc hi
      refine trans 0 listed b W hc hi fun j hj => ?_
      have hj : j < listed.size := by rw [hi.size]; simp; omega
      cases e : listed[j] with
      | true => rw [Array.getElem?_eq_getElem hj, e]
      | false =>
        have : false ∈ listed.toList := by rw [← e]; exact Array.getElem_mem_toList hj
        have := List.count_pos_iff.2 this
        omega
    | succ fuel ih =>
      intro listed b W hc hi
      by_cases hdone : ∀ j, j < l1.length → listed[j]? = some true
      · exact trans _ listed b W hc hi hdone
      · have hle : l1.length ≤ listed.size := by rw [hi.size]; simp
        refine ⟨fun hr => ?_, fun i hir => ?_⟩
        · exfalso
          have hex : ∃ k, k < l1.length ∧ listed[k]? = some false := by
            simp only [Classical.not_forall] at hdone
            obtain ⟨k, hk, hne⟩ := hdone
            have hks : k < listed.size := by omega
            refine ⟨k, hk, ?_⟩
            cases e : listed[k] with
            | true => exact absurd (by rw [Array.getElem?_eq_getElem hks, e]) hne
            | false => rw [Array.getElem?_eq_getElem hks, e]
          obtain ⟨m, ⟨hm1, hm2⟩, hmin⟩ : ∃ m, (m < l1.length ∧ listed[m]? = some false) ∧ ∀ j, j < m → ¬ (j < l1.length ∧ listed[j]? = some false) := by
            obtain ⟨k, hk⟩ := hex
            induction k using Nat.strongRecOn with
            | _ k ihk =>
              by_cases e : ∃ j, j < k ∧ (j < l1.length ∧ listed[j]? = some false)
              · obtain ⟨j, hj, hj2⟩ := e; exact ihk j hj hj2
              · exact ⟨k, hk, fun j hj hj2 => e ⟨j, hj, hj2⟩⟩
          have hml : m < (l1 ++ l2).length := by simp; omega
          have : m ∈ Region.ready .any (l1 ++ l2).toArray listed := by
            refine mem_ready.2 ⟨by rw [Array.getD_eq_getD_getElem?, hm2]; rfl, (l1 ++ l2)[m], by simp [hml], fun e he hb => ?_⟩
            have h1 := backB_at hK (List.getElem?_eq_getElem hml) e he hb
            have h2 := hmin _ h1
            have h3 : e.on < listed.size := by omega
            cases h4 : listed[e.on] with
            | true => rw [Array.getD_eq_getD_getElem?, Array.getElem?_eq_getElem h3, h4]; rfl
            | false => exact absurd ⟨by omega, by rw [Array.getElem?_eq_getElem h3, h4]⟩ h2
          rw [hr] at this
          cases this
        · obtain ⟨hun, o, ho, hall⟩ := mem_ready.1 hir
          have hun' := getD_false hun
          have ho' : (l1 ++ l2)[i]? = some o := by simpa using ho
          have hil2 : i < (l1 ++ l2).length := (List.getElem?_eq_some_iff.1 ho').1
          have hdeps : ∀ k ∈ bindsAt (l1 ++ l2) i, listed[k]? = some true := fun k hk => by
            obtain ⟨e, he, hb, rfl⟩ := (mem_bindsAt ho').1 hk
            exact getD_true (hall e he hb)
          have hil : i < l1.length := by
            by_cases e : i < l1.length
            · exact e
            · exfalso
              refine hdone fun j hj => ?_
              exact reach_in (l := l1 ++ l2) (R := fun k => listed[k]? = some true) hi.closed _ i j hdeps (tailB_at hT (by omega) (by simpa using hil2) (by omega))
          have ho1 : l1[i]? = some o := by rw [← ops_at l1 l2 hil]; exact ho'
          have hxi : xs[i]? = some xs[i] := List.getElem?_eq_getElem (by omega)
          have hA := hat i o _ ho1 hxi
          obtain ⟨hr1, hr2, hr3⟩ := orderB_at hB ho1
          obtain ⟨ρ, q, hd, hold, hnew⟩ := hi.st
          have slot : ∀ t, t ∈ readsOf l1 o → ∀ z, (putsA (l1.take i) (xs.take i) fr).get t = some z → ∃ v, b.tmps[t]? = some v ∧ Den ρ W z v := by
            intro t ht z hz
            by_cases e : ∃ j, dstAt l1 j = some t
            · obtain ⟨j, hj⟩ := e
              obtain ⟨e, he, hb, rfl⟩ := hr1 j t ht hj
              have hlt := backB_at hK ho' e he hb
              have hlis := getD_true (hall e he hb)
              have hxj : xs[e.on]? = some xs[e.on] := List.getElem?_eq_getElem (by omega)
              rw [putsA_new (l1.take i) (xs.take i) fr t e.on xs[e.on] (by rw [dstAt_take, if_pos hlt]; exact hj) (fun k hk => by
                rw [dstAt_take] at hk; split at hk
                · exact orderB_dst hB hk hj
                · cases hk) (by rw [List.getElem?_take, if_pos hlt]; exact hxj)] at hz
              cases hz
              exact hnew _ _ t hlis hxj hj
            · have e' : ∀ j, dstAt l1 j ≠ some t := fun j hj => e ⟨j, hj⟩
              rw [putsA_old (l1.take i) (xs.take i) fr t (fun j hj => by
                rw [dstAt_take] at hj; split at hj
                · exact e' j hj
                · cases hj)] at hz
              exact hold t z hz (fun j hj => absurd hj (e' j))
          have hcnt : (listed.setIfInBounds i true).toList.count false = fuel := by have := count_set_false hun'; omega
          have hS : ∀ j, ((listed.setIfInBounds i true)[j]? = some true) ↔ (listed[j]? = some true ∨ j = i) := by
            intro j
            rw [Array.getElem?_setIfInBounds]
            by_cases e : i = j
            · subst e
              have := (Array.getElem?_eq_some_iff.1 hun').1
              simp [this]
            · simp [e, Ne.symm e]
          have hdst : dstAt l1 i = o.dst := by simp [dstAt, ho1]
          have hnext : ∀ v W' ρ', Ext ρ W ρ' W' → HD ρ' W' H → Den ρ' W' xs[i] v → wpAnyIn (Fw r) 0 P .any (l1 ++ l2).toArray (fun e a' W' => ∃ ρ' fr' D' H', Ext ρ0 W0 ρ' W' ∧ Sim N fr' ρ' W' a' ∧ Defs ρ' D' a'.defers ∧ HD ρ' W' H' ∧ Q e fr' D' H') fuel (listed.setIfInBounds i true) (b.put o.dst v) W' := by
            intro v W' ρ' q' hd' hv
            refine ih _ _ _ hcnt ⟨by rw [Array.size_setIfInBounds]; exact hi.size, ?_, ?_, fun j hj hl => ?_, fun k hk j hj => ?_, ρ', q.trans hd0.live q', hd', ?_, ?_⟩
            · cases o.dst <;> simp [Act.put, hi.tmps]
            · rw [put_defs]; exact hi.defs
            · rcases (hS j).1 hl with hl | rfl
              · exact hi.low j hj hl
              · omega
            · refine (hS j).2 (.inl ?_)
              rcases (hS k).1 hk with hk | rfl
              · exact hi.closed k hk j hj
              · exact hdeps j hj
            · intro t x hx hno
              have hne : o.dst ≠ some t := fun e => hno i (by rw [hdst, e]) ((hS i).2 (.inr rfl))
              obtain ⟨u, hu, hdu⟩ := hold t x hx (fun j hj hl => hno j hj ((hS j).2 (.inl hl)))
              refine ⟨u, ?_, Den.ext q' hd.live _ _ hdu⟩
              cases hd2 : o.dst with
              | none => simpa [Act.put] using hu
              | some d =>
                simp only [Act.put]
                rw [Array.getElem?_setIfInBounds_ne (fun e => hne (by rw [hd2, e]))]
                exact hu
            · intro j x d hj hx hjd
              by_cases e : j = i
              · subst e
                rw [hxi] at hx; cases hx
                rw [hdst] at hjd
                have hlt : d < N := by have := hA.lt; rw [hjd] at this; simpa using this
                exact ⟨v, by simp [hjd, Act.put, hi.tmps, hlt], hv⟩
              · have hl := ((hS j).1 hj).resolve_right e
                obtain ⟨u, hu, hdu⟩ := hnew j x d hl hx hjd
                refine ⟨u, ?_, Den.ext q' hd.live _ _ hdu⟩
                cases hd2 : o.dst with
                | none => simpa [Act.put] using hu
                | some d' =>
                  simp only [Act.put]
                  rw [Array.getElem?_setIfInBounds_ne (fun e' => e (orderB_dst hB hjd (by rw [hdst, hd2, e'])))]
                  exact hu
          have hgs : ∀ j want d, o.guard = some (j, want) → ((l1 ++ l2).toArray[j]?).bind (·.dst) = some d → ∀ z, (putsA (l1.take i) (xs.take i) fr).get d = some z → ∃ v, b.tmps[d]? = some v ∧ Den ρ W z v := by
            intro j want d hgo hd2 z hz
            have hjl := tailB_guard hT (List.mem_of_getElem? ho1) hgo
            have hdj : dstAt l1 j = some d := by
              simp only [dstAt]
              rw [← ops_at l1 l2 hjl]
              simpa using hd2
            exact slot d (List.mem_append_right _ (by rw [hgo]; simp [hdj])) z hz
          unfold wpOpIn
          simp only [ho]
          rcases hA.does with ⟨hg, hop⟩ | ⟨hg, hany⟩
          · rw [guard_at (N := N) hgs hg, if_pos rfl]
            refine op_at hop (fun y hy z hz => ?_) hd ?_
            · cases y with
              | tmp t =>
                obtain ⟨v, hv, hden⟩ := slot t (List.mem_append_left _ (List.mem_filterMap.2 ⟨.tmp t, by simpa using hy, rfl⟩)) z hz
                simp only [Act.eval, Array.getD_eq_getD_getElem?, hv, Option.getD_some]
                exact hden
              | const v => exact AV.ofV_den hz
              | global g => cases hz
              | func f =>
                simp only [Fr.ev, Option.some.injEq] at hz
                subst hz
                rw [Den]
                exact ⟨#[], #[], rfl, rfl, rfl, by rw [DenL]; trivial, by rw [DenL]; trivial⟩
            · rintro v W' ρ' x H' q' hv hd' ⟨rfl, rfl⟩
              exact hnext v W' ρ' q' hd' hv
          · rw [guard_at (N := N) hgs hg]
            exact ⟨fun _ _ => trivial, hnext _ _ ρ hd.refl hd (by rw [hany]; exact Den.undef)⟩
  refine invA _ _ _ _ (by simp) ⟨by simp, hs0.size, rfl, fun j hj hl => ?_, fun k hl => ?_, ρ0, Ext.drew hd0, hd0.drew, fun t x hx _ => ?_, fun j x d hj => ?_⟩
  · rw [Array.getElem?_replicate] at hl; split at hl <;> cases hl
  · rw [Array.getElem?_replicate] at hl; split at hl <;> cases hl
  · obtain ⟨v, hv, hden⟩ := hs0.fr t x hx
    exact ⟨v, hv, Den.ext (Ext.drew hd0) hd0.live _ _ hden⟩
  · rw [Array.getElem?_replicate] at hj; split at hj <;> cases hj
theorem WpV.regionTN {r : Option Nat} {N id : Nat} {l : List Oper} {Q : Exit → Fr → List Nat → Hp → Prop} {fr : Fr} {D : List Nat} (n : Nat) (hm : P.follows .mixedOrders = true) (hB : orderB (l.take n) = true) (hK : backB l = true) (hT : tailB (l.take n) (l.drop n) = true)
    (h : LexD P N l.toArray H (fun fr1 => LexT P N l.toArray (fun fr' H' => Marks D H' ∧ Q .normal fr' D H') (l.drop n) fr1 H) (l.take n) fr) : WpV P r N (.region id l.toArray true) Q fr D H := by
  have := WpV.regionT (P := P) (r := r) (N := N) (id := id) (l1 := l.take n) (l2 := l.drop n) (Q := Q) (fr := fr) (D := D) (H := H) hm hB (by rw [List.take_append_drop]; exact hK) hT (by rw [List.take_append_drop]; exact h)
  rwa [List.take_append_drop] at this
theorem LexT.nilE {N : Nat} {ops : Array Oper} {Q : Fr → Hp → Prop} {fr : Fr} (h : Q fr H) : LexT P N ops Q [] fr H := h
theorem LexT.step {N : Nat} {ops : Array Oper} {Q : Fr → Hp → Prop} {fr : Fr} {o : Oper} {l : List Oper} (hg : guardOf ops fr o = some true) (hN : (o.dst.all (· < N)) = true) (h : OpW P o fr.ev H (fun x H' => LexT P N ops Q l (fr.put o.dst x) H')) : LexT P N ops Q (o :: l) fr H := ⟨hN, .inl ⟨hg, h⟩⟩
theorem LexT.evs {N : Nat} {ops : Array Oper} {Q : Fr → Hp → Prop} {fr' : Fr} {l2 : List Oper} (h2 : LexT P N ops Q l2 fr' H) : ∀ (l1 : List Oper) (fr : Fr), evOps P H N ops l1 fr = some fr' → LexT P N ops Q (l1 ++ l2) fr H
  | [], fr, h => by cases h; exact h2
  | o :: l, fr, h => by
    obtain ⟨hN, h0⟩ := evOps_cons h
    rcases h0 with ⟨hg, x, hx1, hx2⟩ | ⟨hg, hx⟩
    · exact ⟨hN, .inl ⟨hg, OpW.ev hx1 (LexT.evs h2 l _ hx2)⟩⟩
    · exact ⟨hN, .inr ⟨hg, LexT.evs h2 l _ hx⟩⟩
theorem LexT.take {N : Nat} {ops : Array Oper} {Q : Fr → Hp → Prop} {fr fr' : Fr} {l : List Oper} (k : Nat) (h : evOps P H N ops (l.take k) fr = some fr') (h2 : LexT P N ops Q (l.drop k) fr' H) : LexT P N ops Q l fr H := by
  have := LexT.evs (P := P) (N := N) h2 (l.take k) fr h
  rwa [List.take_append_drop] at this

/-- What a call has laid is written no more. -/
theorem CallV.frz {f : FuncId} {args : List AV} {e : TypeId} {s m : Nat} {nl : Bool} {xs : List AV} (h : CallV P f args H (fun r H' => Bld H e s nl m xs r H')) : CallV P f args H (fun r H' => r = .sl (nl && decide (m = 0)) (decide (m = 0)) m xs ∧ H' = H) := by
  intro ρ W vs hl hd hH
  refine Calls.mono (h ρ W vs hl hd hH) ?_
  rintro e' W' ⟨v, ρ', x, H', rfl, q, hv, hH', hb⟩
  obtain ⟨hl, ⟨rfl, rfl, rfl, rfl⟩ | ⟨hp, id, ver, hid, rfl, rfl⟩⟩ := hb
  · exact ⟨v, ρ', _, _, rfl, q, hv, hH', by simp, rfl⟩
  · have e1 : decide (m = 0) = false := by simp; omega
    refine ⟨v, ρ'.drop id, _, _, rfl, q.trans hH.live (Ext.drop hH' id), ?_, hH'.drop id, rfl, ?_⟩
    · have := den_freeze hH' hv (Hp.set_eq _ _ _)
      rw [List.drop_zero, List.take_of_length_le (by omega)] at this
      rw [e1, Bool.and_false]; exact this
    · rw [Hp.set_set, Hp.set_same _ _ _ hid]
end Go.Proofs.YtaekibilldjnmaaGreat
namespace Go.Proofs.YtaekibilldjnmaaGreat
variable {P : Program} {H : Hp}

theorem OpW.mono {o : Oper} {ev : Operand → Option AV} {K K' : AV → Hp → Prop} (h : OpW P o ev H K) (hk : ∀ x H, K x H → K' x H) : OpW P o ev H K' := by
  refine ⟨h.calm, fun ρ W σ hd hH => ?_⟩
  have hr := h.runs ρ W σ hd hH
  have go : ∀ v W', (∃ ρ' x H', Ext ρ W ρ' W' ∧ Den ρ' W' x v ∧ HD ρ' W' H' ∧ K x H') → ∃ ρ' x H', Ext ρ W ρ' W' ∧ Den ρ' W' x v ∧ HD ρ' W' H' ∧ K' x H' := fun v W' ⟨ρ', x, H', a, b, c, d⟩ => ⟨ρ', x, H', a, b, c, hk _ _ d⟩
  unfold Runs at hr ⊢
  generalize (execOp σ o).run P W = q at hr
  cases q with
  | halt x w => cases hr
  | ok x w =>
    cases x <;> first
      | exact go _ _ hr
      | (refine Calls.mono hr ?_; rintro e w' ⟨v, rfl, hv⟩; exact ⟨v, rfl, go _ _ hv⟩)
      | (refine RoundIn.mono hr ?_; rintro e w' ⟨v, rfl, hv⟩; exact ⟨v, rfl, go _ _ hv⟩)
      | cases hr

/-- A call of the value y, with these arguments, wherever it stands. -/
def YieldV (P : Program) (y : AV) (xs : List AV) (H : Hp) (K : AV → Hp → Prop) : Prop :=
  ∀ (o : Oper) (ev : Operand → Option AV) (c : Operand) (args : Array Operand) (ts : Array TypeId), o.op = .call { callee := .value c, args := args, argTypes := ts } → ev c = some y → mapEv ev args.toList = some xs → OpW P o ev H K
theorem YieldV.call {f : FuncId} {fs cs xs : List AV} {K : AV → Hp → Prop} (eg : EntersF P f) (h : CallV P f (fs ++ xs ++ cs) H K) : YieldV P (.fn (.func f) fs cs) xs H K :=
  fun _ _ _ _ _ ho hy hx => OpW.callY ho hy hx rfl eg h
/-- After a yield: on with the rest, or refused. -/
def Went (J : List (List AV) → Hp → Prop) (Dn : Hp → Prop) (rest : List (List AV)) (r : AV) (H : Hp) : Prop := (r = .bool true ∧ J rest H) ∨ (r = .bool false ∧ Dn H)
/-- Marks that lie upon what was there. -/
def MarksOn : List Nat → Hp → Hp → Prop
  | [], B, H => H = B
  | id :: D, B, H => ∃ H1, MarksOn D B H1 ∧ H1 id = none ∧ H = H1.set id (some .mark)
theorem MarksOn.get {B : Hp} {k : Nat} {o : Ob} : ∀ {D : List Nat} {H : Hp}, MarksOn D B H → B k = some o → H k = some o ∧ k ∉ D
  | [], H, h, hk => by cases h; exact ⟨hk, by simp⟩
  | id :: D, H, ⟨H1, h1, h2, h3⟩, hk => by
    obtain ⟨e1, e2⟩ := h1.get hk
    have hne : k ≠ id := fun e => by rw [e, h2] at e1; cases e1
    exact ⟨by rw [h3, Hp.set_ne _ _ hne]; exact e1, by simp [hne, e2]⟩
theorem MarksOn.marks {B : Hp} : ∀ {D : List Nat} {H : Hp}, MarksOn D B H → Marks D H ∧ D.Nodup
  | [], H, _ => ⟨Marks.nil _, List.nodup_nil⟩
  | id :: D, H, ⟨H1, h1, h2, h3⟩ => by
    obtain ⟨m1, m2⟩ := h1.marks
    have hni : id ∉ D := fun e => by rw [m1 id e] at h2; cases h2
    refine ⟨fun k hk => ?_, by simp [hni, m2]⟩
    rcases List.mem_cons.1 hk with rfl | hk2
    · rw [h3, Hp.set_eq]
    · rw [h3, Hp.set_ne _ _ (fun e => by subst e; exact hni hk2)]; exact m1 k hk2
theorem MarksOn.kill {B : Hp} : ∀ {D : List Nat} {H : Hp}, MarksOn D B H → killA H D = B
  | [], H, h => by cases h; rfl
  | id :: D, H, ⟨H1, h1, h2, h3⟩ => by
    rw [h3, killA, Hp.set_set, Hp.set_same _ _ _ h2]; exact h1.kill
theorem MarksOn.set {B : Hp} {k : Nat} {o : Ob} (o' : Option Ob) : ∀ {D : List Nat} {H : Hp}, MarksOn D B H → B k = some o → MarksOn D (B.set k o') (H.set k o')
  | [], H, h, hk => by cases h; rfl
  | id :: D, H, ⟨H1, h1, h2, h3⟩, hk => by
    have hne : k ≠ id := fun e => by have := (h1.get hk).1; rw [e, h2] at this; cases this
    exact ⟨H1.set k o', h1.set o' hk, by rw [Hp.set_ne _ _ hne.symm]; exact h2, by rw [h3, Hp.set_comm _ _ _ hne.symm]⟩
theorem MarksOn.lay {B : Hp} {k : Nat} {o : Ob} : ∀ {D : List Nat} {H : Hp}, MarksOn D B H → B k = none → H k = none → MarksOn D (B.set k (some o)) (H.set k (some o))
  | [], H, h, _, _ => by cases h; rfl
  | id :: D, H, ⟨H1, h1, h2, h3⟩, hb, hk => by
    have hne : k ≠ id := fun e => by rw [h3, e, Hp.set_eq] at hk; cases hk
    have hk1 : H1 k = none := by rw [h3, Hp.set_ne _ _ hne] at hk; exact hk
    exact ⟨H1.set k (some o), h1.lay hb hk1, by rw [Hp.set_ne _ _ hne.symm]; exact h2, by rw [h3, Hp.set_comm _ _ _ hne.symm]⟩
theorem set_none_get {i k : Nat} {o : Ob} (h : (H.set i none) k = some o) : k ≠ i ∧ H k = some o := by
  by_cases e : k = i
  · subst e; rw [Hp.set_eq] at h; cases h
  · exact ⟨e, by rwa [Hp.set_ne _ _ e] at h⟩

/-- Other objects that lie upon what was there. -/
def LayOn : List (Nat × Ob) → Hp → Hp → Prop
  | [], B, H => H = B
  | (id, ob) :: L, B, H => ∃ H1, LayOn L B H1 ∧ H1 id = none ∧ H = H1.set id (some ob)
theorem LayOn.get {B : Hp} {k : Nat} {o : Ob} : ∀ {L : List (Nat × Ob)} {H : Hp}, LayOn L B H → B k = some o → H k = some o
  | [], H, h, hk => by cases h; exact hk
  | (id, ob) :: L, H, ⟨H1, h1, h2, h3⟩, hk => by
    have e1 := h1.get hk
    have hne : k ≠ id := fun e => by rw [e, h2] at e1; cases e1
    rw [h3, Hp.set_ne _ _ hne]; exact e1
theorem LayOn.set {B : Hp} {k : Nat} {o : Ob} (o' : Option Ob) : ∀ {L : List (Nat × Ob)} {H : Hp}, LayOn L B H → B k = some o → LayOn L (B.set k o') (H.set k o')
  | [], H, h, hk => by cases h; rfl
  | (id, ob) :: L, H, ⟨H1, h1, h2, h3⟩, hk => by
    have hne : k ≠ id := fun e => by have := h1.get hk; rw [e, h2] at this; cases this
    exact ⟨H1.set k o', h1.set o' hk, by rw [Hp.set_ne _ _ hne.symm]; exact h2, by rw [h3, Hp.set_comm _ _ _ hne.symm]⟩
theorem LayOn.lay {B : Hp} {k : Nat} {o : Ob} : ∀ {L : List (Nat × Ob)} {H : Hp}, LayOn L B H → B k = none → H k = none → LayOn L (B.set k (some o)) (H.set k (some o))
  | [], H, h, _, _ => by cases h; rfl
  | (id, ob) :: L, H, ⟨H1, h1, h2, h3⟩, hb, hk => by
    have hne : k ≠ id := fun e => by rw [h3, e, Hp.set_eq] at hk; cases hk
    have hk1 : H1 k = none := by rw [h3, Hp.set_ne _ _ hne] at hk; exact hk
    exact ⟨H1.set k (some o), h1.lay hb hk1, by rw [Hp.set_ne _ _ hne.symm]; exact h2, by rw [h3, Hp.set_comm _ _ _ hne.symm]⟩
theorem LayOn.trans {B B1 : Hp} {L2 : List (Nat × Ob)} (h2 : LayOn L2 B B1) : ∀ {L1 : List (Nat × Ob)} {H : Hp}, LayOn L1 B1 H → LayOn (L1 ++ L2) B H
  | [], H, h => by cases h; exact h2
  | (id, ob) :: L, H, ⟨H1, h1, h3, h4⟩ => ⟨H1, LayOn.trans h2 h1, h3, h4⟩
theorem LayOn.split {B : Hp} {L2 : List (Nat × Ob)} : ∀ {L1 : List (Nat × Ob)} {H : Hp}, LayOn (L1 ++ L2) B H → ∃ B1, LayOn L2 B B1 ∧ LayOn L1 B1 H
  | [], H, h => ⟨H, h, rfl⟩
  | (id, ob) :: L, H, ⟨H1, h1, h3, h4⟩ => by
    obtain ⟨B1, e1, e2⟩ := LayOn.split h1
    exact ⟨B1, e1, H1, e2, h3, h4⟩
def marksL (D : List Nat) : List (Nat × Ob) := D.map fun i => (i, .mark)
theorem layOn_marks {B : Hp} : ∀ {D : List Nat} {H : Hp}, LayOn (marksL D) B H ↔ MarksOn D B H
  | [], H => Iff.rfl
  | id :: D, H => by
    constructor
    · rintro ⟨H1, h1, h2, h3⟩; exact ⟨H1, layOn_marks.1 h1, h2, h3⟩
    · rintro ⟨H1, h1, h2, h3⟩; exact ⟨H1, layOn_marks.2 h1, h2, h3⟩

/-- The consumer y, of which J says what holds while the items that are told are still to come; objects of the one who yields lie upon it. -/
def Eats (P : Program) (y : AV) (J : List (List AV) → Hp → Prop) (Dn : Hp → Prop) : Prop := ∀ L x rest B H, LayOn L B H → J (x :: rest) B → YieldV P y x H (fun r H' => ∃ B', LayOn L B' H' ∧ Went J Dn rest r B')
theorem Eats.now {y : AV} {J : List (List AV) → Hp → Prop} {Dn : Hp → Prop} (h : Eats P y J Dn) {x : List AV} {rest : List (List AV)} (hj : J (x :: rest) H) : YieldV P y x H (Went J Dn rest) :=
  fun o ev c args ts ho hy hx => OpW.mono (h [] x rest H H rfl hj o ev c args ts ho hy hx) fun r H' ⟨B', e, hw⟩ => by cases e; exact hw

/-- A loop of n rounds at most over any objects. -/
theorem WpV.loopJ {r : Option Nat} {N : Nat} {c : Code} {Q : Exit → Fr → List Nat → Hp → Prop} {fr : Fr} {D : List Nat} (n : Nat) (Pr : Nat → Hp → Prop) (I : Nat → Fr)
    (hp : Pr 0 H) (h0 : Sub (I 0) fr)
    (round : ∀ k, k ≤ n → ∀ H, Pr k H → WpV P r N c (Vthen (fun fr' D' H' => D' = D ∧ k < n ∧ Pr (k + 1) H' ∧ Sub (I (k + 1)) fr') Q) (I k) D H) : WpV P r N (.loop c) Q fr D H :=
  WpV.loop (ι := { p : Nat × Hp // p.1 ≤ n ∧ Pr p.1 p.2 }) (fun p => I p.1.1) (fun p => p.1.2) (fun p => n - p.1.1) ⟨(0, H), Nat.zero_le _, hp⟩ h0 rfl fun p =>
    (round p.1.1 p.2.1 p.1.2 p.2.2).mono fun e' fr' D' H' h => by
      cases e' with
      | normal =>
        obtain ⟨e1, hk, hp, hs⟩ := h
        exact ⟨e1, ⟨(p.1.1 + 1, H'), hk, hp⟩, by simp only; omega, hs, rfl⟩
      | _ => exact h
end Go.Proofs.YtaekibilldjnmaaGreat
