/- A region that draws its order, whose operations read, call and lay new blocks: each operation is looked at once, whatever the order. -/
import Derived.Test.YtpkadofgmhninaaStretchTies
namespace Go.Proofs.Ytpkadofgmhninaa
open Go.RowKit

def dstAt (l : List Oper) (j : Nat) : Option Tmp := (l[j]?).bind (·.dst)
/-- What an operation hangs on: what it reads, and its guard's answer. -/
def readsOf (l : List Oper) (o : Oper) : List Tmp :=
  (o.op.operands.toList.filterMap fun | .tmp t => some t | _ => none) ++ (match o.guard with | some (g, _) => (dstAt l g).toList | none => [])
def orderB (l : List Oper) : Bool :=
  (List.range l.length).all fun i => (List.range l.length).all fun j =>
    (i == j || dstAt l i == none || dstAt l i != dstAt l j) &&
    (match l[i]? with
     | some o => (readsOf l o).all (fun t => dstAt l j != some t || o.after.toList.any (fun e => Region.binds .any e && e.on == j)) && (match o.op with | .defer _ => false | .select .. => false | _ => true)
     | none => true)
theorem orderB_dst {l : List Oper} (h : orderB l = true) {i j : Nat} {d : Tmp} (hi : dstAt l i = some d) (hj : dstAt l j = some d) : i = j := by
  have hil : i < l.length := by
    by_cases e : i < l.length
    · exact e
    · simp [dstAt, List.getElem?_eq_none (Nat.le_of_not_lt e)] at hi
  have hjl : j < l.length := by
    by_cases e : j < l.length
    · exact e
    · simp [dstAt, List.getElem?_eq_none (Nat.le_of_not_lt e)] at hj
  unfold orderB at h
  rw [List.all_eq_true] at h
  have h1 := h i (by simpa using hil)
  rw [List.all_eq_true] at h1
  have h2 := h1 j (by simpa using hjl)
  rw [Bool.and_eq_true] at h2
  have h3 := h2.1
  rw [hi, hj] at h3
  simpa using h3
theorem orderB_at {l : List Oper} (h : orderB l = true) {i : Nat} {o : Oper} (hi : l[i]? = some o) :
    (∀ j t, t ∈ readsOf l o → dstAt l j = some t → ∃ e ∈ o.after, Region.binds .any e = true ∧ e.on = j) ∧ (∀ c, o.op ≠ .defer c) ∧ (∀ cs b, o.op ≠ .select cs b) := by
  have hil : i < l.length := (List.getElem?_eq_some_iff.1 hi).1
  unfold orderB at h
  rw [List.all_eq_true] at h
  have h1 := h i (by simpa using hil)
  rw [List.all_eq_true] at h1
  refine ⟨fun j t ht hj => ?_, fun c hc => ?_, fun cs b hc => ?_⟩
  · have hjl : j < l.length := by
      by_cases e : j < l.length
      · exact e
      · simp [dstAt, List.getElem?_eq_none (Nat.le_of_not_lt e)] at hj
    have h2 := h1 j (by simpa using hjl)
    rw [Bool.and_eq_true, hi] at h2
    have h3 := h2.2
    simp only [Bool.and_eq_true] at h3
    have h4 := List.all_eq_true.1 h3.1 t ht
    rw [hj] at h4
    simp only [bne_self_eq_false, Bool.false_or] at h4
    obtain ⟨e, he, h5⟩ := List.any_eq_true.1 h4
    simp only [Bool.and_eq_true, beq_iff_eq] at h5
    exact ⟨e, Array.mem_toList_iff.1 he, h5⟩
  · have h2 := h1 i (by simpa using hil)
    rw [Bool.and_eq_true, hi] at h2
    have h3 := h2.2
    simp only [Bool.and_eq_true] at h3
    rw [hc] at h3
    exact absurd h3.2 (by simp)
  · have h2 := h1 i (by simpa using hil)
    rw [Bool.and_eq_true, hi] at h2
    have h3 := h2.2
    simp only [Bool.and_eq_true] at h3
    rw [hc] at h3
    exact absurd h3.2 (by simp)

/-- The slots once some operations have been carried out. -/
structure Agree (l : List Oper) (a : Act) (S : Nat → Prop) (vs : Nat → Value) (a' : Act) : Prop where
  defers : a'.defers = a.defers
  size : a'.tmps.size = a.tmps.size
  old : ∀ t, (∀ j, S j → dstAt l j ≠ some t) → a'.tmps[t]? = a.tmps[t]?
  new : ∀ j t, S j → dstAt l j = some t → t < a.tmps.size → a'.tmps[t]? = some (vs j)

theorem Agree.unique {l : List Oper} {a : Act} {S : Nat → Prop} {vs : Nat → Value} {b c : Act} (hb : Agree l a S vs b) (hc : Agree l a S vs c) : b = c := by
  have h : b.tmps = c.tmps := by
    apply Array.ext_getElem?
    intro t
    by_cases e : ∃ j, S j ∧ dstAt l j = some t
    · obtain ⟨j, hj, hd⟩ := e
      by_cases ht : t < a.tmps.size
      · rw [hb.new j t hj hd ht, hc.new j t hj hd ht]
      · rw [Array.getElem?_eq_none (by rw [hb.size]; omega), Array.getElem?_eq_none (by rw [hc.size]; omega)]
    · rw [hb.old t (fun j hj hd => e ⟨j, hj, hd⟩), hc.old t (fun j hj hd => e ⟨j, hj, hd⟩)]
  cases b; cases c
  simp only at h
  have h2 := hb.defers.trans hc.defers.symm
  simp only at h2
  rw [h, h2]

def putAll (vs : Nat → Value) : List Oper → Nat → Act → Act
  | [], _, a => a
  | o :: l, k, a => putAll vs l (k + 1) (a.put o.dst (vs k))

theorem put_get (a : Act) (d : Option Tmp) (v : Value) (t : Tmp) : (a.put d v).tmps[t]? = if d = some t ∧ t < a.tmps.size then some v else a.tmps[t]? := by
  cases d with
  | none => simp [Act.put]
  | some d =>
    simp only [Act.put, Option.some.injEq]
    by_cases e : d = t
    · subst e
      by_cases h : d < a.tmps.size
      · simp [h]
      · simp [h]
    · rw [Array.getElem?_setIfInBounds_ne e]; simp [e]
theorem put_size (a : Act) (d : Option Tmp) (v : Value) : (a.put d v).tmps.size = a.tmps.size := by cases d <;> simp [Act.put]
theorem put_defers (a : Act) (d : Option Tmp) (v : Value) : (a.put d v).defers = a.defers := by cases d <;> rfl

theorem Agree.put {l : List Oper} {a b : Act} {S : Nat → Prop} {vs : Nat → Value} (h : Agree l a S vs b) (hB : orderB l = true) (i : Nat) (_hi : ¬ S i) (v : Value) :
    Agree l a (fun j => S j ∨ j = i) (fun j => if j = i then v else vs j) (b.put (dstAt l i) v) := by
  refine ⟨(put_defers _ _ _).trans h.defers, (put_size _ _ _).trans h.size, fun t ht => ?_, fun j t hj hd hlt => ?_⟩
  · rw [put_get, if_neg (fun e => ht i (.inr rfl) e.1)]
    exact h.old t (fun j hj => ht j (.inl hj))
  · rw [put_get]
    by_cases e : dstAt l i = some t
    · have : j = i := orderB_dst hB hd e
      rw [if_pos ⟨e, by rw [h.size]; exact hlt⟩]; simp [this]
    · rw [if_neg (fun e' => e e'.1)]
      have hne : j ≠ i := fun e' => e (by rw [← e']; exact hd)
      have hs : S j := hj.elim id (fun e' => absurd e' hne)
      rw [h.new j t hs hd hlt]; simp [hne]

theorem putAll_agree (l : List Oper) (a : Act) (vs : Nat → Value) (hB : orderB l = true) : ∀ (m : List Oper) (k : Nat) (b : Act), (∀ j, m[j]? = l[k + j]?) → Agree l a (fun j => j < k) vs b → Agree l a (fun j => j < k + m.length) vs (putAll vs m k b)
  | [], k, b, _, h => by simpa [putAll] using h
  | o :: m, k, b, hm, h => by
    have h1 : dstAt l k = o.dst := by
      have := hm 0
      simp at this
      simp [dstAt, ← this]
    have h2 := h.put hB k (Nat.lt_irrefl _) (vs k)
    rw [h1] at h2
    have h3 : Agree l a (fun j => j < k + 1) vs (b.put o.dst (vs k)) := by
      refine ⟨h2.defers, h2.size, fun t ht => h2.old t (fun j hj => ht j (by omega)), fun j t hj hd hlt => ?_⟩
      have := h2.new j t (by omega) hd hlt
      rw [this]
      by_cases e : j = k
      · simp [e]
      · simp [e]
    have h4 := putAll_agree l a vs hB m (k + 1) _ (fun j => by have := hm (j + 1); rw [List.getElem?_cons_succ] at this; rw [this]; congr 1; omega) h3
    have : k + (o :: m).length = k + 1 + m.length := by simp; omega
    rw [this]
    exact h4

theorem upon_transfer {F : Fence} {n : Nat} {o : Oper} {a b : Act} {next next' : Act → World → Prop} {Q Q' : Exit → Act → World → Prop} {r : Result Next} (h : o.uponIn F n Try.prog a next Q r)
    (h1 : ∀ v w, next (a.put o.dst v) w → next' (b.put o.dst v) w) (h2 : ∀ c w, ¬ Q (.panic c) a w) (h3 : ¬ LetsOut Q) (hd : ∀ d w, ¬ next ({ a with defers := d :: a.defers }.put o.dst undef) w) : o.uponIn F n Try.prog b next' Q' r := by
  cases r with
  | ok x w =>
    cases x with
    | value v => exact h1 _ _ h
    | skip => exact h1 _ _ h
    | defer d => exact absurd h (hd d w)
    | enter f args =>
      refine ⟨h.1, CallsIn.mono h.2 (fun e w' he => ?_)⟩
      cases e with
      | returned v => exact h1 _ _ he
      | panicked c => exact absurd he (h2 _ _)
      | outgrown => exact absurd he h3
    | row row args => exact ⟨h.1, RowsIn.mono h.2 (fun v w' he => h1 _ _ he)⟩
    | round l f tmps assign body =>
      refine ⟨h.1, RoundIn.mono h.2 (fun e w' he => ?_)⟩
      cases e with
      | returned v => exact h1 _ _ he
      | panicked c => exact absurd he (h2 _ _)
      | outgrown => exact absurd he h3
    | _ => exact h.elim
  | halt x w =>
    cases x with
    | panic v => exact absurd h (h2 _ _)
    | _ => exact h.elim

/-- Every operation waits only for earlier ones. -/
def backB (l : List Oper) : Bool := (List.range l.length).all fun i => match l[i]? with | some o => o.after.toList.all (fun e => !Region.binds .any e || decide (e.on < i)) | none => true
theorem backB_at {l : List Oper} (h : backB l = true) {i : Nat} {o : Oper} (hi : l[i]? = some o) : ∀ e ∈ o.after, Region.binds .any e = true → e.on < i := by
  have hil : i < l.length := (List.getElem?_eq_some_iff.1 hi).1
  unfold backB at h
  rw [List.all_eq_true] at h
  have h1 := h i (by simpa using hil)
  rw [hi] at h1
  intro e he hb
  have h2 := List.all_eq_true.1 h1 e (Array.mem_toList_iff.2 he)
  rw [hb] at h2
  simpa using h2

def valOf (o : Oper) (a : Act) : Value := match o.dst with | some d => a.tmps.getD d undef | none => undef
/-- What is asked of one operation. -/
def GrowOp (F : Fence) (l : List Oper) (a : Act) (w : World) (Φ : Nat → Value → World → Prop) (o : Oper) (i : Nat) : Prop :=
  ∀ vs W, Bel w W → (∀ j ∈ (o.after.toList.filter (Region.binds .any)).map (·.on), Φ j (vs j) W) →
    wpListIn F 0 Try.prog l.toArray (fun e b W' => e = .normal ∧ b = (putAll vs l 0 a).put o.dst (valOf o b) ∧ Φ i (valOf o b) W' ∧ Bel W W') [o] (putAll vs l 0 a) W
def GrowOps (F : Fence) (l : List Oper) (a : Act) (w : World) (Φ : Nat → Value → World → Prop) : List Oper → Nat → Prop
  | [], _ => True
  | o :: m, i => GrowOp F l a w Φ o i ∧ GrowOps F l a w Φ m (i + 1)
theorem GrowOps.at {F : Fence} {l : List Oper} {a : Act} {w : World} {Φ : Nat → Value → World → Prop} : ∀ {m : List Oper} {k : Nat}, GrowOps F l a w Φ m k → ∀ {j : Nat} {o : Oper}, m[j]? = some o → GrowOp F l a w Φ o (k + j)
  | [], _, _, j, o, hj => by simp at hj
  | p :: m, k, h, 0, o, hj => by simp at hj; subst hj; exact h.1
  | p :: m, k, h, j + 1, o, hj => by
    have := h.2.at (j := j) (o := o) (by simpa using hj)
    rw [show k + (j + 1) = k + 1 + j from by omega]
    exact this

theorem count_set_false {xs : Array Bool} {i : Nat} (h : xs[i]? = some false) : (xs.setIfInBounds i true).toList.count false + 1 = xs.toList.count false := by
  cases xs with
  | mk l =>
    simp only [List.getElem?_toArray] at h
    simp only [List.setIfInBounds_toArray]
    induction l generalizing i with
    | nil => simp at h
    | cons x l ih =>
      cases i with
      | zero => simp at h; subst h; simp
      | succ i =>
        simp only [List.getElem?_cons_succ] at h
        have := ih h
        simp only [List.set_cons_succ, List.count_cons]
        omega

structure GrowInv (l : List Oper) (a : Act) (w : World) (Φ : Nat → Value → World → Prop) (listed : Array Bool) (vs : Nat → Value) (b : Act) (W : World) : Prop where
  size : listed.size = l.length
  agree : Agree l a (fun j => listed[j]? = some true) vs b
  bel : Bel w W
  holds : ∀ j, listed[j]? = some true → Φ j (vs j) W

theorem getD_false {xs : Array Bool} {i : Nat} (h : xs.getD i true = false) : xs[i]? = some false := by
  rw [Array.getD_eq_getD_getElem?] at h
  cases e : xs[i]? with
  | none => rw [e] at h; simp at h
  | some b => rw [e] at h; simp at h; rw [h]
theorem getD_true {xs : Array Bool} {i : Nat} (h : xs.getD i false = true) : xs[i]? = some true := by
  rw [Array.getD_eq_getD_getElem?] at h
  cases e : xs[i]? with
  | none => rw [e] at h; simp at h
  | some b => rw [e] at h; simp at h; rw [h]

theorem eval_agree {l : List Oper} {a b c : Act} {S : Nat → Prop} {vs : Nat → Value} (hb : Agree l a S vs b) (hc : Agree l a (fun j => j < l.length) vs c) {t : Tmp} (ht : ∀ j, dstAt l j = some t → S j) : b.tmps[t]? = c.tmps[t]? := by
  by_cases e : ∃ j, dstAt l j = some t
  · obtain ⟨j, hj⟩ := e
    have hjl : j < l.length := by
      by_cases e : j < l.length
      · exact e
      · simp [dstAt, List.getElem?_eq_none (Nat.le_of_not_lt e)] at hj
    by_cases hlt : t < a.tmps.size
    · rw [hb.new j t (ht j hj) hj hlt, hc.new j t hjl hj hlt]
    · rw [Array.getElem?_eq_none (by rw [hb.size]; exact Nat.le_of_not_lt hlt), Array.getElem?_eq_none (by rw [hc.size]; exact Nat.le_of_not_lt hlt)]
  · rw [hb.old t (fun j _ hd => e ⟨j, hd⟩), hc.old t (fun j _ hd => e ⟨j, hd⟩)]

theorem region_grow {F : Fence} {l : List Oper} {id : Nat} {Q : Exit → Act → World → Prop} {a : Act} {w : World} (Φ : Nat → Value → World → Prop)
    (hm : Try.prog.follows .mixedOrders = true) (hB : orderB l = true) (hK : backB l = true)
    (hst : ∀ i v W W', Φ i v W → Bel W W' → Φ i v W')
    (hop : GrowOps F l a w Φ l 0)
    (hfin : ∀ vs W, Bel w W → (∀ j, j < l.length → Φ j (vs j) W) → Q .normal (putAll vs l 0 a) W) : (Code.region id l.toArray true).wpIn F 0 Try.prog Q a w := by
  refine wpIn_region_any hm ?_
  have H : ∀ (fuel : Nat) (listed : Array Bool) (vs : Nat → Value) (b : Act) (W : World), listed.toList.count false = fuel → GrowInv l a w Φ listed vs b W → wpAnyIn F 0 Try.prog .any l.toArray Q fuel listed b W := by
    intro fuel
    induction fuel with
    | zero =>
      intro listed vs b W hc hi
      have hall : ∀ j, j < l.length → listed[j]? = some true := by
        intro j hj
        rw [← hi.size] at hj
        cases e : listed[j] with
        | true => rw [Array.getElem?_eq_getElem hj, e]
        | false =>
          have : false ∈ listed.toList := by rw [← e]; exact Array.getElem_mem_toList hj
          have := List.count_pos_iff.2 this
          omega
      refine ⟨?_, ?_⟩
      · cases hr : Region.ready .any l.toArray listed with
        | nil => rfl
        | cons x xs =>
          have hx : x ∈ Region.ready .any l.toArray listed := by rw [hr]; simp
          obtain ⟨h1, o, ho, -⟩ := mem_ready.1 hx
          have h2 := getD_false h1
          rw [hall x (by rw [← hi.size]; exact (Array.getElem?_eq_some_iff.1 h2).1)] at h2
          cases h2
      · have hp := putAll_agree l a vs hB l 0 a (fun j => by simp) ⟨rfl, rfl, fun _ _ => rfl, fun j t hj => absurd hj (Nat.not_lt_zero _)⟩
        have hb : Agree l a (fun j => j < 0 + l.length) vs b := by
          refine ⟨hi.agree.defers, hi.agree.size, fun t ht => hi.agree.old t (fun j hj => ht j (by have := (Array.getElem?_eq_some_iff.1 hj).1; rw [hi.size] at this; omega)), fun j t hj => hi.agree.new j t (hall j (by omega))⟩
        rw [hb.unique hp]
        exact hfin vs W hi.bel (fun j hj => hi.holds j (hall j hj))
    | succ fuel ih =>
      intro listed vs b W hc hi
      refine ⟨fun hr => ?_, fun i hir => ?_⟩
      · exfalso
        have hmem : false ∈ listed.toList := List.count_pos_iff.1 (by omega)
        obtain ⟨k, hk, hke⟩ := List.getElem_of_mem hmem
        have hk' : k < listed.size := by simpa using hk
        have hex : ∃ k, k < listed.size ∧ listed[k]? = some false := ⟨k, hk', by rw [Array.getElem?_eq_getElem hk']; simpa using hke⟩
        obtain ⟨m, ⟨hm1, hm2⟩, hmin⟩ : ∃ m, (m < listed.size ∧ listed[m]? = some false) ∧ ∀ j, j < m → ¬ (j < listed.size ∧ listed[j]? = some false) := by
          obtain ⟨k, hk⟩ := hex
          induction k using Nat.strongRecOn with
          | _ k ihk =>
            by_cases e : ∃ j, j < k ∧ (j < listed.size ∧ listed[j]? = some false)
            · obtain ⟨j, hj, hj2⟩ := e; exact ihk j hj hj2
            · exact ⟨k, hk, fun j hj hj2 => e ⟨j, hj, hj2⟩⟩
        have hml : m < l.length := by rw [← hi.size]; exact hm1
        have : m ∈ Region.ready .any l.toArray listed := by
          refine mem_ready.2 ⟨by rw [Array.getD_eq_getD_getElem?, hm2]; rfl, l[m], by simp [hml], fun e he hb => ?_⟩
          have h1 := backB_at hK (List.getElem?_eq_getElem hml) e he hb
          have h2 := hmin _ h1
          have h3 : e.on < listed.size := by omega
          cases h4 : listed[e.on] with
          | true => rw [Array.getD_eq_getD_getElem?, Array.getElem?_eq_getElem h3, h4]; rfl
          | false => exact absurd ⟨h3, by rw [Array.getElem?_eq_getElem h3, h4]⟩ h2
        rw [hr] at this
        cases this
      · obtain ⟨hun, o, ho, hall⟩ := mem_ready.1 hir
        have hun' := getD_false hun
        have ho' : l[i]? = some o := by simpa using ho
        have hG := hop.at ho'
        rw [Nat.zero_add] at hG
        have hdst : dstAt l i = o.dst := by simp [dstAt, ho']
        have hG' := hG vs W hi.bel (fun j hj => by
          obtain ⟨e, he, rfl⟩ := List.mem_map.1 hj
          rw [List.mem_filter] at he
          exact hi.holds _ (getD_true (hall e (Array.mem_toList_iff.1 he.1) he.2)))
        obtain ⟨hr1, hr2, hr3⟩ := orderB_at hB ho'
        have hp := putAll_agree l a vs hB l 0 a (fun j => by simp) ⟨rfl, rfl, fun _ _ => rfl, fun j t hj => absurd hj (Nat.not_lt_zero _)⟩
        rw [Nat.zero_add] at hp
        have hsame : ∀ t, t ∈ readsOf l o → b.tmps[t]? = (putAll vs l 0 a).tmps[t]? := fun t ht =>
          eval_agree hi.agree hp (fun j hj => by
            obtain ⟨e, he, hb, rfl⟩ := hr1 j t ht hj
            exact getD_true (hall e he hb))
        have hev : ∀ x ∈ o.op.operands, (putAll vs l 0 a).eval x = b.eval x := by
          intro x hx
          cases x with
          | tmp t =>
            have := hsame t (List.mem_append_left _ (List.mem_filterMap.2 ⟨.tmp t, by simpa using hx, rfl⟩))
            simp only [Act.eval]
            simp only [Array.getD_eq_getD_getElem?, this]
          | _ => rfl
        have hwant : Region.wanted o (yielded l.toArray (putAll vs l 0 a).tmps) = Region.wanted o (yielded l.toArray b.tmps) := by
          unfold Region.wanted
          cases hg : o.guard with
          | none => rfl
          | some gw =>
            obtain ⟨g, want⟩ := gw
            have : yielded l.toArray (putAll vs l 0 a).tmps g = yielded l.toArray b.tmps g := by
              unfold yielded
              have hd : (l.toArray[g]?).bind (·.dst) = dstAt l g := by simp [dstAt]
              rw [hd]
              cases hdd : dstAt l g with
              | none => rfl
              | some d =>
                simp only [Option.bind_some]
                rw [hsame d (List.mem_append_right _ (by rw [hg]; simp [hdd]))]
            simp only [this]
        have hab : ∀ W, o.about Try.prog W (putAll vs l 0 a).eval = o.about Try.prog W b.eval := fun W => about_congr o W hev
        have hex := execOp_congr o hr3 hev
        have hcnt : (listed.setIfInBounds i true).toList.count false = fuel := by have := count_set_false hun'; omega
        have hnext : ∀ v W', Φ i v W' → Bel W W' → wpAnyIn F 0 Try.prog .any l.toArray Q fuel (listed.setIfInBounds i true) (b.put o.dst v) W' := by
          intro v W' hv hb
          refine ih _ (fun j => if j = i then v else vs j) _ _ hcnt ⟨by rw [Array.size_setIfInBounds]; exact hi.size, ?_, hi.bel.trans hb, ?_⟩
          · have h1 := hi.agree.put hB i (by rw [hun']; simp) v
            rw [hdst] at h1
            have hS : ∀ j, ((listed.setIfInBounds i true)[j]? = some true) ↔ (listed[j]? = some true ∨ j = i) := by
              intro j
              rw [Array.getElem?_setIfInBounds]
              by_cases e : i = j
              · subst e
                have := (Array.getElem?_eq_some_iff.1 hun').1
                simp [this]
              · simp [e, Ne.symm e]
            refine ⟨h1.defers, h1.size, fun t ht => h1.old t (fun j hj => ht j ((hS j).2 hj)), fun j t hj => h1.new j t ((hS j).1 hj)⟩
          · intro j hj
            by_cases e : j = i
            · subst e; rw [if_pos rfl]; exact hv
            · rw [if_neg e]
              rw [Array.getElem?_setIfInBounds_ne (Ne.symm e)] at hj
              exact hst _ _ _ _ (hi.holds j hj) hb
        unfold wpOpIn
        simp only [ho]
        simp only [wpListIn] at hG'
        rw [hwant] at hG'
        have hpd : ∀ v, ((putAll vs l 0 a).put o.dst v).tmps.size = a.tmps.size := fun v => (put_size _ _ _).trans hp.size
        have hval : ∀ v, valOf o ((putAll vs l 0 a).put o.dst v) = v ∨ ((putAll vs l 0 a).put o.dst (valOf o ((putAll vs l 0 a).put o.dst v)) = (putAll vs l 0 a).put o.dst v ∧ b.put o.dst (valOf o ((putAll vs l 0 a).put o.dst v)) = b.put o.dst v) := by
          intro v
          cases hd : o.dst with
          | none => right; exact ⟨rfl, rfl⟩
          | some d =>
            by_cases hlt : d < a.tmps.size
            · left
              have := put_get (putAll vs l 0 a) (some d) v d
              rw [if_pos ⟨rfl, by rw [hp.size]; exact hlt⟩] at this
              simp only [valOf, hd, Array.getD_eq_getD_getElem?, this]; rfl
            · right
              have h1 : ∀ (c : Act) u, c.tmps.size = a.tmps.size → c.put (some d) u = c := by
                intro c u hc
                simp only [Act.put]
                rw [Array.setIfInBounds_eq_of_size_le (by rw [hc]; exact Nat.le_of_not_lt hlt)]
              rw [h1 _ _ hp.size, h1 _ _ hp.size, h1 _ _ hi.agree.size, h1 _ _ hi.agree.size]
              exact ⟨rfl, rfl⟩
        have hgo : ∀ v W', (Φ i (valOf o ((putAll vs l 0 a).put o.dst v)) W' ∧ Bel W W') → wpAnyIn F 0 Try.prog .any l.toArray Q fuel (listed.setIfInBounds i true) (b.put o.dst v) W' := by
          rintro v W' ⟨h1, h2⟩
          rcases hval v with h | ⟨-, h⟩
          · rw [h] at h1; exact hnext v W' h1 h2
          · have := hnext _ W' h1 h2
            rw [h] at this; exact this
        by_cases hw : Region.wanted o (yielded l.toArray b.tmps) = true
        · rw [if_pos hw] at hG' ⊢
          unfold Oper.wpIn at hG' ⊢
          rw [Oper.semAt_eq _ _ _ hr2] at hG' ⊢
          rw [hex] at hG'
          refine ⟨fun f hf => hG'.1 f (by rw [hab]; exact hf), ?_⟩
          refine upon_transfer hG'.2 (fun v W' h => hgo v W' ⟨h.2.2.1, h.2.2.2⟩) (fun c W' h => by cases h.1) ?_ ?_
          · rintro ⟨_, _, h1, _⟩
            cases h1
          · rintro d W' ⟨-, h1, -⟩
            have h2 := congrArg Act.defers h1
            rw [put_defers, put_defers] at h2
            have h3 := congrArg List.length h2
            simp at h3
        · rw [if_neg hw] at hG' ⊢
          exact ⟨fun f hf => hG'.1 f (by rw [hab]; exact hf), hgo _ _ ⟨hG'.2.2.2.1, hG'.2.2.2.2⟩⟩
  refine H _ _ (fun _ => undef) _ _ (by simp) ⟨by simp, ⟨rfl, rfl, fun _ _ => rfl, fun j t hj => ?_⟩, (Bel.refl w).drew, fun j hj => ?_⟩
  · rw [Array.getElem?_replicate] at hj; split at hj <;> cases hj
  · rw [Array.getElem?_replicate] at hj; split at hj <;> cases hj

structure GrowK (l : List Oper) (a : Act) (Φ : Nat → Value → World → Prop) (o : Oper) (i : Nat) (vs : Nat → Value) (W : World) (K : Exit → Act → World → Prop) : Prop where
  out : ∀ b W', b = (putAll vs l 0 a).put o.dst (valOf o b) → Φ i (valOf o b) W' → Bel W W' → K .normal b W'
theorem growOp_k {F : Fence} {l : List Oper} {a : Act} {w : World} {Φ : Nat → Value → World → Prop} {o : Oper} {i : Nat}
    (h : ∀ vs W, Bel w W → (∀ j ∈ (o.after.toList.filter (Region.binds .any)).map (·.on), Φ j (vs j) W) →
      ∀ K : Exit → Act → World → Prop, GrowK l a Φ o i vs W K → wpListIn F 0 Try.prog l.toArray K [o] (putAll vs l 0 a) W) : GrowOp F l a w Φ o i :=
  fun vs W hb hd => h vs W hb hd _ ⟨fun _ _ h1 h2 h3 => ⟨rfl, h1, h2, h3⟩⟩

end Go.Proofs.Ytpkadofgmhninaa
