/- Values without memory: what a value in memory denotes, as a tree; what is owned and may still be written; how this lasts while memory grows. The heap of owned objects; a frame whose slots denote values; what an operation, and a piece of code, do to both. How memory turns: a new block, owned or not; a write into an owned one; an object that is given up; what is loaded and stored. What operations that only read, or lay memory that is written no more, yield. What operations that only read yield: addresses of elements, loads, slices, lengths; and memory that is laid and written no more. -/
import Derived.Calls
import Derived.CallsIn
import Derived.RangeFuncIn
import Derived.RegionIn
import Derived.OrdersIn
import Derived.Laws.Sem
import Derived.Laws.World
import Derived.OwnWalkIn
import Derived.RangeFuncNested
set_option linter.unusedVariables false
set_option linter.unusedSimpArgs false
set_option linter.unusedSectionVars false
namespace Go.Proofs.YtaekibilldjnmaaGreat

inductive AV where
  | bool (b : Bool)
  | int (k : IntKind) (n : Int)
  | str (s : ByteArray)
  /-- A slice that is written no more: is it nil, is its room just its length, its length, its cells. -/
  | sl (nl clip : Bool) (len : Nat) (cells : List AV)
  /-- A pointer into cells that are written no more. -/
  | cp (cells : List AV) (off : Nat)
  /-- A slice of, and a pointer into, an object that is owned; the object's turn when it was taken. -/
  | rs (id ver sz off len : Nat) (clip : Bool)
  | rp (id ver off : Nat)
  | mp (id : Nat)
  | yl (id : Nat)
  /-- A map that is written no more. -/
  | fm (ks vs : List AV)
  | nilp | nilm | nilf | nili
  /-- A slice of nothing, of which its length alone is told. -/
  | em
  | fn (f : Fn) (first captured : List AV)
  | ifc (t : TypeId) (v : AV)
  | agg (cs : List AV)
  | tup (vs : List AV)
  | any

/-- Which block each object is, and its turn. -/
structure Own where
  obj : Nat → Option (Nat × Nat)
  nx : Nat

def Own.free (ρ : Own) (b : Nat) : Prop := ∀ id e, ρ.obj id ≠ some (e, b)

mutual
def Den (ρ : Own) (W : World) : AV → Value → Prop
  | .bool b, v => v = .bool b
  | .int k n, v => v = .int k n
  | .str s, v => v = .string s
  | .sl nl clip len cells, v => ∃ (a : Option Addr) (cap : Nat), v = .slice a len cap ∧ len ≤ cap ∧ (clip = true → cap = len) ∧
      (nl = true → a = none ∧ cap = 0 ∧ cells = []) ∧
      (nl = false → ∃ b off, a = some ⟨b, off, none⟩ ∧ (cells ≠ [] → b < W.heap.size ∧ ρ.free b) ∧ DenL ρ W cells (fun i => W.cell? ⟨b, off + i, none⟩))
  | .cp cells off, v => ∃ b o, v = .pointer (some ⟨b, o + off, none⟩) ∧ (cells ≠ [] → b < W.heap.size ∧ ρ.free b) ∧ DenL ρ W cells (fun i => W.cell? ⟨b, o + i, none⟩)
  | .rs id ver sz off len clip, v => id < ρ.nx ∧ v.oneCell' = true ∧ ∀ e b, ρ.obj id = some (e, b) → ver ≤ e ∧ (e = ver → ∃ cap, v = .slice (some ⟨b, off, none⟩) len cap ∧ len ≤ cap ∧ (clip = true → cap = len) ∧
      ∃ cs ty fz, W.heap[b]? = some (.cells cs ty fz) ∧ off + cap * sz ≤ cs.size)
  | .rp id ver off, v => id < ρ.nx ∧ v.oneCell' = true ∧ ∀ e b, ρ.obj id = some (e, b) → ver ≤ e ∧ (e = ver → v = .pointer (some ⟨b, off, none⟩))
  | .mp id, v => id < ρ.nx ∧ v.oneCell' = true ∧ ∀ b, ρ.obj id = some (0, b) → v = .map (some b)
  | .yl id, v => id < ρ.nx ∧ v.oneCell' = true ∧ ∀ b, ρ.obj id = some (0, b) → v = .func (.yield b) #[] #[]
  | .fm ks vs, v => ∃ r es clock, v = .map (some r) ∧ r < W.heap.size ∧ ρ.free r ∧ W.heap[r]? = some (.map es clock) ∧ es.size = ks.length ∧ es.size = vs.length ∧
      DenL ρ W ks (fun i => (es[i]?).map (·.key)) ∧ DenL ρ W vs (fun i => (es[i]?).map (·.val))
  | .nilp, v => v = .pointer none
  | .nilm, v => v = .map none
  | .nilf, v => v = .nilFunc
  | .nili, v => v = .nilIface
  | .em, v => ∃ (a : Option Addr) (cap : Nat), v = .slice a 0 cap
  | .fn f first captured, v => ∃ xs ys, v = .func f xs ys ∧ xs.size = first.length ∧ ys.size = captured.length ∧ DenL ρ W first (fun i => xs[i]?) ∧ DenL ρ W captured (fun i => ys[i]?)
  | .ifc t x, v => ∃ u, v = .iface t u ∧ Den ρ W x u
  | .agg cs, v => ∃ xs, v = .agg xs ∧ xs.size = cs.length ∧ DenL ρ W cs (fun i => xs[i]?)
  | .tup vs, v => ∃ xs, v = .tuple xs ∧ xs.size = vs.length ∧ DenL ρ W vs (fun i => xs[i]?)
  | .any, _ => True
def DenL (ρ : Own) (W : World) : List AV → (Nat → Option Value) → Prop
  | [], _ => True
  | x :: xs, f => (∃ v, f 0 = some v ∧ Den ρ W x v) ∧ DenL ρ W xs (fun i => f (i + 1))
end

theorem DenL.at {ρ : Own} {W : World} : ∀ {xs : List AV} {f : Nat → Option Value}, DenL ρ W xs f → ∀ {i : Nat} {x : AV}, xs[i]? = some x → ∃ v, f i = some v ∧ Den ρ W x v
  | [], _, _, i, x, hx => by simp at hx
  | y :: ys, f, h, 0, x, hx => by simp only [List.getElem?_cons_zero, Option.some.injEq] at hx; subst hx; rw [DenL] at h; exact h.1
  | y :: ys, f, h, i + 1, x, hx => by
    rw [DenL] at h
    exact DenL.at (f := fun i => f (i + 1)) h.2 (by simpa using hx)
theorem DenL.of {ρ : Own} {W : World} : ∀ {xs : List AV} {f : Nat → Option Value}, (∀ i x, xs[i]? = some x → ∃ v, f i = some v ∧ Den ρ W x v) → DenL ρ W xs f
  | [], _, _ => by rw [DenL]; trivial
  | y :: ys, f, h => by
    rw [DenL]
    exact ⟨h 0 y rfl, DenL.of fun i x hx => h (i + 1) x (by simpa using hx)⟩
theorem DenL.congr {ρ : Own} {W : World} {xs : List AV} {f g : Nat → Option Value} (h : DenL ρ W xs f) (e : ∀ i, i < xs.length → g i = f i) : DenL ρ W xs g :=
  DenL.of fun i x hx => by
    obtain ⟨v, hv, hd⟩ := h.at hx
    exact ⟨v, by rw [e i (List.getElem?_eq_some_iff.1 hx).1]; exact hv, hd⟩

/-- What was not owned stays as it is, and is never owned; an object keeps its block as long as it keeps its turn. -/
structure Ext (ρ : Own) (W : World) (ρ' : Own) (W' : World) : Prop where
  nx : ρ.nx ≤ ρ'.nx
  size : W.heap.size ≤ W'.heap.size
  dead : ∀ id, id < ρ.nx → ρ.obj id = none → ρ'.obj id = none
  up : ∀ id e b e' b', ρ.obj id = some (e, b) → ρ'.obj id = some (e', b') → e ≤ e' ∧ (e' = e → b' = b ∧
    ∀ cs ty fz, W.heap[b]? = some (.cells cs ty fz) → ∃ cs', W'.heap[b]? = some (.cells cs' ty fz) ∧ cs'.size = cs.size)
  free : ∀ b, b < W.heap.size → ρ.free b → ρ'.free b ∧ W'.heap[b]? = W.heap[b]?
  live : ∀ id e b, ρ'.obj id = some (e, b) → id < ρ'.nx
  io : W'.os = W.os ∧ W'.output = W.output ∧ W'.tape = W.tape

theorem Ext.refl {ρ : Own} {W : World} (h : ∀ id e b, ρ.obj id = some (e, b) → id < ρ.nx) : Ext ρ W ρ W :=
  ⟨Nat.le_refl _, Nat.le_refl _, fun _ _ h => h, fun id e b e' b' h h' => by
    rw [h] at h'
    cases h'
    exact ⟨Nat.le_refl _, fun _ => ⟨rfl, fun cs ty fz h => ⟨cs, h, rfl⟩⟩⟩, fun b _ h => ⟨h, rfl⟩, h, rfl, rfl, rfl⟩
theorem Ext.trans {ρ ρ' ρ'' : Own} {W W' W'' : World} (h0 : ∀ id e b, ρ.obj id = some (e, b) → id < ρ.nx) (h : Ext ρ W ρ' W') (k : Ext ρ' W' ρ'' W'') : Ext ρ W ρ'' W'' := by
  refine ⟨Nat.le_trans h.nx k.nx, Nat.le_trans h.size k.size, fun id hi hd => k.dead id (Nat.lt_of_lt_of_le hi h.nx) (h.dead id hi hd), fun id e b e'' b'' h1 h2 => ?_, fun b hb hf => ?_, k.live, k.io.1.trans h.io.1, k.io.2.1.trans h.io.2.1, k.io.2.2.trans h.io.2.2⟩
  · cases h3 : ρ'.obj id with
    | none => rw [k.dead id (Nat.lt_of_lt_of_le (h0 _ _ _ h1) h.nx) h3] at h2; cases h2
    | some x =>
      obtain ⟨e', b'⟩ := x
      obtain ⟨p1, p2⟩ := h.up _ _ _ _ _ h1 h3
      obtain ⟨q1, q2⟩ := k.up _ _ _ _ _ h3 h2
      refine ⟨Nat.le_trans p1 q1, fun he => ?_⟩
      have e1 : e' = e := by omega
      have e2 : e'' = e' := by omega
      obtain ⟨rfl, p3⟩ := p2 e1
      obtain ⟨rfl, q3⟩ := q2 e2
      refine ⟨rfl, fun cs ty fz hc => ?_⟩
      obtain ⟨cs', hc', hs'⟩ := p3 cs ty fz hc
      obtain ⟨cs'', hc'', hs''⟩ := q3 cs' ty fz hc'
      exact ⟨cs'', hc'', hs''.trans hs'⟩
  · obtain ⟨f1, e1⟩ := h.free b hb hf
    obtain ⟨f2, e2⟩ := k.free b (Nat.lt_of_lt_of_le hb h.size) f1
    exact ⟨f2, e2.trans e1⟩

theorem cell_of_block {A B : World} {b : Nat} (h : B.heap[b]? = A.heap[b]?) (o : Nat) : B.cell? ⟨b, o, none⟩ = A.cell? ⟨b, o, none⟩ := by
  simp only [World.cell?, h]

mutual
theorem Den.ext {ρ ρ' : Own} {W W' : World} (q : Ext ρ W ρ' W') (h0 : ∀ id e b, ρ.obj id = some (e, b) → id < ρ.nx) : ∀ (x : AV) (v : Value), Den ρ W x v → Den ρ' W' x v
  | .bool b, v, h => by rw [Den] at h ⊢; exact h
  | .int k n, v, h => by rw [Den] at h ⊢; exact h
  | .str s, v, h => by rw [Den] at h ⊢; exact h
  | .sl nl clip len cells, v, h => by
    rw [Den] at h ⊢
    obtain ⟨a, cap, e, h1, h2, h3, h4⟩ := h
    refine ⟨a, cap, e, h1, h2, h3, fun hn => ?_⟩
    obtain ⟨b, off, ha, hb, hd⟩ := h4 hn
    refine ⟨b, off, ha, fun hc => ⟨Nat.lt_of_lt_of_le (hb hc).1 q.size, (q.free b (hb hc).1 (hb hc).2).1⟩, ?_⟩
    have := DenL.ext q h0 cells _ hd
    refine this.congr fun i hi => cell_of_block ?_ _
    have hc : cells ≠ [] := by rintro rfl; simp at hi
    exact (q.free b (hb hc).1 (hb hc).2).2
  | .cp cells off, v, h => by
    rw [Den] at h ⊢
    obtain ⟨b, o, e, hb, hd⟩ := h
    refine ⟨b, o, e, fun hc => ⟨Nat.lt_of_lt_of_le (hb hc).1 q.size, (q.free b (hb hc).1 (hb hc).2).1⟩, ?_⟩
    have := DenL.ext q h0 cells _ hd
    refine this.congr fun i hi => cell_of_block ?_ _
    have hc : cells ≠ [] := by rintro rfl; simp at hi
    exact (q.free b (hb hc).1 (hb hc).2).2
  | .rs id ver sz off len clip, v, h => by
    rw [Den] at h ⊢
    refine ⟨Nat.lt_of_lt_of_le h.1 q.nx, h.2.1, fun e' b' hb => ?_⟩
    cases e : ρ.obj id with
    | none => rw [q.dead id h.1 e] at hb; cases hb
    | some x =>
      obtain ⟨e0, b0⟩ := x
      obtain ⟨p1, p2⟩ := q.up _ _ _ _ _ e hb
      obtain ⟨r1, r2⟩ := h.2.2 _ _ e
      refine ⟨Nat.le_trans r1 p1, fun hv => ?_⟩
      have e1 : e0 = ver := by omega
      obtain ⟨rfl, p4⟩ := p2 (by omega)
      obtain ⟨cap, h1, h2, h3, cs, ty, fz, h4, h5⟩ := r2 e1
      obtain ⟨cs', h6, h7⟩ := p4 _ _ _ h4
      exact ⟨cap, h1, h2, h3, cs', ty, fz, h6, by omega⟩
  | .rp id ver off, v, h => by
    rw [Den] at h ⊢
    refine ⟨Nat.lt_of_lt_of_le h.1 q.nx, h.2.1, fun e' b' hb => ?_⟩
    cases e : ρ.obj id with
    | none => rw [q.dead id h.1 e] at hb; cases hb
    | some x =>
      obtain ⟨e0, b0⟩ := x
      obtain ⟨p1, p2⟩ := q.up _ _ _ _ _ e hb
      obtain ⟨r1, r2⟩ := h.2.2 _ _ e
      refine ⟨Nat.le_trans r1 p1, fun hv => ?_⟩
      obtain ⟨rfl, -⟩ := p2 (by omega)
      exact r2 (by omega)
  | .mp id, v, h => by
    rw [Den] at h ⊢
    refine ⟨Nat.lt_of_lt_of_le h.1 q.nx, h.2.1, fun b' hb => ?_⟩
    cases e : ρ.obj id with
    | none => rw [q.dead id h.1 e] at hb; cases hb
    | some x =>
      obtain ⟨e0, b0⟩ := x
      obtain ⟨p1, p2⟩ := q.up _ _ _ _ _ e hb
      have r := h.2.2
      by_cases h0 : e0 = 0
      · subst h0
        obtain ⟨rfl, -⟩ := p2 rfl
        exact r _ e
      · omega
  | .yl id, v, h => by
    rw [Den] at h ⊢
    refine ⟨Nat.lt_of_lt_of_le h.1 q.nx, h.2.1, fun b' hb => ?_⟩
    cases e : ρ.obj id with
    | none => rw [q.dead id h.1 e] at hb; cases hb
    | some x =>
      obtain ⟨e0, b0⟩ := x
      obtain ⟨p1, p2⟩ := q.up _ _ _ _ _ e hb
      have r := h.2.2
      by_cases h0 : e0 = 0
      · subst h0
        obtain ⟨rfl, -⟩ := p2 rfl
        exact r _ e
      · omega
  | .fm ks vs, v, h => by
    rw [Den] at h ⊢
    obtain ⟨r, es, clock, e, h1, h2, h3, h4, h5, h6, h7⟩ := h
    obtain ⟨f1, f2⟩ := q.free r h1 h2
    exact ⟨r, es, clock, e, Nat.lt_of_lt_of_le h1 q.size, f1, f2.trans h3, h4, h5, DenL.ext q h0 ks _ h6, DenL.ext q h0 vs _ h7⟩
  | .nilp, v, h => by rw [Den] at h ⊢; exact h
  | .nilm, v, h => by rw [Den] at h ⊢; exact h
  | .nilf, v, h => by rw [Den] at h ⊢; exact h
  | .nili, v, h => by rw [Den] at h ⊢; exact h
  | .em, v, h => by rw [Den] at h ⊢; exact h
  | .fn f first captured, v, h => by
    rw [Den] at h ⊢
    obtain ⟨xs, ys, e, h1, h2, h3, h4⟩ := h
    exact ⟨xs, ys, e, h1, h2, DenL.ext q h0 first _ h3, DenL.ext q h0 captured _ h4⟩
  | .ifc t x, v, h => by
    rw [Den] at h ⊢
    obtain ⟨u, e, h1⟩ := h
    exact ⟨u, e, Den.ext q h0 x u h1⟩
  | .agg cs, v, h => by
    rw [Den] at h ⊢
    obtain ⟨xs, e, h1, h2⟩ := h
    exact ⟨xs, e, h1, DenL.ext q h0 cs _ h2⟩
  | .tup vs, v, h => by
    rw [Den] at h ⊢
    obtain ⟨xs, e, h1, h2⟩ := h
    exact ⟨xs, e, h1, DenL.ext q h0 vs _ h2⟩
  | .any, v, h => by rw [Den]; trivial
theorem DenL.ext {ρ ρ' : Own} {W W' : World} (q : Ext ρ W ρ' W') (h0 : ∀ id e b, ρ.obj id = some (e, b) → id < ρ.nx) : ∀ (xs : List AV) (f : Nat → Option Value), DenL ρ W xs f → DenL ρ' W' xs f
  | [], f, _ => by rw [DenL]; trivial
  | x :: xs, f, h => by
    rw [DenL] at h ⊢
    obtain ⟨⟨v, hv, hd⟩, ht⟩ := h
    exact ⟨⟨v, hv, Den.ext q h0 x v hd⟩, DenL.ext q h0 xs _ ht⟩
end
end Go.Proofs.YtaekibilldjnmaaGreat
namespace Go.Proofs.YtaekibilldjnmaaGreat

inductive Ob where
  | cells (ty : TypeId) (ver : Nat) (cs : List AV)
  | map (ks vs : List AV)
  | mark
  /-- The record of a range over a function: its frame, what is assigned, its body, how far it is, the jump that waits. -/
  | loop (N : Nat) (fr : List (Nat × AV)) (ps : Array Tmp) (assign body : Code) (st : LoopState) (pend : Option Code)
abbrev Hp := Nat → Option Ob
def Hp.set (H : Hp) (id : Nat) (o : Option Ob) : Hp := fun k => if k = id then o else H k
theorem Hp.set_eq (H : Hp) (id : Nat) (o : Option Ob) : H.set id o id = o := by simp [Hp.set]
theorem Hp.set_ne (H : Hp) {id k : Nat} (o : Option Ob) (h : k ≠ id) : H.set id o k = H k := by simp [Hp.set, h]
theorem Hp.set_same (H : Hp) (id : Nat) (o : Option Ob) (h : H id = o) : H.set id o = H := by funext k; simp only [Hp.set]; split <;> simp_all
theorem Hp.set_set (H : Hp) (id : Nat) (o o' : Option Ob) : (H.set id o).set id o' = H.set id o' := by funext k; simp only [Hp.set]; split <;> rfl
theorem Hp.set_comm (H : Hp) {i j : Nat} (o o' : Option Ob) (h : i ≠ j) : (H.set i o).set j o' = (H.set j o').set i o := by
  funext k; simp only [Hp.set]; split <;> split <;> simp_all

abbrev Fr := List (Nat × AV)
def Fr.get : Fr → Nat → Option AV
  | [], _ => none
  | (k, x) :: r, t => if k = t then some x else Fr.get r t
def Fr.put (fr : Fr) (d : Option Tmp) (x : AV) : Fr := match d with | some d => (d, x) :: fr | none => fr

def ObDen (ρ : Own) (W : World) (e b : Nat) : Ob → Prop
  | .cells ty ver cs => e = ver ∧ ∃ arr, W.heap[b]? = some (.cells arr ty (0, 0)) ∧ cs.length ≤ arr.size ∧ DenL ρ W cs (fun i => arr[i]?)
  | .map ks vs => e = 0 ∧ ∃ es clock, W.heap[b]? = some (.map es clock) ∧ es.size = ks.length ∧ es.size = vs.length ∧
      DenL ρ W ks (fun i => (es[i]?).map (·.key)) ∧ DenL ρ W vs (fun i => (es[i]?).map (·.val))
  | .mark => e = 0 ∧ W.heap[b]? = some (.deferred (some []))
  | .loop N fr ps assign body st pend => e = 0 ∧ ∃ fn tmps df, W.heap[b]? = some (.loop { state := st, pending := pend, fn := fn, tmps := tmps, params := ps, assign := assign, body := body, defers := df }) ∧
      tmps.size = N ∧ ∀ t x, Fr.get fr t = some x → ∃ v, tmps[t]? = some v ∧ Den ρ W x v

structure HD (ρ : Own) (W : World) (H : Hp) : Prop where
  obs : ∀ id o, H id = some o → ∃ e b, ρ.obj id = some (e, b) ∧ b < W.heap.size ∧ ObDen ρ W e b o
  non : ∀ id, H id = none → ρ.obj id = none
  live : ∀ id e b, ρ.obj id = some (e, b) → id < ρ.nx
  inj : ∀ id id' e e' b, ρ.obj id = some (e, b) → ρ.obj id' = some (e', b) → id = id'

theorem HD.refl {ρ : Own} {W : World} {H : Hp} (h : HD ρ W H) : Ext ρ W ρ W := Ext.refl h.live
theorem HD.lt {ρ : Own} {W : World} {H : Hp} (h : HD ρ W H) {id e b : Nat} (hb : ρ.obj id = some (e, b)) : b < W.heap.size := by
  cases ho : H id with
  | none => rw [h.non id ho] at hb; cases hb
  | some o =>
    obtain ⟨e', b', h1, h2, -⟩ := h.obs id o ho
    rw [h1] at hb; cases hb; exact h2

def AV.leaf : Value → Option AV
  | .bool b => some (.bool b)
  | .int k n => some (.int k n)
  | .string s => some (.str s)
  | .slice none 0 0 => some (.sl true true 0 [])
  | .pointer none => some .nilp
  | .map none => some .nilm
  | .nilFunc => some .nilf
  | .nilIface => some .nili
  | _ => none
def AV.leaves : List Value → Option (List AV)
  | [] => some []
  | v :: vs => match AV.leaf v, AV.leaves vs with
    | some x, some xs => some (x :: xs)
    | _, _ => none
def AV.ofV : Value → Option AV
  | .agg cs => (AV.leaves cs.toList).map .agg
  | .tuple cs => (AV.leaves cs.toList).map .tup
  | v => AV.leaf v
def Fr.ev (fr : Fr) : Operand → Option AV
  | .tmp t => fr.get t
  | .const v => AV.ofV v
  | .func f => some (.fn (.func f) [] [])
  | .global _ => none

theorem AV.leaf_den {ρ : Own} {W : World} {v : Value} {x : AV} (h : AV.leaf v = some x) : Den ρ W x v := by
  unfold AV.leaf at h
  split at h <;> first | (cases h; rw [Den]) | (cases h)
  exact ⟨none, 0, rfl, Nat.le_refl _, fun _ => rfl, fun _ => ⟨rfl, rfl, rfl⟩, fun h => by cases h⟩
theorem AV.leaves_den {ρ : Own} {W : World} : ∀ {vs : List Value} {xs : List AV}, AV.leaves vs = some xs → vs.length = xs.length ∧ DenL ρ W xs (fun i => vs[i]?)
  | [], xs, h => by simp only [AV.leaves, Option.some.injEq] at h; subst h; exact ⟨rfl, by rw [DenL]; trivial⟩
  | v :: vs, xs, h => by
    unfold AV.leaves at h
    split at h
    · rename_i x ys h1 h2
      cases h
      obtain ⟨h3, h4⟩ := AV.leaves_den (ρ := ρ) (W := W) h2
      refine ⟨by simp [h3], ?_⟩
      rw [DenL]
      exact ⟨⟨v, rfl, AV.leaf_den h1⟩, h4⟩
    · cases h
theorem AV.ofV_den {ρ : Own} {W : World} {v : Value} {x : AV} (h : AV.ofV v = some x) : Den ρ W x v := by
  unfold AV.ofV at h
  split at h
  · rename_i cs
    cases h2 : AV.leaves cs.toList with
    | none => rw [h2] at h; cases h
    | some xs =>
      rw [h2] at h; cases h
      obtain ⟨h3, h4⟩ := AV.leaves_den (ρ := ρ) (W := W) h2
      rw [Den]
      exact ⟨cs, rfl, by simpa using h3, by simpa using h4⟩
  · rename_i cs
    cases h2 : AV.leaves cs.toList with
    | none => rw [h2] at h; cases h
    | some xs =>
      rw [h2] at h; cases h
      obtain ⟨h3, h4⟩ := AV.leaves_den (ρ := ρ) (W := W) h2
      rw [Den]
      exact ⟨cs, rfl, by simpa using h3, by simpa using h4⟩
  · exact AV.leaf_den h

/-- The deferred marks of an activation. -/
def Defs (ρ : Own) : List Nat → List Deferred → Prop
  | [], ds => ds = []
  | id :: D, ds => ∃ b ds', ds = { target := .collected b, args := #[] } :: ds' ∧ ρ.obj id = some (0, b) ∧ Defs ρ D ds'

structure Sim (N : Nat) (fr : Fr) (ρ : Own) (W : World) (a : Act) : Prop where
  size : a.tmps.size = N
  fr : ∀ t x, fr.get t = some x → ∃ v, a.tmps[t]? = some v ∧ Den ρ W x v

theorem Sim.ext {N : Nat} {fr : Fr} {ρ ρ' : Own} {W W' : World} {a : Act} (h : Sim N fr ρ W a) (q : Ext ρ W ρ' W') (h0 : ∀ id e b, ρ.obj id = some (e, b) → id < ρ.nx) : Sim N fr ρ' W' a :=
  ⟨h.size, fun t x hx => let ⟨v, hv, hd⟩ := h.fr t x hx; ⟨v, hv, Den.ext q h0 x v hd⟩⟩
theorem Sim.put {N : Nat} {fr : Fr} {ρ : Own} {W : World} {a : Act} (h : Sim N fr ρ W a) {d : Option Tmp} (hd : (d.all (· < N)) = true) {x : AV} {v : Value} (hv : Den ρ W x v) : Sim N (fr.put d x) ρ W (a.put d v) := by
  cases d with
  | none => exact h
  | some d =>
    have hd : d < N := by simpa using hd
    refine ⟨by simp only [Act.put, Array.size_setIfInBounds]; exact h.size, fun t y hy => ?_⟩
    simp only [Fr.put, Fr.get] at hy
    by_cases e : d = t
    · subst e
      simp only [if_true, Option.some.injEq] at hy
      subst hy
      exact ⟨v, by simp [Act.put, h.size, hd], hv⟩
    · rw [if_neg e] at hy
      obtain ⟨u, hu, hd'⟩ := h.fr t y hy
      exact ⟨u, by simp only [Act.put]; rw [Array.getElem?_setIfInBounds_ne e]; exact hu, hd'⟩
theorem Sim.eval {N : Nat} {fr : Fr} {ρ : Own} {W : World} {a : Act} (h : Sim N fr ρ W a) {y : Operand} {z : AV} (hy : fr.ev y = some z) : Den ρ W z (a.eval y) := by
  cases y with
  | tmp t =>
    obtain ⟨v, hv, hd⟩ := h.fr t z hy
    simp only [Act.eval, Array.getD_eq_getD_getElem?, hv, Option.getD_some]
    exact hd
  | const v => exact AV.ofV_den hy
  | global g => cases hy
  | func f =>
    simp only [Fr.ev, Option.some.injEq] at hy
    subst hy
    rw [Den]
    exact ⟨#[], #[], rfl, rfl, rfl, by rw [DenL]; trivial, by rw [DenL]; trivial⟩

/-- How an operation runs on operands, whatever the frame. -/
def Runs (P : Program) (o : Oper) (σ : Operand → Value) (W : World) (R : Value → World → Prop) : Prop :=
  match (execOp σ o).run P W with
  | .ok (.value v) w => R v w
  | .ok .skip w => R undef w
  | .ok (.enter f args) w => Calls P f args w fun e w' => ∃ v, e = .returned v ∧ R v w'
  | .ok (.round l f tmps assign body) w => RoundIn Fence.wide 0 P l f tmps assign body w fun e w' => ∃ v, e = .returned v ∧ R v w'
  | _ => False

def Oper.calm (o : Oper) : Bool := match o.op with | .defer _ => false | .select .. => false | _ => true

structure OpW (P : Program) (o : Oper) (ev : Operand → Option AV) (H : Hp) (K : AV → Hp → Prop) : Prop where
  calm : Oper.calm o = true
  runs : ∀ ρ W σ, (∀ y ∈ o.op.operands, ∀ z, ev y = some z → Den ρ W z (σ y)) → HD ρ W H →
    Runs P o σ W fun v W' => ∃ ρ' x H', Ext ρ W ρ' W' ∧ Den ρ' W' x v ∧ HD ρ' W' H' ∧ K x H'

def Fw (r : Option Nat) : Fence := { Fence.wide with round := r }
theorem callsIn_fw {r : Option Nat} {n : Nat} {P : Program} {f : FuncId} {args : Array Value} {w : World} {R : Ending → World → Prop} (h : Calls P f args w R) : CallsIn (Fw r) n P f args w R :=
  (callsIn_wide (n := n)).2 h
theorem roundIn_fw {r : Option Nat} {n : Nat} {P : Program} {l : Nat} {f : FuncId} {tmps : Array Value} {assign body : Code} {w : World} {R : Ending → World → Prop} (h : RoundIn Fence.wide n P l f tmps assign body w R) : RoundIn (Fw r) n P l f tmps assign body w R := h

theorem Oper.calm_defer {o : Oper} (h : Oper.calm o = true) : ∀ c, o.op ≠ .defer c := fun c hc => by simp [Oper.calm, hc] at h
theorem Oper.calm_select {o : Oper} (h : Oper.calm o = true) : ∀ c b, o.op ≠ .select c b := fun c b hc => by simp [Oper.calm, hc] at h

theorem Runs.wpIn {P : Program} {r : Option Nat} {o : Oper} {a : Act} {W : World} {R : Value → World → Prop} {next : Act → World → Prop} {Q : Exit → Act → World → Prop}
    (hc : Oper.calm o = true) (h : Runs P o a.eval W R) (hn : ∀ v w, R v w → next (a.put o.dst v) w) : o.wpIn (Fw r) 0 P a W next Q := by
  refine ⟨fun _ _ => trivial, ?_⟩
  rw [Oper.semAt_eq _ _ _ (Oper.calm_defer hc)]
  unfold Runs at h
  generalize (execOp a.eval o).run P W = q at h
  cases q with
  | halt x w => cases h
  | ok x w =>
    cases x <;> first
      | exact hn _ _ h
      | (refine ⟨fun h' => (by cases h'), (callsIn_fw h).mono ?_⟩; rintro e w' ⟨v, rfl, hv⟩; exact hn _ _ hv)
      | (refine ⟨fun h' => (by cases h'), (roundIn_fw h).mono ?_⟩; rintro e w' ⟨v, rfl, hv⟩; exact hn _ _ hv)
      | cases h

/-- The round that a frame is of: its record. -/
def RO (ρ : Own) (ro r : Option Nat) : Prop := match ro, r with
  | none, none => True
  | some id, some l => id < ρ.nx ∧ ∀ b, ρ.obj id = some (0, b) → b = l
  | _, _ => False
theorem RO.ext {ρ ρ' : Own} {W W' : World} {ro r : Option Nat} (h : RO ρ ro r) (q : Ext ρ W ρ' W') : RO ρ' ro r := by
  cases ro <;> cases r <;> first | exact h | skip
  rename_i id l
  refine ⟨Nat.lt_of_lt_of_le h.1 q.nx, fun b hb => ?_⟩
  cases e : ρ.obj id with
  | none => rw [q.dead id h.1 e] at hb; cases hb
  | some x =>
    obtain ⟨e0, b0⟩ := x
    obtain ⟨p1, p2⟩ := q.up _ _ _ _ _ e hb
    obtain rfl : e0 = 0 := by omega
    obtain ⟨rfl, -⟩ := p2 rfl
    exact h.2 _ e

/-- The list of a region's operations, in their order. -/
def WpOps (P : Program) (_ : Option Nat) (N : Nat) (ops : Array Oper) (l : List Oper) (Q : Fr → Hp → Prop) (fr : Fr) (H : Hp) : Prop :=
  ∀ r ρ W a, Sim N fr ρ W a → HD ρ W H → wpListIn (Fw r) 0 P ops (fun e a' W' => e = .normal ∧ ∃ ρ' fr' H', Ext ρ W ρ' W' ∧ a'.defers = a.defers ∧ Sim N fr' ρ' W' a' ∧ HD ρ' W' H' ∧ Q fr' H') l a W

theorem wpListIn_mono {F : Fence} {n : Nat} {P : Program} {ops : Array Oper} {Q Q' : Exit → Act → World → Prop} (hq : ∀ a w, Q .normal a w → Q' .normal a w) (hp : ∀ c a w, ¬ Q (.panic c) a w) (hl : ¬ LetsOut Q) :
    ∀ (l : List Oper) (a : Act) (w : World), wpListIn F n P ops Q l a w → wpListIn F n P ops Q' l a w
  | [], a, w, h => hq a w h
  | o :: l, a, w, h => by
    simp only [wpListIn] at h ⊢
    split
    · rename_i hw
      rw [if_pos hw] at h
      refine ⟨h.1, ?_⟩
      have h2 := h.2
      generalize (o.semAt F.round a.eval).run P w = q at h2
      cases q with
      | halt x w' => cases x <;> first | exact absurd h2 (hp _ _ _) | exact h2
      | ok x w' =>
        cases x <;> first
          | exact wpListIn_mono hq hp hl l _ _ h2
          | exact ⟨h2.1, CallsIn.mono h2.2 (fun e w'' he => by
              cases e with
              | returned v => exact wpListIn_mono hq hp hl l _ _ he
              | panicked c => exact absurd he (hp _ _ _)
              | outgrown => exact absurd he hl)⟩
          | exact ⟨h2.1, RoundIn.mono h2.2 (fun e w'' he => by
              cases e with
              | returned v => exact wpListIn_mono hq hp hl l _ _ he
              | panicked c => exact absurd he (hp _ _ _)
              | outgrown => exact absurd he hl)⟩
          | exact ⟨h2.1, RowsIn.mono h2.2 (fun v w'' he => wpListIn_mono hq hp hl l _ _ he)⟩
          | exact h2
    · rename_i hw
      rw [if_neg hw] at h
      exact ⟨h.1, wpListIn_mono hq hp hl l _ _ h.2⟩

theorem WpOps.nil {P : Program} {r : Option Nat} {N : Nat} {ops : Array Oper} {Q : Fr → Hp → Prop} {fr : Fr} {H : Hp} (h : Q fr H) : WpOps P r N ops [] Q fr H :=
  fun _ ρ W a hs hd => ⟨rfl, ρ, fr, H, hd.refl, rfl, hs, hd, h⟩

theorem wpOps_step {P : Program} {ro r : Option Nat} {N : Nat} {ops : Array Oper} {l : List Oper} {Q : Fr → Hp → Prop} {ρ ρ' : Own} {W W' : World} {a a' : Act} {fr' : Fr} {H' : Hp}
    (h : WpOps P ro N ops l Q fr' H') (q : Ext ρ W ρ' W') (h0 : ∀ id e b, ρ.obj id = some (e, b) → id < ρ.nx) (hs : Sim N fr' ρ' W' a') (hd : HD ρ' W' H') (he : a'.defers = a.defers) :
    wpListIn (Fw r) 0 P ops (fun e a'' W'' => e = .normal ∧ ∃ ρ'' fr'' H'', Ext ρ W ρ'' W'' ∧ a''.defers = a.defers ∧ Sim N fr'' ρ'' W'' a'' ∧ HD ρ'' W'' H'' ∧ Q fr'' H'') l a' W' := by
  refine wpListIn_mono (fun a'' W'' ⟨_, ρ'', fr'', H'', e1, e2, e3, e4, e5⟩ => ⟨rfl, ρ'', fr'', H'', q.trans h0 e1, e2.trans he, e3, e4, e5⟩) ?_ ?_ l a' W' (h r ρ' W' a' hs hd)
  · rintro c _ _ ⟨h, -⟩; cases h
  · rintro ⟨_, _, h, -⟩; cases h

theorem put_defs (a : Act) (d : Option Tmp) (v : Value) : (a.put d v).defers = a.defers := by cases d <;> rfl

theorem WpOps.cons {P : Program} {r : Option Nat} {N : Nat} {ops : Array Oper} {o : Oper} {l : List Oper} {Q : Fr → Hp → Prop} {fr : Fr} {H : Hp} (hg : o.guard = none) (hN : (o.dst.all (· < N)) = true)
    (h : OpW P o fr.ev H (fun x H' => WpOps P r N ops l Q (fr.put o.dst x) H')) : WpOps P r N ops (o :: l) Q fr H := by
  intro r ρ W a hs hd
  refine wpListIn_plain hg fun K hK => ?_
  refine Runs.wpIn h.calm (h.runs ρ W a.eval (fun y _ z hz => hs.eval hz) hd) ?_
  rintro v W' ⟨ρ', x, H', q, hv, hd', hk⟩
  exact hK _ _ (wpOps_step hk q hd.live ((hs.ext q hd.live).put hN hv) hd' (put_defs _ _ _))

theorem Den.undef {ρ : Own} {W : World} : Den ρ W (.tup []) undef := by rw [Den]; exact ⟨#[], rfl, rfl, by rw [DenL]; trivial⟩
theorem wanted_undef {ρ : Own} {W : World} {v : Value} {ops : Array Oper} {tmps : Array Value} {o : Oper} {j : Nat} {want : Bool} {d : Tmp} (hg : o.guard = some (j, want)) (hd : (ops[j]?).bind (·.dst) = some d) (hv : tmps[d]? = some v) (hden : Den ρ W (.tup []) v) : Region.wanted o (yielded ops tmps) = false := by
  rw [Den] at hden
  obtain ⟨xs, rfl, h0, -⟩ := hden
  have hx : xs = #[] := Array.eq_empty_of_size_eq_zero (by simpa using h0)
  subst hx
  unfold Region.wanted
  rw [hg]
  simp only
  unfold yielded
  rw [hd, Option.bind_some, hv]
  cases want <;> rfl

def guardOf (ops : Array Oper) (fr : Fr) (o : Oper) : Option Bool :=
  match o.guard with
  | none => some true
  | some (j, want) => match ((ops[j]?).bind (·.dst)).bind (fr.get) with
    | some (.bool b) => some (b == want)
    | some (.tup []) => some false
    | _ => none

theorem wanted_of {N : Nat} {ops : Array Oper} {fr : Fr} {ρ : Own} {W : World} {a : Act} {o : Oper} {b : Bool} (hs : Sim N fr ρ W a) (h : guardOf ops fr o = some b) : Region.wanted o (yielded ops a.tmps) = b := by
  unfold guardOf at h
  unfold Region.wanted
  cases hg : o.guard with
  | none => rw [hg] at h; simpa using h
  | some g =>
    obtain ⟨j, want⟩ := g
    rw [hg] at h
    simp only at h ⊢
    split at h
    · rename_i c hc
      cases h
      obtain ⟨d, hd, hx⟩ := Option.bind_eq_some_iff.1 hc
      obtain ⟨v, hv, hden⟩ := hs.fr _ _ hx
      rw [Den] at hden
      subst hden
      unfold yielded
      rw [hd, Option.bind_some, hv]
      cases c <;> cases want <;> rfl
    · rename_i hc
      cases h
      obtain ⟨d, hd, hx⟩ := Option.bind_eq_some_iff.1 hc
      obtain ⟨v, hv, hden⟩ := hs.fr _ _ hx
      have := wanted_undef hg hd hv hden
      unfold Region.wanted at this
      rw [hg] at this
      exact this
    · cases h

theorem WpOps.step {P : Program} {r : Option Nat} {N : Nat} {ops : Array Oper} {o : Oper} {l : List Oper} {Q : Fr → Hp → Prop} {fr : Fr} {H : Hp} (hg : guardOf ops fr o = some true) (hN : (o.dst.all (· < N)) = true)
    (h : OpW P o fr.ev H (fun x H' => WpOps P r N ops l Q (fr.put o.dst x) H')) : WpOps P r N ops (o :: l) Q fr H := by
  intro r ρ W a hs hd
  refine wpListIn_step fun K hK => ?_
  rw [wanted_of hs hg, if_pos rfl]
  refine Runs.wpIn h.calm (h.runs ρ W a.eval (fun y _ z hz => hs.eval hz) hd) ?_
  rintro v W' ⟨ρ', x, H', q, hv, hd', hk⟩
  exact hK _ _ (wpOps_step hk q hd.live ((hs.ext q hd.live).put hN hv) hd' (put_defs _ _ _))

theorem Den.anyv {ρ : Own} {W : World} (v : Value) : Den ρ W .any v := by rw [Den]; trivial

theorem WpOps.skip {P : Program} {r : Option Nat} {N : Nat} {ops : Array Oper} {o : Oper} {l : List Oper} {Q : Fr → Hp → Prop} {fr : Fr} {H : Hp} (hg : guardOf ops fr o = some false) (hN : (o.dst.all (· < N)) = true)
    (h : WpOps P r N ops l Q (fr.put o.dst (.tup [])) H) : WpOps P r N ops (o :: l) Q fr H := by
  intro r ρ W a hs hd
  refine wpListIn_step fun K hK => ?_
  rw [wanted_of hs hg]
  refine ⟨fun _ _ => trivial, hK _ _ ?_⟩
  exact wpOps_step h hd.refl hd.live (hs.put hN (Den.undef)) hd (put_defs _ _ _)

/-- What a piece of code does. -/
def WpV (P : Program) (ro : Option Nat) (N : Nat) (c : Code) (Q : Exit → Fr → List Nat → Hp → Prop) (fr : Fr) (D : List Nat) (H : Hp) : Prop :=
  ∀ r ρ W a, RO ρ ro r → Sim N fr ρ W a → Defs ρ D a.defers → HD ρ W H →
    c.wpIn (Fw r) 0 P (fun e a' W' => ∃ ρ' fr' D' H', Ext ρ W ρ' W' ∧ Sim N fr' ρ' W' a' ∧ Defs ρ' D' a'.defers ∧ HD ρ' W' H' ∧ Q e fr' D' H') a W

theorem WpV.mono {P : Program} {r : Option Nat} {N : Nat} {c : Code} {Q Q' : Exit → Fr → List Nat → Hp → Prop} {fr : Fr} {D : List Nat} {H : Hp} (h : WpV P r N c Q fr D H) (hq : ∀ e fr D H, Q e fr D H → Q' e fr D H) : WpV P r N c Q' fr D H :=
  fun r ρ W a hr hs hf hd => wpIn_mono (h r ρ W a hr hs hf hd) fun _ _ _ ⟨ρ', fr', D', H', h1, h2, h3, h4, h5⟩ => ⟨ρ', fr', D', H', h1, h2, h3, h4, hq _ _ _ _ h5⟩

/-- Fewer slots may be known. -/
theorem WpV.weaken {P : Program} {r : Option Nat} {N : Nat} {c : Code} {Q : Exit → Fr → List Nat → Hp → Prop} {fr fr' : Fr} {D : List Nat} {H : Hp} (h : WpV P r N c Q fr' D H) (hw : ∀ t x, fr'.get t = some x → fr.get t = some x) : WpV P r N c Q fr D H :=
  fun r ρ W a hr hs hf hd => h r ρ W a hr ⟨hs.size, fun t x hx => hs.fr t x (hw t x hx)⟩ hf hd

theorem WpV.skip {P : Program} {r : Option Nat} {N : Nat} {Q : Exit → Fr → List Nat → Hp → Prop} {fr : Fr} {D : List Nat} {H : Hp} (h : Q .normal fr D H) : WpV P r N .skip Q fr D H :=
  fun r ρ W a hr hs hf hd => wpIn_skip ⟨ρ, fr, D, H, hd.refl, hs, hf, hd, h⟩
theorem WpV.exit {P : Program} {r : Option Nat} {N id : Nat} {Q : Exit → Fr → List Nat → Hp → Prop} {fr : Fr} {D : List Nat} {H : Hp} (h : Q (.exit id) fr D H) : WpV P r N (.exit id) Q fr D H :=
  fun r ρ W a hr hs hf hd => wpIn_exit ⟨ρ, fr, D, H, hd.refl, hs, hf, hd, h⟩
theorem WpV.ret {P : Program} {r : Option Nat} {N : Nat} {Q : Exit → Fr → List Nat → Hp → Prop} {fr : Fr} {D : List Nat} {H : Hp} (h : Q .ret fr D H) : WpV P r N .ret Q fr D H :=
  fun r ρ W a hr hs hf hd => wpIn_ret ⟨ρ, fr, D, H, hd.refl, hs, hf, hd, h⟩

def Vthen (next : Fr → List Nat → Hp → Prop) (Q : Exit → Fr → List Nat → Hp → Prop) : Exit → Fr → List Nat → Hp → Prop
  | .normal => next
  | e => Q e
def VinBlock (id : Nat) (Q : Exit → Fr → List Nat → Hp → Prop) : Exit → Fr → List Nat → Hp → Prop
  | .exit id' => if id' = id then Q .normal else Q (.exit id')
  | e => Q e

theorem WpV.after {P : Program} {ro r : Option Nat} {N : Nat} {c : Code} {Q : Exit → Fr → List Nat → Hp → Prop} {fr' : Fr} {D' : List Nat} {H' : Hp} {ρ ρ' : Own} {W W' : World} {a' : Act}
    (h : WpV P ro N c Q fr' D' H') (hr : RO ρ ro r) (q : Ext ρ W ρ' W') (h0 : ∀ id e b, ρ.obj id = some (e, b) → id < ρ.nx) (hs : Sim N fr' ρ' W' a') (hf : Defs ρ' D' a'.defers) (hd : HD ρ' W' H') :
    c.wpIn (Fw r) 0 P (fun e a'' W'' => ∃ ρ'' fr'' D'' H'', Ext ρ W ρ'' W'' ∧ Sim N fr'' ρ'' W'' a'' ∧ Defs ρ'' D'' a''.defers ∧ HD ρ'' W'' H'' ∧ Q e fr'' D'' H'') a' W' :=
  wpIn_mono (h r ρ' W' a' (hr.ext q) hs hf hd) fun _ _ _ ⟨ρ'', fr'', D'', H'', h1, h2, h3, h4, h5⟩ => ⟨ρ'', fr'', D'', H'', q.trans h0 h1, h2, h3, h4, h5⟩

theorem WpV.seq {P : Program} {r : Option Nat} {N : Nat} {x y : Code} {Q : Exit → Fr → List Nat → Hp → Prop} {fr : Fr} {D : List Nat} {H : Hp} (h : WpV P r N x (Vthen (fun fr D H => WpV P r N y Q fr D H) Q) fr D H) : WpV P r N (.seq x y) Q fr D H := by
  intro r ρ W a hr hs hf hd
  refine wpIn_seq (wpIn_mono (h r ρ W a hr hs hf hd) fun e a' W' he => ?_)
  obtain ⟨ρ', fr', D', H', q, hs', hf', hd', hq⟩ := he
  cases e with
  | normal => exact WpV.after hq hr q hd.live hs' hf' hd'
  | _ => exact ⟨ρ', fr', D', H', q, hs', hf', hd', hq⟩

theorem WpV.block {P : Program} {r : Option Nat} {N id : Nat} {c : Code} {Q : Exit → Fr → List Nat → Hp → Prop} {fr : Fr} {D : List Nat} {H : Hp} (h : WpV P r N c (VinBlock id Q) fr D H) : WpV P r N (.block id c) Q fr D H := by
  intro r ρ W a hr hs hf hd
  refine wpIn_block (wpIn_mono (h r ρ W a hr hs hf hd) fun e a' W' he => ?_)
  obtain ⟨ρ', fr', D', H', q, hs', hf', hd', hq⟩ := he
  cases e with
  | exit id' =>
    simp only [Exit.inBlock, VinBlock] at hq ⊢
    split
    · rename_i e; rw [if_pos e] at hq; exact ⟨ρ', fr', D', H', q, hs', hf', hd', hq⟩
    · rename_i e; rw [if_neg e] at hq; exact ⟨ρ', fr', D', H', q, hs', hf', hd', hq⟩
  | _ => exact ⟨ρ', fr', D', H', q, hs', hf', hd', hq⟩

theorem WpV.cond {P : Program} {r : Option Nat} {N : Nat} {c : Operand} {x y : Code} {b : Bool} {Q : Exit → Fr → List Nat → Hp → Prop} {fr : Fr} {D : List Nat} {H : Hp} (hc : fr.ev c = some (.bool b))
    (ht : b = true → WpV P r N x Q fr D H) (hf : b = false → WpV P r N y Q fr D H) : WpV P r N (.cond c x y) Q fr D H := by
  intro r ρ W a hr hs hD hd
  have hb := hs.eval hc
  rw [Den] at hb
  exact wpIn_cond_split hb (fun e => ht e r ρ W a hr hs hD hd) (fun e => hf e r ρ W a hr hs hD hd)

theorem wpIn_loop_g {F : Fence} {n : Nat} {P : Program} {Q : Exit → Act → World → Prop} {a : Act} {w : World} {c : Code} {ι : Type} (I : ι → Act → World → Prop) (μ : ι → Nat) (i0 : ι) (h₀ : I i0 a w)
    (round : ∀ i a w, I i a w → c.wpIn F n P (Exit.then (fun a' w' => ∃ j, μ j < μ i ∧ I j a' w') Q) a w) : (Code.loop c).wpIn F n P Q a w := by
  intro b k cs hro hb hr
  have key : ∀ m i a w, μ i = m → I i a w →
      ∃ e a' w', Q e a' w' ∧ ArrivesIn (Machine.fenced P F) P (lone (b.atR a (.code c :: .inLoop c :: k)) cs w) b k cs e a' w' := by
    intro m
    induction m using Nat.strongRecOn with
    | _ m ih =>
      intro i a w hn hI
      obtain ⟨e, a₁, w₁, hq, harr⟩ := round i a w hI b (.inLoop c :: k) cs hro hb hr
      cases e with
      | normal =>
        obtain ⟨j, hlt, hI₁⟩ := hq
        obtain ⟨e₂, a₂, w₂, hq₂, harr₂⟩ := ih (μ j) (hn ▸ hlt) j a₁ w₁ rfl hI₁
        exact ⟨e₂, a₂, w₂, hq₂, .of_steps (StepsIn.trans harr (.one (fenced_calm hb hr rfl) stepR_inLoop)) harr₂⟩
      | exit id => exact ⟨_, a₁, w₁, hq, .pass (x := .inLoop c) rfl (fun _ _ => .inl (by simp)) harr⟩
      | goto l => exact ⟨_, a₁, w₁, hq, .pass (x := .inLoop c) rfl (fun _ _ => .inl (by simp)) harr⟩
      | ret => exact ⟨_, a₁, w₁, hq, .pass (x := .inLoop c) rfl (fun _ _ => .inl (by simp)) harr⟩
      | panic ch => exact ⟨_, a₁, w₁, hq, .pass (x := .inLoop c) rfl (fun _ _ => .inl (by simp)) harr⟩
      | outgrown => exact ⟨_, a₁, w₁, hq, .pass (x := .inLoop c) rfl (fun _ _ => .inl (by simp)) harr⟩
  obtain ⟨e, a', w', hq, harr⟩ := key _ i0 a w rfl h₀
  exact ⟨e, a', w', hq, .of_steps (.one (fenced_calm hb hr rfl) stepR_loop) harr⟩

/-- A loop: the relation says what its slots and the heap hold; the measure falls. -/
theorem WpV.loop {P : Program} {r : Option Nat} {N : Nat} {c : Code} {Q : Exit → Fr → List Nat → Hp → Prop} {fr : Fr} {D : List Nat} {H : Hp} {ι : Type} (I : ι → Fr) (J : ι → Hp) (μ : ι → Nat) (i0 : ι)
    (h0 : ∀ t x, (I i0).get t = some x → fr.get t = some x) (hH : J i0 = H)
    (round : ∀ i, WpV P r N c (Vthen (fun fr' D' H' => D' = D ∧ ∃ j, μ j < μ i ∧ (∀ t x, (I j).get t = some x → fr'.get t = some x) ∧ J j = H') Q) (I i) D (J i)) : WpV P r N (.loop c) Q fr D H := by
  intro r ρ W a hr hs hf hd
  refine wpIn_loop_g (fun i a' W' => ∃ ρ', Ext ρ W ρ' W' ∧ Sim N (I i) ρ' W' a' ∧ Defs ρ' D a'.defers ∧ HD ρ' W' (J i)) μ i0
    ⟨ρ, hd.refl, ⟨hs.size, fun t x hx => hs.fr t x (h0 t x hx)⟩, hf, by rw [hH]; exact hd⟩ ?_
  rintro i a' W' ⟨ρ', q, hs', hf', hd'⟩
  refine wpIn_mono (round i r ρ' W' a' (hr.ext q) hs' hf' hd') fun e a'' W'' he => ?_
  obtain ⟨ρ'', fr'', D'', H'', q2, hs2, hf2, hd2, hq⟩ := he
  have q3 := q.trans hd.live q2
  cases e with
  | normal =>
    obtain ⟨rfl, j, hj, hw, rfl⟩ := hq
    exact ⟨j, hj, ρ'', q3, ⟨hs2.size, fun t x hx => hs2.fr t x (hw t x hx)⟩, hf2, hd2⟩
  | _ => exact ⟨ρ'', fr'', D'', H'', q3, hs2, hf2, hd2, hq⟩

theorem Defs.keep {ρ ρ' : Own} {W W' : World} (q : Ext ρ W ρ' W') (hk : ∀ id b, ρ.obj id = some (0, b) → ρ'.obj id = some (0, b)) : ∀ {D : List Nat} {ds : List Deferred}, Defs ρ D ds → Defs ρ' D ds
  | [], ds, h => h
  | id :: D, ds, ⟨b, ds', e, h1, h2⟩ => ⟨b, ds', e, hk id b h1, Defs.keep q hk h2⟩

end Go.Proofs.YtaekibilldjnmaaGreat
namespace Go.Proofs.YtaekibilldjnmaaGreat
variable {P : Program} {ρ : Own} {W : World} {H : Hp}

theorem HD.of_ext {ρ ρ' : Own} {W W' : World} {H : Hp} (h : HD ρ W H) (q : Ext ρ W ρ' W') {id : Nat} {o : Ob} {e b : Nat} (hd : ObDen ρ W e b o) (hb : W'.heap[b]? = W.heap[b]?) : ObDen ρ' W' e b o := by
  cases o with
  | cells ty ver cs =>
    obtain ⟨h1, arr, h2, h3, h4⟩ := hd
    exact ⟨h1, arr, hb.trans h2, h3, DenL.ext q h.live _ _ h4⟩
  | map ks vs =>
    obtain ⟨h1, es, clock, h2, h3, h4, h5, h6⟩ := hd
    exact ⟨h1, es, clock, hb.trans h2, h3, h4, DenL.ext q h.live _ _ h5, DenL.ext q h.live _ _ h6⟩
  | mark => exact ⟨hd.1, hb.trans hd.2⟩
  | loop N fr ps assign body st pend =>
    obtain ⟨h1, fn, tmps, df, h2, h3, h4⟩ := hd
    exact ⟨h1, fn, tmps, df, hb.trans h2, h3, fun t x hx => let ⟨v, hv, hdv⟩ := h4 t x hx; ⟨v, hv, Den.ext q h.live _ _ hdv⟩⟩

/-- The world draws. -/
theorem Ext.drew (h : HD ρ W H) : Ext ρ W ρ W.drew := ⟨Nat.le_refl _, Nat.le_refl _, fun _ _ h => h, fun id e b e' b' h1 h2 => by
  rw [h1] at h2; cases h2; exact ⟨Nat.le_refl _, fun _ => ⟨rfl, fun cs ty fz hc => ⟨cs, hc, rfl⟩⟩⟩, fun b _ hf => ⟨hf, rfl⟩, h.live, rfl, rfl, rfl⟩
theorem HD.drew (h : HD ρ W H) : HD ρ W.drew H :=
  ⟨fun id o ho => let ⟨e, b, h1, h2, h3⟩ := h.obs id o ho; ⟨e, b, h1, h2, h.of_ext (id := id) (Ext.drew h) h3 rfl⟩, h.non, h.live, h.inj⟩

/-- A new block that is nobody's. -/
theorem Ext.alloc (h : HD ρ W H) (o : Obj) : Ext ρ W ρ (W.alloc o) := by
  have hs : ∀ b, b < W.heap.size → (W.alloc o).heap[b]? = W.heap[b]? := fun b hb => by simp only [World.alloc, Array.getElem?_push]; rw [if_neg (by omega)]
  refine ⟨Nat.le_refl _, by simp, fun _ _ h => h, fun id e b e' b' h1 h2 => ?_, fun b hb hf => ⟨hf, hs b hb⟩, h.live, rfl, rfl, rfl⟩
  rw [h1] at h2; cases h2
  exact ⟨Nat.le_refl _, fun _ => ⟨rfl, fun cs ty fz hc => ⟨cs, by rw [hs _ (h.lt h1)]; exact hc, rfl⟩⟩⟩
theorem HD.alloc (h : HD ρ W H) (o : Obj) : HD ρ (W.alloc o) H := by
  refine ⟨fun id ob ho => ?_, h.non, h.live, h.inj⟩
  obtain ⟨e, b, h1, h2, h3⟩ := h.obs id ob ho
  refine ⟨e, b, h1, by simp; omega, h.of_ext (id := id) (Ext.alloc h o) h3 ?_⟩
  simp only [World.alloc, Array.getElem?_push]; rw [if_neg (by omega)]
theorem HD.new_free (h : HD ρ W H) : ρ.free W.heap.size := fun id e hb => by have := h.lt hb; omega

def Own.add (ρ : Own) (id b : Nat) : Own := { obj := fun k => if k = id then some (0, b) else ρ.obj k, nx := max ρ.nx (id + 1) }
/-- A new block that is an object. -/
theorem Ext.own (h : HD ρ W H) (o : Obj) {id : Nat} (hi : ρ.nx ≤ id) : Ext ρ W (ρ.add id W.heap.size) (W.alloc o) := by
  have hs : ∀ b, b < W.heap.size → (W.alloc o).heap[b]? = W.heap[b]? := fun b hb => by simp only [World.alloc, Array.getElem?_push]; rw [if_neg (by omega)]
  refine ⟨by simp only [Own.add]; omega, by simp, fun k hk hn => ?_, fun k e b e' b' h1 h2 => ?_, fun b hb hf => ⟨fun k e hk => ?_, hs b hb⟩, fun k e b hk => ?_, rfl, rfl, rfl⟩
  · simp only [Own.add]; rw [if_neg (by omega)]; exact hn
  · simp only [Own.add] at h2
    rw [if_neg (by have := h.live _ _ _ h1; omega), h1] at h2; cases h2
    exact ⟨Nat.le_refl _, fun _ => ⟨rfl, fun cs ty fz hc => ⟨cs, by rw [hs _ (h.lt h1)]; exact hc, rfl⟩⟩⟩
  · simp only [Own.add] at hk
    split at hk
    · cases hk; omega
    · exact hf _ _ hk
  · simp only [Own.add] at hk ⊢
    split at hk
    · omega
    · have := h.live _ _ _ hk; omega
theorem HD.own (h : HD ρ W H) {o : Obj} {id : Nat} (hi : ρ.nx ≤ id) {ob : Ob} (hd : ObDen (ρ.add id W.heap.size) (W.alloc o) 0 W.heap.size ob) : HD (ρ.add id W.heap.size) (W.alloc o) (H.set id (some ob)) := by
  refine ⟨fun k o' ho => ?_, fun k hk => ?_, fun k e b hk => (Ext.own h o hi).live k e b hk, fun k k' e e' b h1 h2 => ?_⟩
  · simp only [Hp.set] at ho
    split at ho
    · rename_i e; subst e; cases ho
      exact ⟨0, W.heap.size, by simp [Own.add], by simp, hd⟩
    · rename_i hk
      obtain ⟨e, b, h1, h2, h3⟩ := h.obs k o' ho
      refine ⟨e, b, by simp only [Own.add]; rw [if_neg hk]; exact h1, by simp; omega, h.of_ext (id := k) (Ext.own h o hi) h3 ?_⟩
      simp only [World.alloc, Array.getElem?_push]; rw [if_neg (by omega)]
  · simp only [Hp.set] at hk
    split at hk
    · cases hk
    · rename_i hne; simp only [Own.add]; rw [if_neg hne]; exact h.non k hk
  · simp only [Own.add] at h1 h2
    split at h1 <;> split at h2
    · omega
    · cases h1; have := h.lt h2; omega
    · cases h2; have := h.lt h1; omega
    · exact h.inj _ _ _ _ _ h1 h2
theorem HD.fresh (h : HD ρ W H) {id : Nat} (hi : ρ.nx ≤ id) : H id = none := by
  cases ho : H id with
  | none => rfl
  | some o => obtain ⟨e, b, h1, -⟩ := h.obs id o ho; have := h.live _ _ _ h1; omega

/-- A write into an object. -/
theorem Ext.write (h : HD ρ W H) {W' : World} {id e b : Nat} (hb : ρ.obj id = some (e, b)) (hs : W'.heap.size = W.heap.size) (ho : ∀ k, k ≠ b → W'.heap[k]? = W.heap[k]?)
    (hc : ∀ cs ty fz, W.heap[b]? = some (.cells cs ty fz) → ∃ cs', W'.heap[b]? = some (.cells cs' ty fz) ∧ cs'.size = cs.size) (hio : W'.os = W.os ∧ W'.output = W.output ∧ W'.tape = W.tape := by exact ⟨rfl, rfl, rfl⟩) : Ext ρ W ρ W' := by
  refine ⟨Nat.le_refl _, by omega, fun _ _ h => h, fun k e1 b1 e2 b2 h1 h2 => ?_, fun c hcs hf => ⟨hf, ho c (fun e' => hf id e (by rw [e']; exact hb))⟩, h.live, hio⟩
  rw [h1] at h2; cases h2
  refine ⟨Nat.le_refl _, fun _ => ⟨rfl, fun cs ty fz hx => ?_⟩⟩
  by_cases hk : b1 = b
  · subst hk; exact hc cs ty fz hx
  · exact ⟨cs, by rw [ho b1 hk]; exact hx, rfl⟩
theorem HD.write (h : HD ρ W H) {W' : World} {id e b : Nat} (hb : ρ.obj id = some (e, b)) (hs : W'.heap.size = W.heap.size) (ho : ∀ k, k ≠ b → W'.heap[k]? = W.heap[k]?)
    (hc : ∀ cs ty fz, W.heap[b]? = some (.cells cs ty fz) → ∃ cs', W'.heap[b]? = some (.cells cs' ty fz) ∧ cs'.size = cs.size) {ob : Ob} (hd : ObDen ρ W' e b ob) (hio : W'.os = W.os ∧ W'.output = W.output ∧ W'.tape = W.tape := by exact ⟨rfl, rfl, rfl⟩) : HD ρ W' (H.set id (some ob)) := by
  have q := Ext.write h hb hs ho hc hio
  refine ⟨fun k o' hk => ?_, fun k hk => ?_, h.live, h.inj⟩
  · simp only [Hp.set] at hk
    split at hk
    · rename_i hke; subst hke; cases hk; exact ⟨e, b, hb, by have := h.lt hb; omega, hd⟩
    · rename_i hke
      obtain ⟨e1, b1, h1, h2, h3⟩ := h.obs k o' hk
      exact ⟨e1, b1, h1, by omega, h.of_ext (id := k) q h3 (ho b1 (fun e' => hke (h.inj _ _ _ _ _ (e' ▸ h1) hb)))⟩
  · simp only [Hp.set] at hk
    split at hk
    · cases hk
    · exact h.non k hk

/-- An object that is given up: written no more. -/
def Own.drop (ρ : Own) (id : Nat) : Own := { ρ with obj := fun k => if k = id then none else ρ.obj k }
theorem Ext.drop (h : HD ρ W H) (id : Nat) : Ext ρ W (ρ.drop id) W := by
  refine ⟨Nat.le_refl _, Nat.le_refl _, fun k _ hn => ?_, fun k e b e' b' h1 h2 => ?_, fun b hb hf => ⟨fun k e hk => ?_, rfl⟩, fun k e b hk => ?_, rfl, rfl, rfl⟩
  · simp only [Own.drop]; split <;> first | rfl | exact hn
  · simp only [Own.drop] at h2
    split at h2
    · cases h2
    · rw [h1] at h2; cases h2; exact ⟨Nat.le_refl _, fun _ => ⟨rfl, fun cs ty fz hc => ⟨cs, hc, rfl⟩⟩⟩
  · simp only [Own.drop] at hk
    split at hk
    · cases hk
    · exact hf _ _ hk
  · simp only [Own.drop] at hk ⊢
    split at hk
    · cases hk
    · exact h.live _ _ _ hk
theorem HD.drop (h : HD ρ W H) (id : Nat) : HD (ρ.drop id) W (H.set id none) := by
  have q := Ext.drop h id
  refine ⟨fun k o' hk => ?_, fun k hk => ?_, fun k e b hk => q.live k e b hk, fun k k' e e' b h1 h2 => ?_⟩
  · simp only [Hp.set] at hk
    split at hk
    · cases hk
    · rename_i hne
      obtain ⟨e1, b1, h1, h2, h3⟩ := h.obs k o' hk
      exact ⟨e1, b1, by simp only [Own.drop]; rw [if_neg hne]; exact h1, h2, h.of_ext (id := k) q h3 rfl⟩
  · simp only [Hp.set] at hk
    simp only [Own.drop]
    split
    · rfl
    · rename_i hne; rw [if_neg hne] at hk; exact h.non k hk
  · simp only [Own.drop] at h1 h2
    split at h1 <;> split at h2
    · cases h1
    · cases h1
    · cases h2
    · exact h.inj _ _ _ _ _ h1 h2
theorem HD.drop_free (h : HD ρ W H) {id e b : Nat} (hb : ρ.obj id = some (e, b)) : (ρ.drop id).free b := fun k e' hk => by
  simp only [Own.drop] at hk
  split at hk
  · cases hk
  · rename_i hne; exact hne (h.inj _ _ _ _ _ hk hb)

/-- An object is renamed. -/
def Own.rename (ρ : Own) (id id' e b : Nat) : Own := { obj := fun k => if k = id' then some (e, b) else if k = id then none else ρ.obj k, nx := max ρ.nx (id' + 1) }

/-! ### Loads -/
def aggT (P : Program) (t : TypeId) : Option Bool := match P.underlying t with
  | some (.struct _) | some (.array _ _) => some true
  | some _ => some false
  | none => none
def sizeT (P : Program) (t : TypeId) : Option Nat := (P.info? t).map (·.size)

theorem run_underlying {t : TypeId} {d : TypeDesc} (h : P.underlying t = some d) : (underlying t).run P W = .ok d W := by
  simp [underlying, h]
theorem run_sizeOf {t : TypeId} {n : Nat} (h : sizeT P t = some n) : (sizeOf t).run P W = .ok n W := by
  unfold sizeT at h
  cases hi : P.info? t with
  | none => rw [hi] at h; cases h
  | some i => rw [hi] at h; cases h; simp [sizeOf, typeInfo, hi]
theorem run_isAgg {t : TypeId} {b : Bool} (h : aggT P t = some b) : (isAgg t).run P W = .ok b W := by
  unfold aggT at h
  cases hu : P.underlying t with
  | none => rw [hu] at h; cases h
  | some d =>
    rw [hu] at h
    simp only [isAgg, Sem.run_bind, run_underlying hu, Result.andThen_ok]
    cases d <;> first | (cases h; rfl)

theorem add_addr (b o i : Nat) : (⟨b, o, none⟩ : Addr).add i = ⟨b, o + i, none⟩ := by
  unfold Addr.add
  split
  · rename_i h; subst h; rfl
  · rfl

theorem run_loadCellsFrom {b o : Nat} : ∀ (n i : Nat) (acc : Array Value) (xs : List AV), DenL ρ W xs (fun j => W.cell? ⟨b, o + (i + j), none⟩) → n ≤ xs.length →
    ∃ ys : List Value, ys.length = n ∧ (loadCellsFrom ⟨b, o, none⟩ i n acc).run P W = .ok (acc ++ ys.toArray) W ∧ DenL ρ W (xs.take n) (fun j => ys[j]?)
  | 0, i, acc, xs, _, _ => ⟨[], rfl, by simp [loadCellsFrom], by rw [List.take_zero, DenL]; trivial⟩
  | n + 1, i, acc, [], _, hn => by simp at hn
  | n + 1, i, acc, x :: xs, h, hn => by
    rw [DenL] at h
    obtain ⟨⟨v, hv, hd⟩, ht⟩ := h
    obtain ⟨ys, h1, h2, h3⟩ := run_loadCellsFrom (b := b) (o := o) n (i + 1) (acc.push v) xs (ht.congr fun j _ => by simp only [show i + 1 + j = i + (j + 1) by omega]) (by simpa using hn)
    refine ⟨v :: ys, by simp [h1], ?_, ?_⟩
    · simp only [loadCellsFrom, Sem.run_bind, run_load, add_addr]
      rw [show o + i = o + (i + 0) by omega, hv]
      simp only [Result.andThen_ok]
      rw [h2]
      congr 1
      simp
    · rw [List.take_succ_cons, DenL]
      exact ⟨⟨v, rfl, hd⟩, h3⟩

def loadC (P : Program) (t : TypeId) (cells : List AV) (off : Nat) : Option AV :=
  match aggT P t, sizeT P t with
  | some true, some n => if off + n ≤ cells.length then some (.agg ((cells.drop off).take n)) else none
  | some false, _ => cells[off]?
  | _, _ => none

theorem DenL.drop {f : Nat → Option Value} : ∀ {xs : List AV} {k : Nat}, DenL ρ W xs f → DenL ρ W (xs.drop k) (fun i => f (k + i)) := by
  intro xs k h
  refine DenL.of fun i x hx => ?_
  rw [List.getElem?_drop] at hx
  exact h.at hx
theorem DenL.take {f : Nat → Option Value} {xs : List AV} {k : Nat} (h : DenL ρ W xs f) : DenL ρ W (xs.take k) f := by
  refine DenL.of fun i x hx => ?_
  rw [List.getElem?_take] at hx
  split at hx
  · exact h.at hx
  · cases hx

theorem run_loadVar {t : TypeId} {b o off : Nat} {cells : List AV} {x : AV} (hd : DenL ρ W cells (fun i => W.cell? ⟨b, o + i, none⟩)) (h : loadC P t cells off = some x) :
    ∃ v, (loadVar t ⟨b, o + off, none⟩).run P W = .ok v W ∧ Den ρ W x v := by
  unfold loadC at h
  split at h
  · rename_i n ha hn
    split at h
    · rename_i hle
      cases h
      obtain ⟨ys, h1, h2, h3⟩ := run_loadCellsFrom (P := P) (b := b) (o := o + off) n 0 #[] (cells.drop off) (hd.drop.congr fun j _ => by simp only [show o + off + (0 + j) = o + (off + j) by omega]) (by simp; omega)
      refine ⟨.agg ys.toArray, ?_, ?_⟩
      · simp [loadVar, run_isAgg ha, run_sizeOf hn, loadCells, h2]
      · rw [Den]; exact ⟨ys.toArray, rfl, by simp [h1]; omega, by simpa using h3⟩
    · cases h
  · rename_i ha
    obtain ⟨v, hv, hx⟩ := hd.at h
    exact ⟨v, by simp [loadVar, run_isAgg ha, hv], hx⟩
  · cases h

/-! ### Stores -/
def AV.one : AV → Bool
  | .agg _ | .tup _ | .any => false
  | _ => true
def AV.cells : AV → Option (List AV)
  | .agg cs => if cs.all AV.one then some cs else none
  | .tup _ | .any => none
  | x => some [x]
theorem Den.one {x : AV} {v : Value} (h : Den ρ W x v) (hx : x.one = true) : v.oneCell' = true ∧ v.cells = #[v] := by
  have key : v.oneCell' = true → v.oneCell' = true ∧ v.cells = #[v] := fun h => ⟨h, by cases v <;> first | rfl | (simp [Value.oneCell'] at h)⟩
  apply key
  cases x <;> rw [Den] at h
  case agg => cases hx
  case tup => cases hx
  case any => cases hx
  case sl => obtain ⟨a, cap, rfl, -⟩ := h; rfl
  case em => obtain ⟨a, cap, rfl⟩ := h; rfl
  case cp => obtain ⟨a, cap, rfl, -⟩ := h; rfl
  case fm => obtain ⟨a, es, cl, rfl, -⟩ := h; rfl
  case fn => obtain ⟨xs, ys, rfl, -⟩ := h; rfl
  case ifc => obtain ⟨u, rfl, -⟩ := h; rfl
  case rs => exact h.2.1
  case rp => exact h.2.1
  case mp => exact h.2.1
  case yl => exact h.2.1
  all_goals (subst h; rfl)

theorem Den.cells {x : AV} {v : Value} {xs : List AV} (h : Den ρ W x v) (hx : x.cells = some xs) : v.cells.size = xs.length ∧ DenL ρ W xs (fun i => v.cells[i]?) ∧ (∀ u ∈ v.cells, u.oneCell' = true) := by
  have one : ∀ y : AV, y.one = true → Den ρ W y v → xs = [y] → v.cells.size = xs.length ∧ DenL ρ W xs (fun i => v.cells[i]?) ∧ (∀ u ∈ v.cells, u.oneCell' = true) := by
    rintro y hy hd rfl
    obtain ⟨h1, h2⟩ := hd.one hy
    rw [h2]
    refine ⟨rfl, ?_, by simpa using h1⟩
    rw [DenL, DenL]
    exact ⟨⟨v, rfl, hd⟩, trivial⟩
  cases x
  case agg cs =>
    simp only [AV.cells] at hx
    split at hx
    · rename_i hall
      cases hx
      rw [Den] at h
      obtain ⟨ys, rfl, h1, h2⟩ := h
      refine ⟨h1, h2, fun u hu => ?_⟩
      simp only [Value.cells] at hu
      obtain ⟨i, hi, rfl⟩ := Array.getElem_of_mem hu
      have hlt := h1 ▸ hi
      obtain ⟨v, hv, hd⟩ := h2.at (List.getElem?_eq_getElem hlt)
      rw [Array.getElem?_eq_getElem hi] at hv
      cases hv
      exact (hd.one (List.all_eq_true.1 hall _ (List.getElem_mem hlt))).1
    · cases hx
  case tup => cases hx
  case any => cases hx
  all_goals (cases hx; exact one _ rfl h rfl)

/-- What the store leaves of an object's cells. -/
def putC (cs : List AV) (off : Nat) (xs : List AV) : List AV := cs.take off ++ xs ++ cs.drop (off + xs.length)

def arrPut (arr : Array Value) (off : Nat) : List Value → Array Value
  | [] => arr
  | v :: vs => arrPut (arr.setIfInBounds off v) (off + 1) vs
theorem arrPut_size : ∀ (vs : List Value) (arr : Array Value) (off : Nat), (arrPut arr off vs).size = arr.size
  | [], _, _ => rfl
  | v :: vs, arr, off => by rw [arrPut, arrPut_size]; simp
theorem arrPut_get : ∀ (vs : List Value) (arr : Array Value) (off i : Nat), off + vs.length ≤ arr.size → (arrPut arr off vs)[i]? = if off ≤ i ∧ i < off + vs.length then vs[i - off]? else arr[i]?
  | [], arr, off, i, _ => by rw [arrPut, if_neg (by simp only [List.length_nil]; omega)]
  | v :: vs, arr, off, i, h => by
    simp only [List.length_cons] at h ⊢
    rw [arrPut, arrPut_get vs _ _ _ (by simp; omega)]
    by_cases h1 : off + 1 ≤ i ∧ i < off + 1 + vs.length
    · rw [if_pos h1, if_pos (by omega), show i - off = (i - (off + 1)) + 1 by omega, List.getElem?_cons_succ]
    · rw [if_neg h1]
      by_cases h2 : i = off
      · subst h2
        rw [if_pos (by omega)]
        have hlt : i < arr.size := by omega
        simp [hlt]
      · rw [if_neg (by omega)]
        rw [Array.getElem?_setIfInBounds_ne (Ne.symm h2)]

theorem run_storeCells {b : Nat} {ty : TypeId} : ∀ (vs : List Value) (W : World) (arr : Array Value) (o i : Nat), W.heap[b]? = some (.cells arr ty (0, 0)) → o + i + vs.length ≤ arr.size → (∀ u ∈ vs, u.oneCell' = true) →
    ∃ W', (storeCells ⟨b, o, none⟩ vs i).run P W = .ok () W' ∧ W'.heap.size = W.heap.size ∧ (∀ k, k ≠ b → W'.heap[k]? = W.heap[k]?) ∧ W'.heap[b]? = some (.cells (arrPut arr (o + i) vs) ty (0, 0)) ∧ (W'.os = W.os ∧ W'.output = W.output ∧ W'.tape = W.tape)
  | [], W, arr, o, i, h, _, _ => ⟨W, rfl, rfl, fun _ _ => rfl, h, rfl, rfl, rfl⟩
  | v :: vs, W, arr, o, i, h, hl, h1 => by
    simp only [List.length_cons] at hl
    have hc : W.cell? ⟨b, o + i, none⟩ = some arr[o + i] := by
      simp only [World.cell?, h]; exact Array.getElem?_eq_getElem (by omega)
    have hf : W.frozen? ⟨b, o + i, none⟩ = false := by simp [World.frozen?, h]
    have hb : (W.setCell ⟨b, o + i, none⟩ v).heap[b]? = some (.cells (arr.setIfInBounds (o + i) v) ty (0, 0)) := by
      simp [World.setCell, Array.getElem?_modify, h]
    obtain ⟨W', e1, e2, e3, e4, e5⟩ := run_storeCells vs (W.setCell ⟨b, o + i, none⟩ v) (arr.setIfInBounds (o + i) v) o (i + 1) hb (by simp; omega) (fun u hu => h1 u (List.mem_cons_of_mem _ hu))
    refine ⟨W', ?_, by rw [e2]; simp, fun k hk => ?_, ?_, e5⟩
    · simp only [storeCells, Sem.run_bind, add_addr]
      rw [run_store P W _ v _ (h1 v (List.mem_cons_self ..)), hc]
      simp only [hf, Bool.false_eq_true, if_false, Result.andThen_ok]
      exact e1
    · rw [e3 k hk]
      simp only [World.setCell, Array.getElem?_modify]
      rw [if_neg (fun e => hk e.symm)]
    · rw [e4, arrPut, show o + (i + 1) = o + i + 1 by omega]

theorem putC_den {cs xs : List AV} {off : Nat} {arr : Array Value} {vs : List Value} (h : DenL ρ W cs (fun i => arr[i]?)) (hx : DenL ρ W xs (fun i => vs[i]?)) (hv : vs.length = xs.length) (hle : off + xs.length ≤ cs.length) (ha : cs.length ≤ arr.size) :
    DenL ρ W (putC cs off xs) (fun i => (arrPut arr off vs)[i]?) := by
  refine DenL.of fun i x hi => ?_
  rw [arrPut_get _ _ _ _ (by omega)]
  unfold putC at hi
  by_cases h1 : off ≤ i ∧ i < off + vs.length
  · rw [if_pos h1]
    rw [List.append_assoc, List.getElem?_append_right (by simp; omega), List.getElem?_append_left (by simp; omega)] at hi
    simp only [List.length_take] at hi
    rw [show i - min off cs.length = i - off by omega] at hi
    exact hx.at hi
  · rw [if_neg h1]
    by_cases h2 : i < off
    · rw [List.append_assoc, List.getElem?_append_left (by simp; omega), List.getElem?_take, if_pos h2] at hi
      exact h.at hi
    · rw [List.getElem?_append_right (by simp; omega), List.getElem?_drop] at hi
      simp only [List.length_append, List.length_take] at hi
      rw [show off + xs.length + (i - (min off cs.length + xs.length)) = i by omega] at hi
      exact h.at hi

/-- A store into an object. -/
theorem run_storeVar (h : HD ρ W H) {t ty : TypeId} {id ver b off : Nat} {cs xs : List AV} {x : AV} {v : Value} (ho : H id = some (.cells ty ver cs)) (hb : ρ.obj id = some (ver, b))
    (hx : Den ρ W x v) (hc : x.cells = some xs) (hs : sizeT P t = some xs.length) (hle : off + xs.length ≤ cs.length) :
    ∃ W', (storeVar t ⟨b, off, none⟩ v).run P W = .ok () W' ∧ Ext ρ W ρ W' ∧ HD ρ W' (H.set id (some (.cells ty ver (putC cs off xs)))) := by
  obtain ⟨e, b', h1, h2, h3⟩ := h.obs id _ ho
  rw [hb] at h1; cases h1
  obtain ⟨-, arr, h4, h5, h6⟩ := h3
  obtain ⟨k1, k2, k3⟩ := hx.cells hc
  obtain ⟨W', e1, e2, e3, e4, e5⟩ := run_storeCells (P := P) v.cells.toList W arr off 0 h4 (by simp; omega) (by simpa using k3)
  have hcs : ∀ cs' ty' fz, W.heap[b]? = some (.cells cs' ty' fz) → ∃ cs'', W'.heap[b]? = some (.cells cs'' ty' fz) ∧ cs''.size = cs'.size := by
    intro cs' ty' fz hh
    rw [h4] at hh; cases hh
    exact ⟨_, e4, arrPut_size _ _ _⟩
  have q := Ext.write h hb e2 e3 hcs e5
  refine ⟨W', ?_, q, HD.write h hb e2 e3 hcs ⟨rfl, _, e4, ?_, ?_⟩ e5⟩
  · simp only [storeVar, Sem.run_bind, run_sizeOf hs, Result.andThen_ok]
    rw [if_neg (by simpa using k1)]
    simpa using e1
  · rw [arrPut_size]; simp only [putC, List.length_append, List.length_take, List.length_drop]; omega
  · rw [Nat.add_zero]
    exact putC_den (DenL.ext q h.live _ _ h6) (DenL.ext q h.live _ _ (by simpa using k2)) (by simpa using k1) hle h5
end Go.Proofs.YtaekibilldjnmaaGreat
namespace Go.Proofs.YtaekibilldjnmaaGreat
variable {P : Program} {ρ : Own} {W : World} {H : Hp}

/-- The operation yields what the value denotes; the heap of objects stays. -/
def Ok (P : Program) (o : Oper) (σ : Operand → Value) (ρ : Own) (W : World) (H : Hp) (x : AV) : Prop :=
  ∃ v W', (execOp σ o).run P W = .ok (.value v) W' ∧ Ext ρ W ρ W' ∧ HD ρ W' H ∧ Den ρ W' x v
theorem Ok.pure {o : Oper} {σ : Operand → Value} {x : AV} (h : HD ρ W H) {v : Value} (hr : (execOp σ o).run P W = .ok (.value v) W) (hd : Den ρ W x v) : Ok P o σ ρ W H x :=
  ⟨v, W, hr, h.refl, h, hd⟩

abbrev Evs (o : Oper) (ev : Operand → Option AV) (ρ : Own) (W : World) (σ : Operand → Value) : Prop := ∀ y ∈ o.op.operands, ∀ z, ev y = some z → Den ρ W z (σ y)

def evBin0 (P : Program) (op : BinOp) (t : TypeId) (x y : AV) : Option AV :=
  match x, y with
  | .int k a, .int k' b => if k = k' then
      match op with
      | .add => some (.int k (k.wrap (a + b)))
      | .sub => some (.int k (k.wrap (a - b)))
      | .mul => some (.int k (k.wrap (a * b)))
      | .quo => if b = 0 then none else some (.int k (k.wrap (a.tdiv b)))
      | .rem => if b = 0 then none else some (.int k (a.tmod b))
      | .eql => some (.bool (a == b))
      | .neq => some (.bool (a != b))
      | .lss => some (.bool (a < b))
      | .leq => some (.bool (a ≤ b))
      | .gtr => some (.bool (a > b))
      | .geq => some (.bool (a ≥ b))
      | _ => none
    else none
  | .bool a, .bool b => match P.underlying t, op with
    | some .bool, .eql => some (.bool (a == b))
    | some .bool, .neq => some (.bool (!(a == b)))
    | _, _ => none
  | .sl nl _ _ _, .sl true _ _ _ => match P.underlying t, op with
    | some (.slice _), .eql => some (.bool nl)
    | some (.slice _), .neq => some (.bool (!nl))
    | _, _ => none
  | _, _ => none

theorem Den.int_iff {k : IntKind} {n : Int} {v : Value} : Den ρ W (.int k n) v ↔ v = .int k n := by rw [Den]
theorem Den.bool_iff {b : Bool} {v : Value} : Den ρ W (.bool b) v ↔ v = .bool b := by rw [Den]

theorem run_equalIn_bool {t : TypeId} (d : Nat) (hu : P.underlying t = some .bool) (a b : Bool) : (Op.equalIn (d + 1) t (.bool a) (.bool b)).run P W = .ok (a == b) W := by
  rw [Op.equalIn, Sem.run_bind, run_underlying hu]; rfl
theorem run_equal_bool {t : TypeId} (hu : P.underlying t = some .bool) (a b : Bool) : (Op.equal t (.bool a) (.bool b)).run P W = .ok (a == b) W := run_equalIn_bool 9999 hu a b
theorem run_equalIn_nil {t e : TypeId} (d : Nat) (hu : P.underlying t = some (.slice e)) (a : Option Addr) (n c m k : Nat) : (Op.equalIn (d + 1) t (.slice a n c) (.slice none m k)).run P W = .ok a.isNone W := by
  rw [Op.equalIn, Sem.run_bind, run_underlying hu]; cases a <;> rfl
theorem run_equal_nil {t e : TypeId} (hu : P.underlying t = some (.slice e)) (a : Option Addr) (n c m k : Nat) : (Op.equal t (.slice a n c) (.slice none m k)).run P W = .ok a.isNone W := run_equalIn_nil 9999 hu a n c m k

theorem run_binOp0 {op : BinOp} {t : TypeId} {x y : Operand} {a b : AV} {u v : Value} {z : AV} (hu : Den ρ W a u) (hv : Den ρ W b v) (h : evBin0 P op t a b = some z) :
    ∃ r, (do eqGuard op t x y u v; binOp op t u v : Sem Value).run P W = .ok r W ∧ Den ρ W z r := by
  unfold evBin0 at h
  split at h
  · rename_i k a k' b
    rw [Den] at hu hv
    subst hu hv
    split at h
    · rename_i e
      subst e
      have hg : (eqGuard op t x y (.int k a) (.int k b)).run P W = .ok () W := by
        unfold eqGuard; cases op <;> rfl
      simp only [Sem.run_bind, hg, Result.andThen_ok]
      cases op <;> simp only [Option.some.injEq, reduceCtorEq] at h
      case quo =>
        split at h
        · cases h
        · rename_i hb
          cases h
          refine ⟨_, ?_, Den.int_iff.2 rfl⟩
          simp [binOp, Op.intDiv, hb]
      case rem =>
        split at h
        · cases h
        · rename_i hb
          cases h
          refine ⟨_, ?_, Den.int_iff.2 rfl⟩
          simp [binOp, Op.intDiv, hb]
      all_goals first
        | (subst h; refine ⟨_, ?_, Den.int_iff.2 rfl⟩; simp [binOp, Op.intArith]; done)
        | (subst h; refine ⟨_, ?_, Den.bool_iff.2 rfl⟩; simp [binOp, Op.intCmp]; done)
    · cases h
  · rename_i a b
    rw [Den] at hu hv
    subst hu hv
    split at h
    · rename_i hu
      cases h
      refine ⟨_, ?_, Den.bool_iff.2 rfl⟩
      have hg : (eqGuard .eql t x y (.bool a) (.bool b)).run P W = .ok () W := rfl
      have hb : (binOp .eql t (.bool a) (.bool b)).run P W = ((Op.equal t (.bool a) (.bool b)).run P W).andThen fun r w => .ok (.bool r) w := by
        simp only [binOp, Sem.run_bind]; rfl
      rw [Sem.run_bind, hg, Result.andThen_ok, hb, run_equal_bool hu]; rfl
    · rename_i hu
      cases h
      refine ⟨_, ?_, Den.bool_iff.2 rfl⟩
      have hg : (eqGuard .neq t x y (.bool a) (.bool b)).run P W = .ok () W := rfl
      have hb : (binOp .neq t (.bool a) (.bool b)).run P W = ((Op.equal t (.bool a) (.bool b)).run P W).andThen fun r w => .ok (.bool (!r)) w := by
        simp only [binOp, Sem.run_bind]; rfl
      rw [Sem.run_bind, hg, Result.andThen_ok, hb, run_equal_bool hu]; rfl
    · cases h
  · rename_i nl c1 l1 cs1 c2 l2 cs2
    rw [Den] at hu hv
    obtain ⟨a1, p1, rfl, -, -, h1, h2⟩ := hu
    obtain ⟨a2, p2, rfl, -, -, h3, -⟩ := hv
    obtain ⟨rfl, -, -⟩ := h3 rfl
    have e : a1.isNone = nl := by
      cases nl with
      | true => obtain ⟨rfl, -⟩ := h1 rfl; rfl
      | false => obtain ⟨b, off, rfl, -⟩ := h2 rfl; rfl
    split at h
    · rename_i e0 hu
      cases h
      refine ⟨_, ?_, Den.bool_iff.2 rfl⟩
      have hg : (eqGuard .eql t x y (.slice a1 l1 p1) (.slice none l2 p2)).run P W = .ok () W := rfl
      have hb : (binOp .eql t (.slice a1 l1 p1) (.slice none l2 p2)).run P W = ((Op.equal t (.slice a1 l1 p1) (.slice none l2 p2)).run P W).andThen fun r w => .ok (.bool r) w := by
        simp only [binOp, Sem.run_bind]; rfl
      rw [Sem.run_bind, hg, Result.andThen_ok, hb, run_equal_nil hu, e]; rfl
    · rename_i e0 hu
      cases h
      refine ⟨_, ?_, Den.bool_iff.2 rfl⟩
      have hg : (eqGuard .neq t x y (.slice a1 l1 p1) (.slice none l2 p2)).run P W = .ok () W := rfl
      have hb : (binOp .neq t (.slice a1 l1 p1) (.slice none l2 p2)).run P W = ((Op.equal t (.slice a1 l1 p1) (.slice none l2 p2)).run P W).andThen fun r w => .ok (.bool (!r)) w := by
        simp only [binOp, Sem.run_bind]; rfl
      rw [Sem.run_bind, hg, Result.andThen_ok, hb, run_equal_nil hu, e]; rfl
    · cases h
  · cases h

/-! ### One value out of others -/
def evUn (op : UnOp) (x : AV) : Option AV :=
  match op, x with
  | .not, .bool b => some (.bool (!b))
  | .neg, .int k n => some (.int k (k.wrap (0 - n)))
  | _, _ => none
/-- Shifts, and bits. -/
def evShift (op : BinOp) (x y : AV) : Option AV := match op, x, y with
  | .shl, .int k a, .int _ b => if b < 0 then none else some (.int k (k.wrap (a * 2 ^ min b.toNat k.bits)))
  | .shr, .int k a, .int _ b => if b < 0 then none else some (.int k (a.fdiv (2 ^ min b.toNat k.bits)))
  | .and, .int k a, .int k' b => if k = k' then some (.int k (k.wrap ((BitVec.ofInt k.bits a &&& BitVec.ofInt k.bits b).toNat))) else none
  | .or, .int k a, .int k' b => if k = k' then some (.int k (k.wrap ((BitVec.ofInt k.bits a ||| BitVec.ofInt k.bits b).toNat))) else none
  | _, _, _ => none
def evBin (P : Program) (op : BinOp) (t : TypeId) (x y : AV) : Option AV := match evShift op x y with
  | some z => some z
  | none => evBin0 P op t x y
theorem run_shift {op : BinOp} {t : TypeId} {x y : Operand} {a b : AV} {u v : Value} {z : AV} (hu : Den ρ W a u) (hv : Den ρ W b v) (h : evShift op a b = some z) :
    ∃ r, (do eqGuard op t x y u v; binOp op t u v : Sem Value).run P W = .ok r W ∧ Den ρ W z r := by
  unfold evShift at h
  split at h
  · split at h
    · cases h
    · rename_i hb
      cases h
      rw [Den] at hu hv
      subst hu hv
      exact ⟨_, by simp [eqGuard, binOp, Op.shift, hb], Den.int_iff.2 rfl⟩
  · split at h
    · cases h
    · rename_i hb
      cases h
      rw [Den] at hu hv
      subst hu hv
      exact ⟨_, by simp [eqGuard, binOp, Op.shift, hb], Den.int_iff.2 rfl⟩
  · split at h
    · rename_i hk
      cases h
      rw [Den] at hu hv
      subst hu hv hk
      exact ⟨_, by simp [eqGuard, binOp, Op.intBits], Den.int_iff.2 rfl⟩
    · cases h
  · split at h
    · rename_i hk
      cases h
      rw [Den] at hu hv
      subst hu hv hk
      exact ⟨_, by simp [eqGuard, binOp, Op.intBits], Den.int_iff.2 rfl⟩
    · cases h
  · cases h
theorem run_binOp {op : BinOp} {t : TypeId} {x y : Operand} {a b : AV} {u v : Value} {z : AV} (hu : Den ρ W a u) (hv : Den ρ W b v) (h : evBin P op t a b = some z) :
    ∃ r, (do eqGuard op t x y u v; binOp op t u v : Sem Value).run P W = .ok r W ∧ Den ρ W z r := by
  unfold evBin at h
  split at h
  · rename_i w hw
    cases h
    exact run_shift hu hv hw
  · exact run_binOp0 hu hv h

theorem run_unOp {op : UnOp} {x z : AV} {v : Value} (hv : Den ρ W x v) (h : evUn op x = some z) : ∃ r, (Op.unary op v).run P W = .ok r W ∧ Den ρ W z r := by
  unfold evUn at h
  split at h
  · rw [Den] at hv; subst hv; cases h; exact ⟨_, rfl, Den.bool_iff.2 rfl⟩
  · rw [Den] at hv; subst hv; cases h; exact ⟨_, rfl, Den.int_iff.2 rfl⟩
  · cases h

def evConv (P : Program) (src dst : TypeId) (x : AV) : Option AV :=
  match P.underlying src, P.underlying dst, x with
  | some _, some (.int k), .int _ n => some (.int k (k.wrap n))
  | _, _, _ => none
theorem run_convert {src dst : TypeId} {x z : AV} {v : Value} (hv : Den ρ W x v) (h : evConv P src dst x = some z) : ∃ r, (convert src dst v).run P W = .ok r W ∧ Den ρ W z r := by
  unfold evConv at h
  split at h
  · rename_i d k k' n h1 h2
    rw [Den] at hv; subst hv; cases h
    refine ⟨_, ?_, Den.int_iff.2 rfl⟩
    simp only [convert, Sem.run_bind, run_underlying h1, run_underlying h2, Result.andThen_ok]
    cases d <;> rfl
  · cases h

/-- A field's type and place. -/
def fieldO (P : Program) (t : TypeId) (f : Nat) : Option (TypeId × Nat) := match P.underlying t with
  | some (.struct fields) => (fields[f]?).map fun fl => (fl.type, fl.offset)
  | _ => none
theorem fieldO_spec {t : TypeId} {f : Nat} {ty off : Nat} (h : fieldO P t f = some (ty, off)) : ∃ fields fl, P.underlying t = some (.struct fields) ∧ fields[f]? = some fl ∧ fl.type = ty ∧ fl.offset = off := by
  unfold fieldO at h
  split at h
  · rename_i fields hu
    obtain ⟨fl, h1, h2⟩ := Option.map_eq_some_iff.1 h
    cases h2
    exact ⟨fields, fl, hu, h1, rfl, rfl⟩
  · cases h

theorem run_part {t : TypeId} {cs : Array Value} {cells : List AV} {off : Nat} {x : AV} (hs : cs.size = cells.length) (hd : DenL ρ W cells (fun i => cs[i]?)) (h : loadC P t cells off = some x) :
    ∃ v, (part t cs off).run P W = .ok v W ∧ Den ρ W x v := by
  unfold loadC at h
  split at h
  · rename_i n ha hn
    split at h
    · rename_i hle
      cases h
      refine ⟨.agg (cs.extract off (off + n)), by simp [part, run_isAgg ha, run_sizeOf hn], ?_⟩
      rw [Den]
      refine ⟨_, rfl, by simp; omega, ?_⟩
      refine DenL.of fun i y hy => ?_
      rw [List.getElem?_take] at hy
      split at hy
      · rename_i hi
        rw [List.getElem?_drop] at hy
        obtain ⟨v, hv, hd'⟩ := hd.at hy
        refine ⟨v, ?_, hd'⟩
        rw [Array.getElem?_extract, if_pos (by omega)]
        exact hv
      · cases hy
    · cases h
  · rename_i ha
    obtain ⟨v, hv, hx⟩ := hd.at h
    exact ⟨v, by simp [part, run_isAgg ha, hv], hx⟩
  · cases h

def evField (P : Program) (t : TypeId) (x : AV) (f : Nat) : Option AV :=
  match fieldO P t f, x with
  | some (ty, off), .agg cs => loadC P ty cs off
  | _, _ => none
theorem run_field {t : TypeId} {x z : AV} {f : Nat} {v : Value} (hv : Den ρ W x v) (h : evField P t x f = some z) : ∃ r, (Instr.field t v f).run P W = .ok r W ∧ Den ρ W z r := by
  unfold evField at h
  split at h
  · rename_i ty off cs hf
    obtain ⟨fields, fl, hu, hfl, rfl, rfl⟩ := fieldO_spec hf
    rw [Den] at hv
    obtain ⟨xs, rfl, h1, h2⟩ := hv
    obtain ⟨r, hr, hd⟩ := run_part (P := P) h1 h2 h
    exact ⟨r, by simp [Instr.field, run_underlying hu, hfl, asAgg, hr], hd⟩
  · cases h

def evExtract (x : AV) (i : Nat) : Option AV := match x with | .tup vs => vs[i]? | _ => none
theorem run_extract {x z : AV} {i : Nat} {v : Value} (hv : Den ρ W x v) (h : evExtract x i = some z) : ∃ r, (Instr.extract v i).run P W = .ok r W ∧ Den ρ W z r := by
  unfold evExtract at h
  split at h
  · rw [Den] at hv
    obtain ⟨xs, rfl, h1, h2⟩ := hv
    obtain ⟨r, hr, hd⟩ := h2.at h
    exact ⟨r, by simp [Instr.extract, hr], hd⟩
  · cases h

/-- Is the object there, at that turn? -/
def turnOf (H : Hp) (id : Nat) : Option Nat := match H id with | some (.cells _ ver _) => some ver | _ => none
theorem turnOf_spec (h : HD ρ W H) {id ver : Nat} (ht : turnOf H id = some ver) : ∃ b ty cs, H id = some (.cells ty ver cs) ∧ ρ.obj id = some (ver, b) := by
  unfold turnOf at ht
  split at ht
  · rename_i ty ver' cs ho
    cases ht
    obtain ⟨e, b, h1, h2, h3⟩ := h.obs id _ ho
    obtain ⟨rfl, -⟩ := h3
    exact ⟨b, ty, cs, ho, h1⟩
  · cases ht

theorem cp_of {cells : List AV} {b o off : Nat} (hb : cells ≠ [] → b < W.heap.size ∧ ρ.free b) (hd : DenL ρ W cells (fun i => W.cell? ⟨b, o + i, none⟩)) : Den ρ W (.cp cells off) (.pointer (some ⟨b, o + off, none⟩)) := by
  rw [Den]; exact ⟨b, o, rfl, hb, hd⟩
theorem rp_of (h : HD ρ W H) {id ver b off : Nat} (hb : ρ.obj id = some (ver, b)) : Den ρ W (.rp id ver off) (.pointer (some ⟨b, off, none⟩)) := by
  rw [Den]
  refine ⟨h.live _ _ _ hb, rfl, fun e b' hb' => ?_⟩
  rw [hb] at hb'; cases hb'; exact ⟨Nat.le_refl _, fun _ => rfl⟩

def evFieldAddr (P : Program) (H : Hp) (s : TypeId) (x : AV) (f : Nat) : Option AV :=
  match fieldO P s f with
  | none => none
  | some (ty, o) => match sizeT P ty with
    | none => none
    | some n => if n = 0 then none else
      match x with
      | .cp cells off => some (.cp cells (off + o))
      | .rp id ver off => if turnOf H id = some ver then some (.rp id ver (off + o)) else none
      | _ => none
theorem run_fieldAddr (hH : HD ρ W H) {s : TypeId} {x z : AV} {f : Nat} {v : Value} (hv : Den ρ W x v) (h : evFieldAddr P H s x f = some z) : ∃ r, (Instr.fieldAt s v f).run P W = .ok r W ∧ Den ρ W z r := by
  unfold evFieldAddr at h
  split at h
  · cases h
  · rename_i ty o hf
    obtain ⟨fields, fl, hu, hfl, rfl, rfl⟩ := fieldO_spec hf
    split at h
    · cases h
    · rename_i n hn
      split at h
      · cases h
      · rename_i hn0
        split at h
        · cases h
          rw [Den] at hv
          obtain ⟨b, o, rfl, hb, hd⟩ := hv
          refine ⟨_, ?_, cp_of (o := o) hb hd⟩
          simp [Instr.fieldAt, run_underlying hu, hfl, Instr.sureAddr, fieldPlace, run_sizeOf hn, hn0, add_addr, Nat.add_assoc]
        · rename_i id ver off
          split at h
          · rename_i ht
            cases h
            obtain ⟨b, ty, cs, h1, h2⟩ := turnOf_spec hH ht
            rw [Den] at hv
            have hv' := (hv.2.2 _ _ h2).2 rfl
            subst hv'
            refine ⟨_, ?_, rp_of hH h2⟩
            simp [Instr.fieldAt, run_underlying hu, hfl, Instr.sureAddr, fieldPlace, run_sizeOf hn, hn0, add_addr]
          · cases h
        · cases h
end Go.Proofs.YtaekibilldjnmaaGreat
namespace Go.Proofs.YtaekibilldjnmaaGreat
variable {P : Program} {ρ : Own} {W : World} {H : Hp}

theorem rs_at (h : HD ρ W H) {id ver sz off len : Nat} {clip : Bool} {v : Value} (hv : Den ρ W (.rs id ver sz off len clip) v) (ht : turnOf H id = some ver) :
    ∃ b cap arr ty cs, ρ.obj id = some (ver, b) ∧ H id = some (.cells ty ver cs) ∧ v = .slice (some ⟨b, off, none⟩) len cap ∧ len ≤ cap ∧ (clip = true → cap = len) ∧ W.heap[b]? = some (.cells arr ty (0, 0)) ∧ off + cap * sz ≤ arr.size ∧ cs.length ≤ arr.size ∧ DenL ρ W cs (fun i => arr[i]?) := by
  obtain ⟨b, ty, cs, h1, h2⟩ := turnOf_spec h ht
  obtain ⟨e, b', h3, -, h4⟩ := h.obs id _ h1
  rw [h2] at h3; cases h3
  obtain ⟨-, arr, h5, h6, h7⟩ := h4
  rw [Den] at hv
  obtain ⟨cap, e1, e2, e3, cs', ty', fz, e4, e5⟩ := (hv.2.2 _ _ h2).2 rfl
  rw [h5] at e4; cases e4
  exact ⟨b, cap, arr, ty, cs, h2, h1, e1, e2, e3, h5, e5, h6, h7⟩

def evIndexAddr (P : Program) (H : Hp) (t : TypeId) (x i : AV) : Option AV :=
  match i with
  | .int _ n => match P.underlying t, x with
    | some (.array len elem), .cp cells off => match sizeT P elem with
      | some s => if 0 ≤ n ∧ n < len then some (.cp cells (off + n.toNat * s)) else none
      | none => none
    | some (.array len elem), .rp id ver off => match sizeT P elem with
      | some s => if 0 ≤ n ∧ n < len ∧ turnOf H id = some ver then some (.rp id ver (off + n.toNat * s)) else none
      | none => none
    | some (.slice elem), .sl _ _ len cells => match sizeT P elem with
      | some s => if 0 ≤ n ∧ n < len then some (.cp cells (n.toNat * s)) else none
      | none => none
    | some (.slice elem), .rs id ver _ off len _ => match sizeT P elem with
      | some s => if 0 ≤ n ∧ n < len ∧ turnOf H id = some ver then some (.rp id ver (off + n.toNat * s)) else none
      | none => none
    | _, _ => none
  | _ => none

theorem run_indexAddr (hH : HD ρ W H) {t : TypeId} {x i z : AV} {v u : Value} (hv : Den ρ W x v) (hu : Den ρ W i u) (h : evIndexAddr P H t x i = some z) : ∃ r, (Instr.indexAt t v u).run P W = .ok r W ∧ Den ρ W z r := by
  unfold evIndexAddr at h
  split at h
  · rename_i k n
    rw [Den] at hu; subst hu
    split at h
    · rename_i len elem cells off hun
      split at h
      · rename_i s hs
        split at h
        · rename_i hn
          cases h
          rw [Den] at hv
          obtain ⟨b, o, rfl, hb, hd⟩ := hv
          refine ⟨_, ?_, cp_of (o := o) hb hd⟩
          simp only [Instr.indexAt, asIntOf, Sem.run_bind, Sem.run_pure, Result.andThen_ok, run_underlying hun, Instr.sureAddr]
          rw [if_pos hn]
          simp [run_sizeOf hs, add_addr, Nat.add_assoc]
        · cases h
      · cases h
    · rename_i len elem id ver off hun
      split at h
      · rename_i s hs
        split at h
        · rename_i hn
          cases h
          obtain ⟨b, ty, cs, h1, h2⟩ := turnOf_spec hH hn.2.2
          rw [Den] at hv
          have hv' := (hv.2.2 _ _ h2).2 rfl
          subst hv'
          refine ⟨_, ?_, rp_of hH h2⟩
          simp only [Instr.indexAt, asIntOf, Sem.run_bind, Sem.run_pure, Result.andThen_ok, run_underlying hun, Instr.sureAddr]
          rw [if_pos ⟨hn.1, hn.2.1⟩]
          simp [run_sizeOf hs, add_addr]
        · cases h
      · cases h
    · rename_i elem nl clip len cells hun
      split at h
      · rename_i s hs
        split at h
        · rename_i hn
          cases h
          rw [Den] at hv
          obtain ⟨a, cap, rfl, h1, h2, h3, h4⟩ := hv
          have hnl : nl = false := by
            cases nl with
            | false => rfl
            | true => obtain ⟨-, h5, -⟩ := h3 rfl; omega
          obtain ⟨b, off, rfl, hb, hd⟩ := h4 hnl
          refine ⟨_, ?_, cp_of (o := off) hb hd⟩
          simp only [Instr.indexAt, asIntOf, Sem.run_bind, Sem.run_pure, Result.andThen_ok, run_underlying hun]
          rw [if_pos hn]
          simp [run_sizeOf hs, add_addr]
        · cases h
      · cases h
    · rename_i elem id ver sz off len clip hun
      split at h
      · rename_i s hs
        split at h
        · rename_i hn
          cases h
          obtain ⟨b, cap, arr, ty, cs, k1, k2, rfl, -⟩ := rs_at hH hv hn.2.2
          refine ⟨_, ?_, rp_of hH k1⟩
          simp only [Instr.indexAt, asIntOf, Sem.run_bind, Sem.run_pure, Result.andThen_ok, run_underlying hun]
          rw [if_pos ⟨hn.1, hn.2.1⟩]
          simp [run_sizeOf hs, add_addr]
        · cases h
      · cases h
    · cases h
  · cases h

def evLoad (P : Program) (H : Hp) (t : TypeId) (x : AV) : Option AV :=
  match x with
  | .cp cells off => loadC P t cells off
  | .rp id ver off => match H id with
    | some (.cells _ ver' cs) => if ver' = ver then loadC P t cs off else none
    | _ => none
  | _ => none
theorem ob_cells (h : HD ρ W H) {id ver b : Nat} {ty : TypeId} {cs : List AV} (ho : H id = some (.cells ty ver cs)) (hb : ρ.obj id = some (ver, b)) : DenL ρ W cs (fun i => W.cell? ⟨b, 0 + i, none⟩) := by
  obtain ⟨e, b', h1, -, h2⟩ := h.obs id _ ho
  rw [hb] at h1; cases h1
  obtain ⟨-, arr, h3, h4, h5⟩ := h2
  refine h5.congr fun i _ => ?_
  simp only [World.cell?, h3, Nat.zero_add]; rfl
theorem run_load_ev (hH : HD ρ W H) {t : TypeId} {x z : AV} {v : Value} (hv : Den ρ W x v) (h : evLoad P H t x = some z) : ∃ r, (Instr.loadAt t v).run P W = .ok r W ∧ Den ρ W z r := by
  unfold evLoad at h
  split at h
  · rw [Den] at hv
    obtain ⟨b, o, rfl, hb, hd⟩ := hv
    obtain ⟨r, hr, hx⟩ := run_loadVar (P := P) hd h
    exact ⟨r, by simp [Instr.loadAt, Instr.sureAddr, hr], hx⟩
  · rename_i id ver off
    split at h
    · rename_i ty ver' cs ho
      split at h
      · rename_i e
        subst e
        obtain ⟨b, ty', cs', h1, h2⟩ := turnOf_spec hH (id := id) (ver := ver') (by simp [turnOf, ho])
        rw [Den] at hv
        have hv' := (hv.2.2 _ _ h2).2 rfl
        subst hv'
        obtain ⟨r, hr, hx⟩ := run_loadVar (P := P) (ob_cells hH ho h2) h
        exact ⟨r, by simp only [Nat.zero_add] at hr; simp [Instr.loadAt, Instr.sureAddr, hr], hx⟩
      · cases h
    · cases h
  · cases h

/-- A slice expression's bounds. -/
def bnd : Option AV → Option (Option Nat)
  | none => some none
  | some (.int _ n) => if 0 ≤ n then some (some n.toNat) else none
  | _ => none
def evSlice (P : Program) (H : Hp) (t : TypeId) (x : AV) (lo hi mx : Option AV) : Option AV :=
  match P.underlying t, bnd lo, bnd hi, bnd mx with
  | some (.slice elem), some lo, some hi, some mx => match sizeT P elem with
    | none => none
    | some s => match x with
      | .sl nl clip len cells => match mx, hi with
        | none, _ =>
          if lo.getD 0 ≤ hi.getD len ∧ hi.getD len ≤ len then some (.sl nl (clip && decide (hi.getD len = len)) (hi.getD len - lo.getD 0) ((cells.drop (lo.getD 0 * s)).take ((hi.getD len - lo.getD 0) * s))) else none
        | some m, some h =>
          if lo.getD 0 ≤ h ∧ h ≤ m ∧ m ≤ len then some (.sl nl (decide (m = h)) (h - lo.getD 0) ((cells.drop (lo.getD 0 * s)).take ((h - lo.getD 0) * s))) else none
        | some _, none => none
      | .rs id ver sz off len clip => match mx with
        | none =>
          if lo.getD 0 = 0 ∧ hi.getD len ≤ len ∧ turnOf H id = some ver then some (.rs id ver sz off (hi.getD len) (clip && decide (hi.getD len = len))) else none
        | some m => match hi with
          | some h => if lo.getD 0 = 0 ∧ h ≤ m ∧ m ≤ len ∧ turnOf H id = some ver then some (.rs id ver sz off h (decide (m = h))) else none
          | none => none
      | _ => none
  | _, _, _, _ => none

theorem bnd_spec {σ : Operand → Value} {y : Option Operand} {ev : Operand → Option AV} {z : Option AV} {n : Option Nat} (hz : y.bind ev = z) (hy : z = none → y = none) (hd : ∀ o, y = some o → ∀ x, ev o = some x → Den ρ W x (σ o)) (h : bnd z = some n) :
    (n = none ∧ y.map σ = none) ∨ ∃ k m, n = some m ∧ y.map σ = some (.int k (m : Int)) := by
  cases y with
  | none => simp at hz; subst hz; simp only [bnd, Option.some.injEq] at h; exact .inl ⟨h.symm, rfl⟩
  | some o =>
    simp only [Option.bind_some] at hz
    cases z with
    | none => cases hy rfl
    | some x =>
      have hx := hd o rfl x hz
      unfold bnd at h
      split at h
      · rename_i e; cases e
      · rename_i k q e
        cases e
        split at h
        · rename_i h0
          cases h
          rw [Den] at hx
          exact .inr ⟨k, q.toNat, rfl, by simp [hx]; omega⟩
        · cases h
      · cases h

theorem run_sliceBound {k : IntKind} {m c : Nat} {code : BoundsCode} (h : m ≤ c) : (Instr.sliceBound (.int k (m : Int)) c code).run P W = .ok m W := by
  simp [Instr.sliceBound, asIntOf, h]

theorem run_bounds {lo hi mx : Option Value} {l h m : Option Nat} {len cap : Nat} (hl : (l = none ∧ lo = none) ∨ ∃ k m, l = some m ∧ lo = some (.int k (m : Int)))
    (hh : (h = none ∧ hi = none) ∨ ∃ k m, h = some m ∧ hi = some (.int k (m : Int))) (hm : (m = none ∧ mx = none) ∨ ∃ k q, m = some q ∧ mx = some (.int k (q : Int)))
    (h1 : l.getD 0 ≤ h.getD len) (h2 : h.getD len ≤ m.getD cap) (h3 : m.getD cap ≤ cap) (h4 : m ≠ none → h ≠ none) :
    (Instr.sliceBounds true len cap lo hi mx).run P W = .ok (l.getD 0, h.getD len, m.getD cap) W := by
  rcases hm with ⟨rfl, rfl⟩ | ⟨km, mm, rfl, rfl⟩ <;> rcases hh with ⟨rfl, rfl⟩ | ⟨kh, hh, rfl, rfl⟩ <;> rcases hl with ⟨rfl, rfl⟩ | ⟨kl, ll, rfl, rfl⟩ <;>
    first
    | (exfalso; revert h4; simp; done)
    | (simp only [Option.getD_some, Option.getD_none] at h1 h2 h3
       simp only [Instr.sliceBounds, Sem.run_bind, Sem.run_pure, Result.andThen_ok, run_sliceBound h1, run_sliceBound h2, run_sliceBound h3, Option.getD_some, Option.getD_none, if_true, Option.isSome_none, Option.isSome_some, Bool.false_eq_true, if_false])

theorem run_sliceAt {t elem : TypeId} {a : Option Addr} {len cap s : Nat} {lo hi mx : Option Value} {l h m : Nat} (hu : P.underlying t = some (.slice elem)) (hs : sizeT P elem = some s)
    (hb : (Instr.sliceBounds true len cap lo hi mx).run P W = .ok (l, h, m) W) : (Instr.sliceAt t (.slice a len cap) lo hi mx).run P W = .ok (.slice (if m = l then a else a.map (·.add (l * s))) (h - l) (m - l)) W := by
  simp only [Instr.sliceAt, Sem.run_bind, run_underlying hu, Result.andThen_ok, Instr.slice, hb, run_sizeOf hs]
  rfl

theorem run_slice_ev (hH : HD ρ W H) {ev : Operand → Option AV} {σ : Operand → Value} {t : TypeId} {x z : AV} {v : Value} {lo hi mx : Option Operand} (hv : Den ρ W x v)
    (hl : ∀ o, lo = some o → ∀ x, ev o = some x → Den ρ W x (σ o)) (hh : ∀ o, hi = some o → ∀ x, ev o = some x → Den ρ W x (σ o)) (hm : ∀ o, mx = some o → ∀ x, ev o = some x → Den ρ W x (σ o))
    (el : lo.bind ev = none → lo = none) (eh : hi.bind ev = none → hi = none) (em : mx.bind ev = none → mx = none)
    (h : evSlice P H t x (lo.bind ev) (hi.bind ev) (mx.bind ev) = some z) : ∃ r, (Instr.sliceAt t v (lo.map σ) (hi.map σ) (mx.map σ)).run P W = .ok r W ∧ Den ρ W z r := by
  unfold evSlice at h
  split at h
  · rename_i elem l h' m hu h1 h2 h3
    have b1 := bnd_spec (ρ := ρ) (W := W) rfl el hl h1
    have b2 := bnd_spec (ρ := ρ) (W := W) rfl eh hh h2
    have b3 := bnd_spec (ρ := ρ) (W := W) rfl em hm h3
    split at h
    · cases h
    · rename_i s hs
      split at h
      · rename_i nl clip len cells
        rw [Den] at hv
        obtain ⟨a, cap, rfl, k1, k2, k3, k4⟩ := hv
        have sub : ∀ (L Hh M : Nat) (c : Bool), L ≤ Hh → Hh ≤ len → Hh ≤ M → M ≤ cap → (c = true → M = Hh) →
            Den ρ W (.sl nl c (Hh - L) ((cells.drop (L * s)).take ((Hh - L) * s))) (.slice (if M = L then a else a.map (·.add (L * s))) (Hh - L) (M - L)) := by
          intro L Hh M c q1 q2 q3 q4 q5
          rw [Den]
          refine ⟨_, _, rfl, by omega, fun hc => by rw [q5 hc], fun hn => ?_, fun hn => ?_⟩
          · obtain ⟨rfl, rfl, rfl⟩ := k3 hn
            exact ⟨by simp, by omega, by simp⟩
          · obtain ⟨b, off, rfl, e1, e2⟩ := k4 hn
            by_cases hML : M = L
            · rw [if_pos hML]
              have : Hh - L = 0 := by omega
              refine ⟨b, off, rfl, fun hc => ?_, ?_⟩
              · rw [this] at hc; simp at hc
              · rw [this]; simp only [Nat.zero_mul, List.take_zero]; rw [DenL]; trivial
            · rw [if_neg hML]
              refine ⟨b, off + L * s, by simp [add_addr], fun hc => e1 (fun hce => hc (by rw [hce]; simp)), ?_⟩
              exact (e2.drop (k := L * s)).take.congr fun i _ => by simp only [Nat.add_assoc]
        split at h
        · split at h
          · rename_i hle
            cases h
            obtain ⟨-, e3⟩ | ⟨_, _, e3, -⟩ := b3
            · have hb := run_bounds (P := P) (W := W) (len := len) (cap := cap) b1 b2 (.inl ⟨rfl, e3⟩) hle.1 (Nat.le_trans hle.2 k1) (Nat.le_refl _) (fun h => absurd rfl h)
              refine ⟨_, run_sliceAt hu hs hb, sub _ _ _ _ hle.1 hle.2 (Nat.le_trans hle.2 k1) (Nat.le_refl _) (fun hc => ?_)⟩
              simp only [Bool.and_eq_true, decide_eq_true_eq] at hc
              simp only [Option.getD_none]
              rw [k2 hc.1, hc.2]
            · cases e3
          · cases h
        · rename_i mm hhv
          split at h
          · rename_i hle
            cases h
            have hb := run_bounds (P := P) (W := W) (len := len) (cap := cap) b1 b2 b3 hle.1 hle.2.1 (by simp only [Option.getD_some]; omega) (fun _ => by simp)
            refine ⟨_, run_sliceAt hu hs hb, sub _ _ _ _ hle.1 (by omega) hle.2.1 (by simp only [Option.getD_some]; omega) (fun hc => ?_)⟩
            simp only [decide_eq_true_eq] at hc
            exact hc
          · cases h
        · cases h
      · rename_i id ver sz off len clip
        have sub : ∀ (Hh M b cap : Nat) (c : Bool) (arr : Array Value) (ty : TypeId), ρ.obj id = some (ver, b) → W.heap[b]? = some (.cells arr ty (0, 0)) → off + cap * sz ≤ arr.size → Hh ≤ M → M ≤ cap → (c = true → M = Hh) →
            Den ρ W (.rs id ver sz off Hh c) (.slice (some ⟨b, off, none⟩) Hh M) := by
          intro Hh M b cap c arr ty q0 q1 q2 q3 q4 q5
          rw [Den]
          refine ⟨hH.live _ _ _ q0, rfl, fun e b' hb => ?_⟩
          rw [q0] at hb; cases hb
          refine ⟨Nat.le_refl _, fun _ => ⟨M, rfl, q3, fun hc => q5 hc, arr, ty, (0, 0), q1, ?_⟩⟩
          have := Nat.mul_le_mul_right sz q4
          omega
        split at h
        · split at h
          · rename_i hle
            cases h
            obtain ⟨b, cap, arr, ty, cs, g1, g2, rfl, g3, g4, g5, g6, -⟩ := rs_at hH hv hle.2.2
            obtain ⟨-, e3⟩ | ⟨_, _, e3, -⟩ := b3
            · have hb := run_bounds (P := P) (W := W) (len := len) (cap := cap) b1 b2 (.inl ⟨rfl, e3⟩) (by omega) (Nat.le_trans hle.2.1 g3) (Nat.le_refl _) (fun h => absurd rfl h)
              refine ⟨_, run_sliceAt hu hs hb, ?_⟩
              rw [hle.1]
              simp only [Nat.zero_mul, Nat.sub_zero, Option.map_some, add_addr, Nat.add_zero, Option.getD_none, ite_self]
              refine sub _ _ b cap _ arr ty g1 g5 g6 (Nat.le_trans hle.2.1 g3) (Nat.le_refl _) (fun hc => ?_)
              simp only [Bool.and_eq_true, decide_eq_true_eq] at hc
              rw [g4 hc.1, hc.2]
            · cases e3
          · cases h
        · split at h
          · rename_i mm hhv
            split at h
            · rename_i hle
              cases h
              obtain ⟨b, cap, arr, ty, cs, g1, g2, rfl, g3, g4, g5, g6, -⟩ := rs_at hH hv hle.2.2.2
              have hb := run_bounds (P := P) (W := W) (len := len) (cap := cap) b1 b2 b3 (by simp only [Option.getD_some]; omega) hle.2.1 (by simp only [Option.getD_some]; omega) (fun _ => by simp)
              refine ⟨_, run_sliceAt hu hs hb, ?_⟩
              rw [hle.1]
              simp only [Nat.zero_mul, Nat.sub_zero, Option.map_some, add_addr, Nat.add_zero, Option.getD_some, ite_self]
              refine sub _ _ b cap _ arr ty g1 g5 g6 hle.2.1 (by omega) (fun hc => ?_)
              simpa using hc
            · cases h
          · cases h
      · cases h
  · cases h

/-! ### An array out of a slice; lengths -/
def evArr (P : Program) (t : TypeId) (x : AV) : Option AV :=
  match P.underlying t, x with
  | some (.array n _), .sl _ _ len cells => if 0 < n ∧ n ≤ len then some (.cp cells 0) else none
  | _, _ => none
theorem run_arr {t : TypeId} {x z : AV} {v : Value} (hv : Den ρ W x v) (h : evArr P t x = some z) : ∃ r, (Instr.arrayAt t v).run P W = .ok r W ∧ Den ρ W z r := by
  unfold evArr at h
  split at h
  · rename_i n elem nl clip len cells hu
    split at h
    · rename_i hn
      cases h
      rw [Den] at hv
      obtain ⟨a, cap, rfl, h1, h2, h3, h4⟩ := hv
      have hnl : nl = false := by
        cases nl with
        | false => rfl
        | true => obtain ⟨-, h5, -⟩ := h3 rfl; omega
      obtain ⟨b, off, rfl, hb, hd⟩ := h4 hnl
      refine ⟨_, ?_, cp_of (o := off) (off := 0) hb hd⟩
      simp [Instr.arrayAt, run_underlying hu, show ¬ len < n by omega]
    · cases h
  · cases h

def evLen (P : Program) (H : Hp) (t : TypeId) (x : AV) : Option AV :=
  match P.underlying t, x with
  | some (.slice _), .sl _ _ len _ => some (.int .i64 len)
  | some (.slice _), .em => some (.int .i64 0)
  | some (.slice _), .rs id ver _ _ len _ => if turnOf H id = some ver then some (.int .i64 len) else none
  | some .string, .str s => some (.int .i64 s.size)
  | some (.array n _), _ => some (.int .i64 n)
  | some (.map _ _), .nilm => some (.int .i64 0)
  | some (.map _ _), .fm ks _ => some (.int .i64 ks.length)
  | some (.map _ _), .mp id => match H id with
    | some (.map ks _) => some (.int .i64 ks.length)
    | _ => none
  | _, _ => none
theorem mp_at (h : HD ρ W H) {id : Nat} {v : Value} {ks vs : List AV} (hv : Den ρ W (.mp id) v) (ho : H id = some (.map ks vs)) :
    ∃ b es clock, ρ.obj id = some (0, b) ∧ v = .map (some b) ∧ W.heap[b]? = some (.map es clock) ∧ es.size = ks.length ∧ es.size = vs.length ∧ DenL ρ W ks (fun i => (es[i]?).map (·.key)) ∧ DenL ρ W vs (fun i => (es[i]?).map (·.val)) := by
  obtain ⟨e, b, h1, -, h2⟩ := h.obs id _ ho
  obtain ⟨rfl, es, clock, h3, h4, h5, h6, h7⟩ := h2
  rw [Den] at hv
  exact ⟨b, es, clock, h1, hv.2.2 _ h1, h3, h4, h5, h6, h7⟩
theorem run_len (hH : HD ρ W H) {t ty : TypeId} {x z : AV} {v : Value} (hv : Den ρ W x v) (h : evLen P H t x = some z) : ∃ r, (Builtin.len_ #[t] ty #[v]).run P W = .ok r W ∧ Den ρ W z r := by
  unfold evLen at h
  split at h
  · rename_i e nl c len cells hu
    cases h
    rw [Den] at hv
    obtain ⟨a, cap, rfl, -⟩ := hv
    exact ⟨_, by simp [Builtin.len_, run_underlying hu, goInt], Den.int_iff.2 rfl⟩
  · rename_i e hu
    cases h
    rw [Den] at hv
    obtain ⟨a, cap, rfl⟩ := hv
    exact ⟨_, by simp [Builtin.len_, run_underlying hu, goInt], Den.int_iff.2 rfl⟩
  · rename_i e id ver sz off len clip hu
    split at h
    · rename_i ht
      cases h
      obtain ⟨b, cap, arr, ty, cs, -, -, rfl, -⟩ := rs_at hH hv ht
      exact ⟨_, by simp [Builtin.len_, run_underlying hu, goInt], Den.int_iff.2 rfl⟩
    · cases h
  · rename_i s hu
    cases h
    rw [Den] at hv; subst hv
    exact ⟨_, by simp [Builtin.len_, run_underlying hu, goInt], Den.int_iff.2 rfl⟩
  · rename_i n e hu
    cases h
    exact ⟨_, by simp [Builtin.len_, run_underlying hu, goInt], Den.int_iff.2 rfl⟩
  · rename_i k e hu
    cases h
    rw [Den] at hv; subst hv
    exact ⟨_, by simp [Builtin.len_, run_underlying hu, goInt], Den.int_iff.2 rfl⟩
  · rename_i k e ks vs hu
    cases h
    rw [Den] at hv
    obtain ⟨r, es, cl, rfl, -, -, h3, h4, -⟩ := hv
    exact ⟨_, by simp [Builtin.len_, run_underlying hu, goInt, getObj, Sem.run, h3, h4], Den.int_iff.2 rfl⟩
  · rename_i k e id hu
    split at h
    · rename_i ks vs ho
      cases h
      obtain ⟨b, es, cl, -, rfl, h3, h4, -⟩ := mp_at hH hv ho
      exact ⟨_, by simp [Builtin.len_, run_underlying hu, goInt, getObj, Sem.run, h3, h4], Den.int_iff.2 rfl⟩
    · cases h
  · cases h

def evMaxF (mx : Bool) : AV → List AV → Option AV
  | .int k a, [] => some (.int k a)
  | .int k a, .int _ b :: rest => evMaxF mx (.int k (if mx then (if b > a then b else a) else (if b < a then b else a))) rest
  | _, _ => none
theorem run_maxF : ∀ (xs : List AV) (vs : List Value) (x : AV) (v : Value) (z : AV), xs.length = vs.length → Den ρ W x v → DenL ρ W xs (fun i => vs[i]?) → evMaxF true x xs = some z →
    ∃ r, (vs.foldlM Builtin.max2 v : Sem Value).run P W = .ok r W ∧ Den ρ W z r
  | [], vs, x, v, z, hl, hx, _, h => by
    cases vs with
    | cons _ _ => simp at hl
    | nil =>
      unfold evMaxF at h
      split at h
      · cases h; exact ⟨v, rfl, hx⟩
      · rename_i e; cases e
      · cases h
  | y :: xs, vs, x, v, z, hl, hx, hd, h => by
    cases vs with
    | nil => simp at hl
    | cons u us =>
      rw [DenL] at hd
      obtain ⟨⟨u', hu, hy⟩, ht⟩ := hd
      simp only [List.getElem?_cons_zero, Option.some.injEq] at hu
      subst hu
      unfold evMaxF at h
      split at h
      · rename_i e; cases e
      · rename_i k a k' b rest e
        cases e
        rw [Den] at hx hy
        subst hx hy
        obtain ⟨r, hr, hz⟩ := run_maxF xs us _ (.int k (if b > a then b else a)) z (by simpa using hl) (by rw [Den]; simp) ht h
        refine ⟨r, ?_, hz⟩
        simp only [List.foldlM_cons, Builtin.max2, Sem.run_bind, Sem.run_pure, Result.andThen_ok]
        exact hr
      · cases h
theorem run_minF : ∀ (xs : List AV) (vs : List Value) (x : AV) (v : Value) (z : AV), xs.length = vs.length → Den ρ W x v → DenL ρ W xs (fun i => vs[i]?) → evMaxF false x xs = some z →
    ∃ r, (vs.foldlM Builtin.min2 v : Sem Value).run P W = .ok r W ∧ Den ρ W z r
  | [], vs, x, v, z, hl, hx, _, h => by
    cases vs with
    | cons _ _ => simp at hl
    | nil =>
      unfold evMaxF at h
      split at h
      · cases h; exact ⟨v, rfl, hx⟩
      · rename_i e; cases e
      · cases h
  | y :: xs, vs, x, v, z, hl, hx, hd, h => by
    cases vs with
    | nil => simp at hl
    | cons u us =>
      rw [DenL] at hd
      obtain ⟨⟨u', hu, hy⟩, ht⟩ := hd
      simp only [List.getElem?_cons_zero, Option.some.injEq] at hu
      subst hu
      unfold evMaxF at h
      split at h
      · rename_i e; cases e
      · rename_i k a k' b rest e
        cases e
        rw [Den] at hx hy
        subst hx hy
        obtain ⟨r, hr, hz⟩ := run_minF xs us _ (.int k (if b < a then b else a)) z (by simpa using hl) (by rw [Den]; simp) ht h
        refine ⟨r, ?_, hz⟩
        simp only [List.foldlM_cons, Builtin.min2, Sem.run_bind, Sem.run_pure, Result.andThen_ok]
        exact hr
      · cases h
end Go.Proofs.YtaekibilldjnmaaGreat
