/- Loops over a function that yields: what such a function promises, and what a loop over it comes to. Rounds from the last one on. -/
import Derived.Test.YtpkadofgmhninaaEaten
namespace Go.Proofs.Ytpkadofgmhninaa
open Go.RowKit

/-- B is A with more blocks; of A no cell has turned, nor anything ahead of block n. -/
structure Quiet (n : Nat) (A B : World) : Prop where
  os : B.os = A.os
  tape : B.tape = A.tape
  output : B.output = A.output
  size : A.heap.size ≤ B.heap.size
  same : ∀ k o, A.heap[k]? = some o → (k < n ∨ o.isCells = true) → B.heap[k]? = some o

theorem Quiet.refl (n : Nat) (A : World) : Quiet n A A := ⟨rfl, rfl, rfl, Nat.le_refl _, fun _ _ h _ => h⟩
theorem Quiet.trans {n : Nat} {A B C : World} (h : Quiet n A B) (k : Quiet n B C) : Quiet n A C :=
  ⟨k.os.trans h.os, k.tape.trans h.tape, k.output.trans h.output, Nat.le_trans h.size k.size, fun i o hi ho => k.same i o (h.same i o hi ho) ho⟩
theorem Quiet.mono {n m : Nat} {A B : World} (h : Quiet n A B) (hm : m ≤ n) : Quiet m A B :=
  ⟨h.os, h.tape, h.output, h.size, fun k o hk ho => h.same k o hk (ho.imp (fun h => Nat.lt_of_lt_of_le h hm) id)⟩
theorem Bel.quiet {A B : World} (h : Bel A B) (n : Nat) : Quiet n A B :=
  ⟨h.os, h.tape, h.output, h.size, fun k _ hk _ => (h.block k (Array.getElem?_eq_some_iff.1 hk).1).trans hk⟩
theorem Quiet.putObj {n l : Nat} {A : World} {o : Obj} (o' : Obj) (hl : A.heap[l]? = some o) (ho : o.isCells = false) (hn : n ≤ l) : Quiet n A (A.putObj l o') :=
  ⟨rfl, rfl, rfl, by simp, fun k p hk hp => by
    by_cases e : k = l
    · subst e
      rw [hl] at hk; cases hk
      rcases hp with hp | hp
      · omega
      · rw [ho] at hp; cases hp
    · exact (World.putObj_heap_other e).trans hk⟩
theorem Quiet.cell {n : Nat} {A B : World} (h : Quiet n A B) {p : Addr} {v : Value} (hc : A.cell? p = some v) : B.cell? p = some v := by
  obtain ⟨o, ho, hcs⟩ := cells_of_cell hc
  have := h.same _ _ ho (.inr hcs)
  exact (World.cell?_of_block (w := A) (this.trans ho.symm)).trans hc
theorem Quiet.boxed {n : Nat} {A B : World} (h : Quiet n A B) {k : Nat} {t : TypeId} {v : Value} (hb : Boxed A k t v) : Boxed B k t v := h.same _ _ hb (.inr rfl)
theorem Quiet.ints {n : Nat} {A B : World} (h : Quiet n A B) {v : Value} {xs : List Int} (hx : Ints A v xs) : Ints B v xs := by
  obtain ⟨a, c, e, h1, h2, hz, h3⟩ := hx
  refine ⟨a, c, e, h1, h2, hz, fun i hi => ?_⟩
  obtain ⟨b, off, e', h'⟩ := h3 i hi
  exact ⟨b, off, e', h.cell h'⟩
theorem Quiet.rnds {n : Nat} {A B : World} (h : Quiet n A B) {v : Value} {p : Rounds} (hx : Rnds A v p) : Rnds B v p := by
  obtain ⟨a, c, e, h1, h2, hz, h3⟩ := hx
  refine ⟨a, c, e, h1, h2, hz, fun i hi => ?_⟩
  obtain ⟨b, off, rv, e', k0, k1⟩ := h3 i hi
  exact ⟨b, off, rv, e', h.cell k0, Quiet.ints h k1⟩
theorem Quiet.paints {n : Nat} {A B : World} (h : Quiet n A B) {v : Value} {ps : List Paint} (hx : Paints A v ps) : Paints B v ps := by
  obtain ⟨a, c, e, h1, h2, hz, h3⟩ := hx
  refine ⟨a, c, e, h1, h2, hz, fun i hi => ?_⟩
  obtain ⟨b, off, e', k0, k1, k2, k3, k4, k5⟩ := h3 i hi
  exact ⟨b, off, e', h.cell k0, h.cell k1, h.cell k2, h.cell k3, h.cell k4, h.cell k5⟩
theorem Quiet.pairs {n : Nat} {A B : World} (h : Quiet n A B) {v : Value} {es : List (Nat × Nat)} (hx : Pairs A v es) : Pairs B v es := by
  obtain ⟨a, c, e, h1, h2, hz, h3⟩ := hx
  refine ⟨a, c, e, h1, h2, hz, fun i hi => ?_⟩
  obtain ⟨b, off, e', k0, k1⟩ := h3 i hi
  exact ⟨b, off, e', h.cell k0, h.cell k1⟩
theorem Quiet.fd {n : Nat} {A B : World} (h : Quiet n A B) {pv ev rv : Value} {s : CSet} {p : Rounds} (hx : Fd A pv ev rv s p) : Fd B pv ev rv s p :=
  ⟨h.paints hx.paints, h.pairs hx.pairs, h.rnds hx.rounds⟩
/-- What lay in w lies on. -/
theorem Quiet.below {n : Nat} {w A B : World} (h : Bel w A) (k : Quiet n A B) (hn : w.heap.size ≤ n) : Bel w B :=
  ⟨k.os.trans h.os, k.tape.trans h.tape, k.output.trans h.output, Nat.le_trans h.size k.size, fun i hi => by
    have h1 := h.block i hi
    have h2 : ∃ o, w.heap[i]? = some o := ⟨_, Array.getElem?_eq_getElem hi⟩
    obtain ⟨o, ho⟩ := h2
    rw [ho] at h1 ⊢
    exact k.same i o h1 (.inl (by omega))⟩
theorem KeepFrom.mono {n m : Nat} {A B : World} (h : KeepFrom n A B) (hm : n ≤ m) : KeepFrom m A B := ⟨h.1, fun k hk hl => h.2 k (by omega) hl⟩
theorem KeepFrom.putObj {n l : Nat} (A : World) (o : Obj) (h : l < n) : KeepFrom n A (A.putObj l o) := ⟨by simp, fun _ hk _ => World.putObj_heap_other (by omega)⟩

/-- WHAT A FUNCTION THAT YIELDS PROMISES: it yields xs, one after another, where its data are as D says; what it is handed by a round it may not mind but D and what was laid since. -/
def SeqQ {α : Type} (g : FuncId) (fs lb : Array Value) (E : World → Array Value → α → Prop) (xs : List α) (D : World → Prop) : Prop :=
  ∀ (l : Nat) (J Jx : List α → World → Prop) (W : World), D W →
    (∀ pre A B, J pre A → Quiet W.heap.size A B → J pre B) → (∀ pre A B, Jx pre A → Quiet W.heap.size A B → Jx pre B) →
    (∀ pre x vs W1, J pre W1 → D W1 → pre ++ [x] <+: xs → E W1 vs x → YieldAt Fence.wide 0 Try.prog l vs W1 fun e W' =>
      D W' ∧ KeepFrom W.heap.size W1 W' ∧ ((e = .returned (.bool true) ∧ J (pre ++ [x]) W') ∨ (e = .returned (.bool false) ∧ Jx (pre ++ [x]) W'))) →
    J [] W →
    Calls Try.prog g (fs ++ #[.func (.yield l) #[] #[]] ++ lb) W fun e W' => (∃ v, e = .returned v) ∧ D W' ∧ (J xs W' ∨ ∃ pre, pre <+: xs ∧ Jx pre W')

/-- How a round may be left. -/
def rpost {α : Type} (n : Nat) (D : World → Prop) (I : List α → World → Prop) (Ix : Code → List α → World → Prop) (xs : List α) (W : World) : Exit → Act → World → Prop
  | .normal, _, W' => D W' ∧ KeepFrom n W W' ∧ I xs W'
  | .ret, _, W' => D W' ∧ KeepFrom n W W' ∧ Ix .ret xs W'
  | .exit id, _, W' => D W' ∧ KeepFrom n W W' ∧ Ix (.exit id) xs W'
  | .goto t, _, W' => D W' ∧ KeepFrom n W W' ∧ Ix (.goto t) xs W'
  | .panic _, _, _ => False
  | .outgrown, _, _ => False

theorem wide_leads {n : Nat} : (Fence.wide.depth.isSome = true → 1 ≤ n) := fun h => by cases h

/-- One round, out of its code. -/
theorem round_of {α : Type} {ps : Array Tmp} {assign body : Code} {D : World → Prop} {I : List α → World → Prop} {Ix : Code → List α → World → Prop} {l n N : Nat} (fn : FuncId) (rec : LoopState → Option Code → Loop)
    (hrec : ∀ st pe, (rec st pe).state = st ∧ (rec st pe).pending = pe ∧ (rec st pe).params = ps ∧ (rec st pe).assign = assign ∧ (rec st pe).body = body ∧ (rec st pe).fn = fn ∧ ∀ st' pe', { rec st pe with state := st', pending := pe' } = rec st' pe')
    (tmps : Array Value) (ht : ∀ st pe, (rec st pe).tmps = tmps) (hnl : n ≤ l) (hlN : l < N)
    (hDq : ∀ A B, D A → Quiet n A B → D B) (hI : ∀ pre A B, I pre A → Quiet n A B → I pre B) (hIx : ∀ c pre A B, Ix c pre A → Quiet n A B → Ix c pre B)
    (pre : List α) (x : α) (vs : Array Value) (W : World) (hl : W.heap[l]? = some (.loop (rec .ready none))) (hvs : vs.size = ps.size)
    (hr : assign.wpIn (Fence.wide.inRound l) 0 Try.prog (Exit.then (fun a1 W1 => Bel W W1 ∧ ∀ W2, Quiet n W1 W2 → W2.heap.size = W1.heap.size → (∃ r, W2.heap[l]? = some (.loop r)) →
      body.wpIn (Fence.wide.inRound l) 0 Try.prog (rpost n D I Ix (pre ++ [x]) W2) a1 W2) (fun _ _ _ => False)) { tmps := (ps.zip vs).foldl (fun t (p, v) => t.setIfInBounds p v) tmps, defers := [] } W) :
    YieldAt Fence.wide 0 Try.prog l vs W fun e W' => D W' ∧ KeepFrom N W W' ∧ ((e = .returned (.bool true) ∧ I (pre ++ [x]) W' ∧ W'.heap[l]? = some (.loop (rec .ready none))) ∨ (e = .returned (.bool false) ∧ ∃ c, Ix c (pre ++ [x]) W' ∧ W'.heap[l]? = some (.loop (rec .done (some c))))) := by
  have hy := run_yield (P := Try.prog) (args := vs) hl (by rw [(hrec _ _).2.2.1]; exact hvs)
  rw [(hrec _ _).2.2.1, (hrec _ _).2.2.2.1, (hrec _ _).2.2.2.2.1, (hrec _ _).2.2.2.2.2.1, ht] at hy
  refine ⟨fn, _, assign, body, hy, roundIn_of_wpIn trivial (wpIn_mono hr ?_)⟩
  rintro e a1 W1 h1
  cases e with
  | normal =>
    obtain ⟨hb1, h2⟩ := h1
    have hl1 : W1.heap[l]? = some (.loop (rec .ready none)) := (hb1.block l (Array.getElem?_eq_some_iff.1 hl).1).trans hl
    have hlt1 : l < W1.heap.size := (Array.getElem?_eq_some_iff.1 hl1).1
    have hbr := run_beginRound (P := Try.prog) hl1 (hrec _ _).1
    have e1 : ({ rec .ready none with state := .busy } : Loop) = rec .busy none := by
      have := (hrec .ready none).2.2.2.2.2.2 .busy none
      rw [← this]
      have hp := (hrec .ready none).2.1
      cases hh : rec .ready none
      rw [hh] at hp
      simp at hp
      simp [hp]
    rw [e1] at hbr
    refine ⟨_, hbr, ?_⟩
    have hq2 : Quiet n W1 (W1.putObj l (.loop (rec .busy none))) := Quiet.putObj _ hl1 rfl hnl
    have hl2 : (W1.putObj l (.loop (rec .busy none))).heap[l]? = some (.loop (rec .busy none)) := World.putObj_heap_same hlt1
    have hkN : KeepFrom N W (W1.putObj l (.loop (rec .busy none))) := (hb1.keep N).trans (KeepFrom.putObj _ _ hlN)
    refine wpIn_mono (h2 _ hq2 (by simp) ⟨_, hl2⟩) ?_
    have fin : ∀ (jump : Option Code) (W3 : World), KeepFrom n (W1.putObj l (.loop (rec .busy none))) W3 →
        (Instr.endRound l jump).run Try.prog W3 = .ok (.bool jump.isNone) (W3.putObj l (.loop (rec (if jump.isNone then .ready else .done) jump))) ∧
        Quiet n W3 (W3.putObj l (.loop (rec (if jump.isNone then .ready else .done) jump))) ∧
        (W3.putObj l (.loop (rec (if jump.isNone then .ready else .done) jump))).heap[l]? = some (.loop (rec (if jump.isNone then .ready else .done) jump)) ∧
        KeepFrom N W (W3.putObj l (.loop (rec (if jump.isNone then .ready else .done) jump))) := fun jump W3 hk3 => by
      have hl3 : W3.heap[l]? = some (.loop (rec .busy none)) := (hk3.2 l hnl (by simpa using hlt1)).trans hl2
      have he := run_endRound (P := Try.prog) jump hl3
      rw [(hrec .busy none).2.2.2.2.2.2] at he
      exact ⟨he, Quiet.putObj _ hl3 rfl hnl, World.putObj_heap_same (Array.getElem?_eq_some_iff.1 hl3).1, (hkN.trans (hk3.mono (by omega))).trans (KeepFrom.putObj _ _ hlN)⟩
    rintro e a3 W3 hp
    cases e with
    | normal =>
      obtain ⟨hd3, hk3, hi3⟩ := hp
      obtain ⟨he, hq, hl4, hkk⟩ := fin none W3 hk3
      exact ⟨_, _, he, hDq _ _ hd3 hq, hkk, .inl ⟨rfl, hI _ _ _ hi3 hq, hl4⟩⟩
    | ret =>
      obtain ⟨hd3, hk3, hi3⟩ := hp
      obtain ⟨he, hq, hl4, hkk⟩ := fin (some .ret) W3 hk3
      exact ⟨_, _, he, hDq _ _ hd3 hq, hkk, .inr ⟨rfl, .ret, hIx _ _ _ _ hi3 hq, hl4⟩⟩
    | exit id =>
      obtain ⟨hd3, hk3, hi3⟩ := hp
      obtain ⟨he, hq, hl4, hkk⟩ := fin (some (.exit id)) W3 hk3
      exact ⟨_, _, he, hDq _ _ hd3 hq, hkk, .inr ⟨rfl, .exit id, hIx _ _ _ _ hi3 hq, hl4⟩⟩
    | goto t =>
      obtain ⟨hd3, hk3, hi3⟩ := hp
      obtain ⟨he, hq, hl4, hkk⟩ := fin (some (.goto t)) W3 hk3
      exact ⟨_, _, he, hDq _ _ hd3 hq, hkk, .inr ⟨rfl, .goto t, hIx _ _ _ _ hi3 hq, hl4⟩⟩
    | panic ch => exact hp.elim
    | outgrown => exact hp.elim
  | ret => exact h1.elim
  | exit id => exact h1.elim
  | goto t => exact h1.elim
  | panic ch => exact h1.elim
  | outgrown => exact h1.elim

theorem callsW {f : FuncId} {args : Array Value} {w : World} {R : Ending → World → Prop} {m : Nat} (h : Calls Try.prog f args w R) : CallsIn Fence.wide m Try.prog f args w R := callsIn_wide.2 h

/-- A LOOP OVER A FUNCTION THAT YIELDS, in no round. -/
theorem rf_outer {α : Type} {g : Operand} {ps : Array Tmp} {assign body : Code} {Q : Exit → Act → World → Prop} {a : Act} {w : World}
    {gf : Nat} {fs lb : Array Value} (hg : a.eval g = .func (.func gf) fs lb) (eg : ∀ args w, (callFunc gf args).run Try.prog w = .ok (.enter gf args) w)
    {E : World → Array Value → α → Prop} {xs : List α} {D : World → Prop} (hseq : SeqQ gf fs lb E xs D) (hD : D w) (hDq : ∀ A B, D A → Quiet w.heap.size A B → D B) (hps : ∀ W vs x, E W vs x → vs.size = ps.size)
    (I : List α → World → Prop) (Ix : Code → List α → World → Prop) (hI : ∀ pre A B, I pre A → Quiet w.heap.size A B → I pre B) (hIx : ∀ c pre A B, Ix c pre A → Quiet w.heap.size A B → Ix c pre B) (h0 : I [] w)
    (hround : ∀ l pre x vs W, w.heap.size ≤ l → I pre W → D W → pre ++ [x] <+: xs → E W vs x →
      assign.wpIn (Fence.wide.inRound l) 0 Try.prog (Exit.then (fun a1 W1 => Bel W W1 ∧ ∀ W2, Quiet w.heap.size W1 W2 → W2.heap.size = W1.heap.size → (∃ r, W2.heap[l]? = some (.loop r)) →
        body.wpIn (Fence.wide.inRound l) 0 Try.prog (rpost w.heap.size D I Ix (pre ++ [x]) W2) a1 W2) (fun _ _ _ => False)) { tmps := (ps.zip vs).foldl (fun t (p, v) => t.setIfInBounds p v) a.tmps, defers := [] } W)
    (hdone : ∀ d W, w.heap.size ≤ d → I xs W → D W → W.heap[d]? = some (.deferred (some [])) → Q .normal { a with defers := { target := .collected d, args := #[] } :: a.defers } W)
    (hstop : ∀ d c pre W, w.heap.size ≤ d → pre <+: xs → Ix c pre W → D W → W.heap[d]? = some (.deferred (some [])) → c.wpIn Fence.wide 0 Try.prog Q { a with defers := { target := .collected d, args := #[] } :: a.defers } W) :
    (Code.rangeFunc g ps assign body).wpIn Fence.wide 0 Try.prog Q a w := by
  refine wpIn_rangeFunc ?_
  intro fn _
  obtain ⟨rec, hrec⟩ : ∃ rec : LoopState → Option Code → Loop, rec = fun st pe => { state := st, pending := pe, fn, tmps := a.tmps, params := ps, assign, body, defers := w.heap.size } := ⟨_, rfl⟩
  obtain ⟨W1, hW1⟩ : ∃ W1, (w.alloc (.deferred (some []))).alloc (.loop (rec .ready none)) = W1 := ⟨_, rfl⟩
  have hb1 : Bel w W1 := by rw [← hW1]; exact ((Bel.refl w).alloc _).alloc _
  have hL1 : W1.heap[w.heap.size + 1]? = some (.loop (rec .ready none)) := by
    rw [← hW1]; have := World.alloc_heap_new (w.alloc (.deferred (some []))) (.loop (rec .ready none)); rwa [World.size_alloc] at this
  have hK1 : W1.heap[w.heap.size]? = some (.deferred (some [])) := by
    rw [← hW1]; exact (Below.heap_alloc _ _ _ (by simp)).trans (World.alloc_heap_new w _)
  have hz1 : W1.heap.size = w.heap.size + 2 := by rw [← hW1]; simp
  have hrecs : ∀ st pe, (rec st pe).state = st ∧ (rec st pe).pending = pe ∧ (rec st pe).params = ps ∧ (rec st pe).assign = assign ∧ (rec st pe).body = body ∧ (rec st pe).fn = fn ∧ ∀ st' pe', { rec st pe with state := st', pending := pe' } = rec st' pe' := fun st pe => by rw [hrec]; exact ⟨rfl, rfl, rfl, rfl, rfl, rfl, fun _ _ => rfl⟩
  have htm : ∀ st pe, (rec st pe).tmps = a.tmps := fun st pe => by rw [hrec]
  refine ⟨w.heap.size + 1, [{ target := .collected w.heap.size, args := #[] }], W1, { target := .fn (.func gf) lb, args := fs ++ #[.func (.yield (w.heap.size + 1)) #[] #[]] }, W1, gf,
    fs ++ #[.func (.yield (w.heap.size + 1)) #[] #[]] ++ lb, W1, ?_, ?_, fun _ _ => trivial, ?_, wide_leads, ?_⟩
  · rw [← hW1, hrec]; exact run_enterLoop_outer _ _ _ _ _
  · simp only [resolve, hg]
    simp [go_sem, Act.eval]
  · simp [invoke, go_sem, eg]
  · refine (callsW (hseq (w.heap.size + 1)
      (fun pre W => I pre W ∧ W.heap[w.heap.size + 1]? = some (.loop (rec .ready none)) ∧ W.heap[w.heap.size]? = some (.deferred (some [])))
      (fun pre W => ∃ c, Ix c pre W ∧ W.heap[w.heap.size + 1]? = some (.loop (rec .done (some c))) ∧ W.heap[w.heap.size]? = some (.deferred (some [])))
      W1 (hDq _ _ hD (hb1.quiet _))
      (fun pre A B h q => ⟨hI _ _ _ h.1 (q.mono (by omega)), q.same _ _ h.2.1 (.inl (by omega)), q.same _ _ h.2.2 (.inl (by omega))⟩)
      (fun pre A B h q => by
        obtain ⟨c, h1, h2, h3⟩ := h
        exact ⟨c, hIx _ _ _ _ h1 (q.mono (by omega)), q.same _ _ h2 (.inl (by omega)), q.same _ _ h3 (.inl (by omega))⟩)
      (fun pre x vs W h hd hpre hE => ?_) ⟨hI _ _ _ h0 (hb1.quiet _), hL1, hK1⟩)).mono ?_
    · -- a round: with the two blocks of the loop's own carried along
      have := round_of (D := fun W => D W ∧ W.heap[w.heap.size]? = some (.deferred (some []))) (I := I) (Ix := Ix) (n := w.heap.size + 1) (N := W1.heap.size) fn rec hrecs a.tmps htm (Nat.le_refl _) (by omega)
        (fun A B h q => ⟨hDq _ _ h.1 (q.mono (by omega)), q.same _ _ h.2 (.inl (by omega))⟩) (fun pre A B h q => hI _ _ _ h (q.mono (by omega))) (fun c pre A B h q => hIx _ _ _ _ h (q.mono (by omega)))
        pre x vs W h.2.1 (hps _ _ _ hE) (wpIn_mono (hround (w.heap.size + 1) pre x vs W (by omega) h.1 hd hpre hE) (by
          rintro e a1 V1 hv
          cases e with
          | normal =>
            refine ⟨hv.1, fun W2 q hz hl => wpIn_mono (hv.2 W2 (q.mono (by omega)) hz hl) ?_⟩
            have hdef : W2.heap[w.heap.size]? = some (.deferred (some [])) := q.same _ _ ((hv.1.block _ (Array.getElem?_eq_some_iff.1 h.2.2).1).trans h.2.2) (.inl (by omega))
            have hlt : w.heap.size < W2.heap.size := (Array.getElem?_eq_some_iff.1 hdef).1
            rintro e a3 W3 hp
            cases e with
            | normal => exact ⟨⟨hp.1, (hp.2.1.2 _ (Nat.le_refl _) hlt).trans hdef⟩, hp.2.1.mono (by omega), hp.2.2⟩
            | ret => exact ⟨⟨hp.1, (hp.2.1.2 _ (Nat.le_refl _) hlt).trans hdef⟩, hp.2.1.mono (by omega), hp.2.2⟩
            | exit id => exact ⟨⟨hp.1, (hp.2.1.2 _ (Nat.le_refl _) hlt).trans hdef⟩, hp.2.1.mono (by omega), hp.2.2⟩
            | goto t => exact ⟨⟨hp.1, (hp.2.1.2 _ (Nat.le_refl _) hlt).trans hdef⟩, hp.2.1.mono (by omega), hp.2.2⟩
            | panic ch => exact hp.elim
            | outgrown => exact hp.elim
          | ret => exact hv.elim
          | exit id => exact hv.elim
          | goto t => exact hv.elim
          | panic ch => exact hv.elim
          | outgrown => exact hv.elim))
      exact YieldAt.mono this fun e W' ⟨hd', hk', hor⟩ => ⟨hd'.1, hk', hor.elim (fun ⟨he, hi, hl⟩ => .inl ⟨he, hi, hl, hd'.2⟩) (fun ⟨he, c, hx, hl⟩ => .inr ⟨he, c, hx, hl, hd'.2⟩)⟩
    · -- behind the function
      rintro e W2 ⟨⟨v, rfl⟩, hd, hor⟩
      rcases hor with ⟨hi, hl, hk⟩ | ⟨pre, hpre, c, hx, hl, hk⟩
      · have he := run_endLoop (P := Try.prog) hl (by rw [(hrecs _ _).1]; simp)
        rw [(hrecs _ _).2.1] at he
        have hq := fun o => Quiet.putObj (n := w.heap.size) (.loop o) hl rfl (by omega)
        exact ⟨none, _, he, hdone _ _ (Nat.le_refl _) (hI _ _ _ hi (hq _)) (hDq _ _ hd (hq _)) ((World.putObj_heap_other (by omega)).trans hk)⟩
      · have he := run_endLoop (P := Try.prog) hl (by rw [(hrecs _ _).1]; simp)
        rw [(hrecs _ _).2.1] at he
        have hq := fun o => Quiet.putObj (n := w.heap.size) (.loop o) hl rfl (by omega)
        exact ⟨some c, _, he, hstop _ c pre _ (Nat.le_refl _) hpre (hIx _ _ _ _ hx (hq _)) (hDq _ _ hd (hq _)) ((World.putObj_heap_other (by omega)).trans hk)⟩

/-- THE SAME, in a round of loop l₀. -/
theorem rf_inner {α : Type} {g : Operand} {ps : Array Tmp} {assign body : Code} {Q : Exit → Act → World → Prop} {a : Act} {w : World} {l₀ : Nat} {r₀ : Loop} (hl₀ : w.heap[l₀]? = some (.loop r₀))
    {gf : Nat} {fs lb : Array Value} (hg : a.eval g = .func (.func gf) fs lb) (eg : ∀ args w, (callFunc gf args).run Try.prog w = .ok (.enter gf args) w)
    {E : World → Array Value → α → Prop} {xs : List α} {D : World → Prop} (hseq : SeqQ gf fs lb E xs D) (hD : D w) (hDq : ∀ A B, D A → Quiet w.heap.size A B → D B) (hps : ∀ W vs x, E W vs x → vs.size = ps.size)
    (I : List α → World → Prop) (Ix : Code → List α → World → Prop) (hI : ∀ pre A B, I pre A → Quiet w.heap.size A B → I pre B) (hIx : ∀ c pre A B, Ix c pre A → Quiet w.heap.size A B → Ix c pre B) (h0 : I [] w)
    (hround : ∀ l pre x vs W, w.heap.size ≤ l → I pre W → D W → pre ++ [x] <+: xs → E W vs x →
      assign.wpIn (Fence.wide.inRound l) 0 Try.prog (Exit.then (fun a1 W1 => Bel W W1 ∧ ∀ W2, Quiet w.heap.size W1 W2 → W2.heap.size = W1.heap.size → (∃ r, W2.heap[l]? = some (.loop r)) →
        body.wpIn (Fence.wide.inRound l) 0 Try.prog (rpost w.heap.size D I Ix (pre ++ [x]) W2) a1 W2) (fun _ _ _ => False)) { tmps := (ps.zip vs).foldl (fun t (p, v) => t.setIfInBounds p v) a.tmps, defers := [] } W)
    (hdone : ∀ W, I xs W → D W → Q .normal a W)
    (hstop : ∀ c pre W, pre <+: xs → Ix c pre W → D W → c.wpIn (Fence.wide.inRound l₀) 0 Try.prog Q a W) :
    (Code.rangeFunc g ps assign body).wpIn (Fence.wide.inRound l₀) 0 Try.prog Q a w := by
  refine wpIn_rangeFunc ?_
  intro fn _
  obtain ⟨rec, hrec⟩ : ∃ rec : LoopState → Option Code → Loop, rec = fun st pe => { state := st, pending := pe, fn, tmps := a.tmps, params := ps, assign, body, defers := r₀.defers } := ⟨_, rfl⟩
  obtain ⟨W1, hW1⟩ : ∃ W1, w.alloc (.loop (rec .ready none)) = W1 := ⟨_, rfl⟩
  have hb1 : Bel w W1 := by rw [← hW1]; exact (Bel.refl w).alloc _
  have hL1 : W1.heap[w.heap.size]? = some (.loop (rec .ready none)) := by rw [← hW1]; exact World.alloc_heap_new w _
  have hz1 : W1.heap.size = w.heap.size + 1 := by rw [← hW1]; simp
  have hrecs : ∀ st pe, (rec st pe).state = st ∧ (rec st pe).pending = pe ∧ (rec st pe).params = ps ∧ (rec st pe).assign = assign ∧ (rec st pe).body = body ∧ (rec st pe).fn = fn ∧ ∀ st' pe', { rec st pe with state := st', pending := pe' } = rec st' pe' := fun st pe => by rw [hrec]; exact ⟨rfl, rfl, rfl, rfl, rfl, rfl, fun _ _ => rfl⟩
  have htm : ∀ st pe, (rec st pe).tmps = a.tmps := fun st pe => by rw [hrec]
  refine ⟨w.heap.size, [], W1, { target := .fn (.func gf) lb, args := fs ++ #[.func (.yield w.heap.size) #[] #[]] }, W1, gf,
    fs ++ #[.func (.yield w.heap.size) #[] #[]] ++ lb, W1, ?_, ?_, fun _ _ => trivial, ?_, (fun h => by cases h), ?_⟩
  · rw [← hW1, hrec]; exact run_enterLoop_inner hl₀ _ _ _ _ _
  · simp only [resolve, hg]
    simp [go_sem, Act.eval]
  · simp [invoke, go_sem, eg]
  · refine (CallsIn.inRound l₀ (callsW (m := 0 - 1) (hseq w.heap.size
      (fun pre W => I pre W ∧ W.heap[w.heap.size]? = some (.loop (rec .ready none)))
      (fun pre W => ∃ c, Ix c pre W ∧ W.heap[w.heap.size]? = some (.loop (rec .done (some c))))
      W1 (hDq _ _ hD (hb1.quiet _))
      (fun pre A B h q => ⟨hI _ _ _ h.1 (q.mono (by omega)), q.same _ _ h.2 (.inl (by omega))⟩)
      (fun pre A B h q => by
        obtain ⟨c, h1, h2⟩ := h
        exact ⟨c, hIx _ _ _ _ h1 (q.mono (by omega)), q.same _ _ h2 (.inl (by omega))⟩)
      (fun pre x vs W h hd hpre hE => ?_) ⟨hI _ _ _ h0 (hb1.quiet _), hL1⟩))).mono ?_
    · have := round_of (D := D) (I := I) (Ix := Ix) (n := w.heap.size) (N := W1.heap.size) fn rec hrecs a.tmps htm (Nat.le_refl _) (by omega)
        (fun A B h q => hDq _ _ h q) (fun pre A B h q => hI _ _ _ h q) (fun c pre A B h q => hIx _ _ _ _ h q)
        pre x vs W h.2 (hps _ _ _ hE) (hround w.heap.size pre x vs W (Nat.le_refl _) h.1 hd hpre hE)
      exact this
    · rintro e W2 ⟨⟨v, rfl⟩, hd, hor⟩
      rcases hor with ⟨hi, hl⟩ | ⟨pre, hpre, c, hx, hl⟩
      · have he := run_endLoop (P := Try.prog) hl (by rw [(hrecs _ _).1]; simp)
        rw [(hrecs _ _).2.1] at he
        have hq := fun o => Quiet.putObj (n := w.heap.size) (.loop o) hl rfl (Nat.le_refl _)
        exact ⟨none, _, he, hdone _ (hI _ _ _ hi (hq _)) (hDq _ _ hd (hq _))⟩
      · have he := run_endLoop (P := Try.prog) hl (by rw [(hrecs _ _).1]; simp)
        rw [(hrecs _ _).2.1] at he
        have hq := fun o => Quiet.putObj (n := w.heap.size) (.loop o) hl rfl (Nat.le_refl _)
        exact ⟨some c, _, he, hstop c pre _ hpre (hIx _ _ _ _ hx (hq _)) (hDq _ _ hd (hq _))⟩

end Go.Proofs.Ytpkadofgmhninaa
namespace Go.Proofs.Ytpkadofgmhninaa
open Go.RowKit
attribute [local go_sem] Oper.semAt_some

theorem drop_rev (p : Rounds) (k : Nat) (hk : k < p.length) : (p.drop k).reverse = (p.drop (k + 1)).reverse ++ [p.getD k []] := by
  rw [List.drop_eq_getElem_cons hk, List.reverse_cons, getD_lt _ _ _ hk]
theorem drop_rev_prefix (p : Rounds) (k : Nat) : (p.drop k).reverse <+: p.reverse := by
  conv => rhs; rw [← List.take_append_drop k p, List.reverse_append]
  exact List.prefix_append _ _

/-- v is what a slice of rounds holds of its round x. -/
def Elt (rv : Value) (p : Rounds) (W : World) (v : Value) (x : List Nat) : Prop :=
  ∃ k a c b off, k < p.length ∧ x = p.getD k [] ∧ rv = .slice a p.length c ∧ a = some ⟨b, off, none⟩ ∧ W.cell? ⟨b, off + k, none⟩ = some v
theorem Elt.cols {rv v : Value} {p : Rounds} {w W : World} {x : List Nat} (h : Elt rv p W v x) (hr : Rnds w rv p) (hb : Bel w W) : Cols w v x := by
  obtain ⟨k, a, c, b, off, hk, rfl, rfl, rfl, hc⟩ := h
  obtain ⟨a', c', e, _, _, _, h3⟩ := hr
  injection e with e1 e2 e3
  subst e1
  obtain ⟨b', off', v', e4, hc', hcol⟩ := h3 k hk
  injection e4 with e4
  injection e4 with e5 e6
  subst e5 e6
  have := hb.cell hc'
  rw [hc] at this
  injection this with this
  subst this
  exact hcol
def EBack (rv : Value) (p : Rounds) (W : World) (vs : Array Value) (x : List Nat) : Prop := ∃ (i : Int) (v : Value), vs = #[.int .i64 i, v] ∧ Elt rv p W v x

set_option maxRecDepth 100000 in
set_option maxHeartbeats 1000000 in
theorem backward1_seq (B : Nat) (rv : Value) (p : Rounds) :
    SeqQ 87 #[] #[.pointer (some ⟨B, 0, none⟩)] (EBack rv p) p.reverse (fun W => Boxed W B 35 rv ∧ Rnds W rv p) := by
  intro l J Jx W hD hJ hJx hY h0
  obtain ⟨hb, hr⟩ := hD
  have hr0 := Lib.hid hr
  obtain ⟨a, c, rfl, h1, h2, -, -⟩ := hr
  unfold maxLen at h2
  have hc := hb.cell
  refine (callsIn_wide (n := 0)).1 (callsIn_of_wp Try.func87 rfl trivial ?_ rfl)
  simp only [Try.ntmps87, List.size_toArray, List.length_cons, List.length_nil, Nat.reduceAdd, Nat.reduceSub, Array.replicate_succ, Array.replicate_zero, List.push_toArray, List.append_toArray, List.nil_append, List.cons_append]
  gi_wp2
  gi_loopw [3] (fun i wr => ∃ k : Nat, k ≤ p.length ∧ i = .int .i64 ((k : Int) - 1) ∧ J (p.drop k).reverse wr ∧ Boxed wr B 35 (.slice a p.length c) ∧ Rnds wr (.slice a p.length c) p) (fun i _ => (intOf i + 1).toNat)
  case atStart => exact ⟨p.length, Nat.le_refl _, rfl, by simpa using h0, hb, hr0.out⟩
  case round =>
    obtain ⟨k, hk, rfl, hj, hb1, hr1⟩ := hrel
    have HR := Lib.hid hr1
    cases k with
    | zero =>
      have hfin : (p.drop 0).reverse = p.reverse := by simp
      rw [hfin] at hj
      have HJ := Lib.hid hj
      have HB := Lib.hid hb1
      clear hj hb1 hr1 hY hJ hJx hb hc hfin
      gi_wp2
      go_end0
      exact ⟨⟨_, rfl⟩, ⟨HB.out, HR.out⟩, .inl HJ.out⟩
    | succ k =>
      have hlt : k < p.length := by omega
      have e1 : ((k + 1 : Nat) : Int) - 1 = (k : Int) := by omega
      rw [e1]
      have hdr := Lib.hid (drop_rev p k hlt)
      have hpf := drop_rev_prefix p k
      have hc1 := hb1.cell
      obtain ⟨a', c', e2, _, _, _, h3⟩ := hr1
      injection e2 with e2 e3 e4
      subst e2
      subst e4
      obtain ⟨b, off, v, rfl, hcell, hcols⟩ := h3 k hlt
      have hy := hY (p.drop (k + 1)).reverse (p.getD k []) #[.int .i64 (k : Int), v] wr hj ⟨hb1, HR.out⟩ (by rw [← hdr.out]; exact hpf) ⟨_, v, rfl, k, _, _, b, off, hlt, rfl, rfl, rfl, hcell⟩
      rw [← hdr.out] at hy
      obtain ⟨fn, tmps, assign, body, hyr, hR⟩ := hy
      have HPF := Lib.hid hpf
      have HJ := Lib.hid hJ
      clear hj hb1 h3 hY hJ hJx hb hc hpf hcols e1 hdr
      generalize p.getD k [] = x at *
      gi_wp2
      refine ⟨rfl, hR.mono ?_⟩
      rintro e W3 ⟨⟨hb3, hr3⟩, _, (⟨rfl, hJ3⟩ | ⟨rfl, hJx3⟩)⟩
      · have H1 := Lib.hid hb3
        have H2 := Lib.hid hr3
        have H3 := Lib.hid hJ3
        have hc3 := hb3.cell
        clear hb3 hr3 hJ3 hR hyr
        gi_wp2
        go_roundw
        case rel => exact ⟨k, by omega, rfl, H3.out, H1.out, H2.out⟩
        case measure => simp [intOf]
      · have H1 := Lib.hid hb3
        have H2 := Lib.hid hr3
        have H3 := Lib.hid hJx3
        clear hb3 hr3 hJx3 hR hyr
        gi_wp2
        refine bodyPost_ret (results_none rfl _ _ _) rfl ?_
        exact ⟨⟨_, rfl⟩, ⟨H1.out, H2.out⟩, .inr ⟨_, HPF.out, H3.out⟩⟩

end Go.Proofs.Ytpkadofgmhninaa
