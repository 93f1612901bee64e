/- Where an own row of numbers may be written further. -/
import Derived.Test.YtpkadofgmhninaaGrowX
import Derived.Test.YtpkadofgmhninaaOwnT
import Derived.Test.YtpkadofgmhninaaTwo
import Derived.Test.YtpkadofgmhninaaAll
import Derived.Test.YtpkadofgmhninaaBestMath
namespace Go.Proofs.Ytpkadofgmhninaa
open Go.RowKit

/-- Nothing has changed but new blocks of numbers. -/
structure Ty3 (m0 : Nat) (A B : World) : Prop where
  os : B.os = A.os
  tape : B.tape = A.tape
  output : B.output = A.output
  size : A.heap.size ≤ B.heap.size
  block : ∀ i, i < A.heap.size → (i < m0 ∨ ¬ OfT A i 3) → B.heap[i]? = A.heap[i]?
theorem OfT.one {W : World} {i : Nat} {s t : TypeId} (h : OfT W i s) (k : OfT W i t) : s = t := by
  obtain ⟨c, f, h⟩ := h
  obtain ⟨d, g, k⟩ := k
  rw [h] at k
  injection k with k
  injection k
theorem OfT.same {A B : World} {i : Nat} {t : TypeId} (h : OfT A i t) (e : B.heap[i]? = A.heap[i]?) : OfT B i t := by
  obtain ⟨c, f, h⟩ := h
  exact ⟨c, f, e.trans h⟩
theorem ty3 (m0 : Nat) : RelW (Ty3 m0) where
  bel h := ⟨h.os, h.tape, h.output, h.size, fun i hi _ => h.block i hi⟩
  trans h k := ⟨k.os.trans h.os, k.tape.trans h.tape, k.output.trans h.output, Nat.le_trans h.size k.size, fun i hi hn => by
    have e := h.block i hi hn
    refine (k.block i (Nat.lt_of_lt_of_le hi h.size) ?_).trans e
    rcases hn with hn | hn
    · exact .inl hn
    · exact .inr fun q => hn (q.same e.symm)⟩
theorem Ty3.bel {A B : World} (h : Ty3 A.heap.size A B) : Bel A B := ⟨h.os, h.tape, h.output, h.size, fun i hi => h.block i hi (.inl hi)⟩
theorem Ty3.typed {m0 : Nat} {A B : World} (h : Ty3 m0 A B) {i : Nat} {t : TypeId} (k : OfT A i t) (ht : t ≠ 3) : B.heap[i]? = A.heap[i]? := h.block i k.lt (.inr fun q => ht (k.one q))
theorem Ty3.grown {m0 : Nat} {A B : World} {v : Value} {n : Nat} {xs : List Value} (ho : A.ownsRow m0 3 1 v n xs) (h : A.grownBy B v.ownBlock) : Ty3 m0 A B where
  os := h.os
  tape := h.tape
  output := h.output
  size := h.size
  block i hi hn := h.block i hi (fun e => by
    obtain ⟨-, ⟨rfl, -⟩ | ⟨g, cap, cur, rfl, hg, hh, -⟩⟩ := ho
    · cases e
    · injection e with e
      have e' : g = i := e.symm
      subst e'
      rcases hn with hn | hn
      · omega
      · exact hn ⟨_, _, hh⟩)
theorem Paints.same {A B : World} {b off n c : Nat} {ps : List Paint} (hx : Paints A (.slice (some ⟨b, off, none⟩) n c) ps) (e : B.heap[b]? = A.heap[b]?) : Paints B (.slice (some ⟨b, off, none⟩) n c) ps := by
  have k : ∀ o, B.cell? ⟨b, o, none⟩ = A.cell? ⟨b, o, none⟩ := fun o => World.cell?_of_block (a := ⟨b, o, none⟩) e
  obtain ⟨a, c', e0, h1, h2, hz, h3⟩ := hx
  refine ⟨a, c', e0, h1, h2, hz, fun i hi => ?_⟩
  obtain ⟨b', off', e', q⟩ := h3 i hi
  subst e'
  injection e0 with e1
  injection e1 with e1
  injection e1 with e1 e2
  subst e1 e2
  refine ⟨b, off, rfl, ?_⟩
  simp only [k]
  exact q
theorem Pairs.same {A B : World} {b off n c : Nat} {ps : List (Nat × Nat)} (hx : Pairs A (.slice (some ⟨b, off, none⟩) n c) ps) (e : B.heap[b]? = A.heap[b]?) : Pairs B (.slice (some ⟨b, off, none⟩) n c) ps := by
  have k : ∀ o, B.cell? ⟨b, o, none⟩ = A.cell? ⟨b, o, none⟩ := fun o => World.cell?_of_block (a := ⟨b, o, none⟩) e
  obtain ⟨a, c', e0, h1, h2, hz, h3⟩ := hx
  refine ⟨a, c', e0, h1, h2, hz, fun i hi => ?_⟩
  obtain ⟨b', off', e', q⟩ := h3 i hi
  subst e'
  injection e0 with e1
  injection e1 with e1
  injection e1 with e1 e2
  subst e1 e2
  refine ⟨b, off, rfl, ?_⟩
  simp only [k]
  exact q
/-- A copied set, with the types of its blocks. -/
def SetT (s : CSet) (v : Value) (W : World) : Prop := ∃ ga gc gb gd, v = .agg #[.slice (some ⟨ga, 0, none⟩) s.paints.length gc, .int .i64 s.near, .int .i64 s.give, .slice (some ⟨gb, 0, none⟩) s.eats.length gd] ∧ SetV W v s ∧ OfT W ga 56 ∧ OfT W gb 85
theorem SetT.bel {s : CSet} {v : Value} {A B : World} (h : SetT s v A) (q : Bel A B) : SetT s v B := by
  obtain ⟨ga, gc, gb, gd, e, h1, h2, h3⟩ := h
  exact ⟨ga, gc, gb, gd, e, h1.bel q, h2.bel q, h3.bel q⟩
theorem SetT.ty3 {m0 : Nat} {s : CSet} {v : Value} {A B : World} (h : SetT s v A) (q : Ty3 m0 A B) : SetT s v B := by
  obtain ⟨ga, gc, gb, gd, e, ⟨pv, ev, e2, h1, h2⟩, k1, k2⟩ := h
  subst e
  injection e2 with e2
  have e3 := congrArg Array.toList e2
  simp only [List.cons.injEq] at e3
  obtain ⟨rfl, -, -, rfl, -⟩ := e3
  have b1 := q.typed k1 (by decide)
  have b2 := q.typed k2 (by decide)
  exact ⟨ga, gc, gb, gd, rfl, ⟨_, _, rfl, h1.same b1, h2.same b2⟩, k1.same b1, k2.same b2⟩
theorem own_setT (s : CSet) (v : Value) (w : World) (hv : SetV w v s) (hp5 : s.paints.length ≤ 100) (he5 : s.eats.length ≤ 100) :
    Calls Try.prog 11 #[v] w fun e w' => ∃ v', e = .returned v' ∧ SetT s v' w' ∧ Bel w w' :=
  (own_typed s v w hv hp5 he5).mono fun _ _ ⟨ga, gc, gb, gd, e, h1, h2, h3, h4⟩ => ⟨_, e, ⟨ga, gc, gb, gd, rfl, h1, h2, h3⟩, h4⟩
theorem run_append_emptyO (W : World) (t ty e : TypeId) (i : TypeInfo) (z : Value) (size bytes : Nat) (ht : Try.prog.underlying t = some (.slice e)) (hi : Try.prog.info? e = some i) (hz : i.zero = some z) (hs : i.size = size) (hb : i.bytes = bytes)
    (base g : Nat) (hg : W.ownsRow base e size (.slice (some ⟨g, 0, none⟩) 0 0) 0 []) (hbase : base ≤ W.heap.size) (hzs : z.cells.size = size) (xa : Option Addr) (n c : Nat) (news : List Value) (hl : news.length = n * size) (hnews : ∀ a, xa = some a → ∀ j v, news[j]? = some v → W.cell? (a.add j) = some v) (h0 : 0 < n → xa.isSome = true) (hn : n ≤ 1000000) (hby : bytes ≤ 1000000) :
    ∃ gb cap W', (Builtin.append_ #[t, t] ty #[.slice (some ⟨g, 0, none⟩) 0 0, .slice xa n c]).run Try.prog W = .ok (.slice (some ⟨gb, 0, none⟩) n cap) W' ∧ Bel W W' ∧ W'.ownsRow base e size (.slice (some ⟨gb, 0, none⟩) n cap) n news := by
  by_cases e0 : n = 0
  · subst e0
    have hn0 : news = [] := List.length_eq_zero_iff.1 (by rw [hl, Nat.zero_mul])
    refine ⟨g, 0, W, ?_, Bel.refl _, by rw [hn0]; exact hg⟩
    cases xa <;> simp [Builtin.append_, run_underlying ht, sizeOf, typeInfo, hi, Builtin.lenOf, Builtin.firstCells, storeCells, loadCells, loadCellsFrom]
  · obtain ⟨a, rfl⟩ := Option.isSome_iff_exists.1 (h0 (by omega))
    have hcap := nextslicecap_zero (need := n) (by omega)
    have hm : n * bytes ≤ 1000000 * 1000000 := Nat.mul_le_mul hn hby
    have hrun := run_append_grow (P := Try.prog) (w := W) t ty e i z ht hi hz ⟨g, 0, none⟩ 0 0 [] (by simp) (by simp) a n c news (by rw [hs]; exact hl) (hnews a rfl) (by omega) (by omega) (by rw [Nat.zero_add, hcap, hb]; omega)
    rw [Nat.zero_add] at hrun
    have h := World.alloc_heap_new W.drew (.cells ([].toArray ++ news.toArray ++ Builtin.zeroCells z.cells (grownCap W n 0 e - n)) e)
    have hd : W.drew.heap.size = W.heap.size := rfl
    rw [hd] at h
    refine ⟨W.heap.size, grownCap W n 0 e, _, hrun, ((Bel.refl W).drew).alloc _, hl, .inr ⟨W.heap.size, grownCap W n 0 e, _, rfl, hbase, h, grownCap_ge _ _ _ _, grownCap_le_maxLen _ _ _ _ (by unfold maxLen; omega), ?_, ?_⟩⟩
    · have hge := grownCap_ge W n 0 e
      simp only [Array.size_append, List.size_toArray, List.length_nil, Nat.zero_add, hl, size_zeroCells, hzs]
      rw [← Nat.add_mul, Nat.add_sub_cancel' hge]
    · simp [hl]
theorem wpListIn_append_emptyO {F : Fence} {nn : Nat} {ops : Array Oper} {rest : List Oper} {o : Oper} {a : Act} {w : World} {Q : Exit → Act → World → Prop} (hg : o.guard = none) (s x : Operand) (t : TypeId) (hop : o.op = Op.call { callee := Callee.builtin Builtin.append, args := #[s, x], argTypes := #[t, t] })
    (e : TypeId) (i : TypeInfo) (z : Value) (size bytes : Nat) (ht : Try.prog.underlying t = some (.slice e)) (hi : Try.prog.info? e = some i) (hz : i.zero = some z) (hs : i.size = size) (hb : i.bytes = bytes)
    (base g : Nat) (hgt : w.ownsRow base e size (.slice (some ⟨g, 0, none⟩) 0 0) 0 []) (hbase : base ≤ w.heap.size) (hzs : z.cells.size = size) (xa : Option Addr) (n c : Nat) (hes : a.eval s = .slice (some ⟨g, 0, none⟩) 0 0) (hex : a.eval x = .slice xa n c) (news : List Value) (hl : news.length = n * size) (hnews : ∀ a, xa = some a → ∀ j v, news[j]? = some v → w.cell? (a.add j) = some v) (h0 : 0 < n → xa.isSome = true) (hn : n ≤ 1000000) (hby : bytes ≤ 1000000)
    (hK : ∀ gb cap W', Bel w W' → W'.ownsRow base e size (.slice (some ⟨gb, 0, none⟩) n cap) n news → wpListIn F nn Try.prog ops Q rest (a.put o.dst (.slice (some ⟨gb, 0, none⟩) n cap)) W') :
    wpListIn F nn Try.prog ops Q (o :: rest) a w := by
  refine wpListIn_plain hg fun K hK' => ?_
  obtain ⟨gb, cap, W', hrun, r1, r2⟩ := run_append_emptyO w t o.type e i z size bytes ht hi hz hs hb base g hgt hbase hzs xa n c news hl hnews h0 hn hby
  unfold Oper.wpIn
  refine ⟨?_, ?_⟩
  · simp [Oper.about, hop, resolve, Target.leads, Sem.run_pure]
  · rw [Oper.semAt_plain F _ _ (by rw [hop]; intro c hc'; cases hc')]
    simp [execOp, hop, resolve, invoke, builtin, hes, hex, hrun, Result.andThen]
    exact hK' _ _ (hK gb cap W' r1 r2)

theorem take_drop_but {n c : Nat} {L : List Nat} (hL : List.range n = L) (hc : c < L.length) : valsOf (L.take c) ++ valsOf (L.drop (c + 1)) = valsOf (CSet.butC n c) := by
  subst hL
  rw [List.length_range] at hc
  rw [CSet.butC_two hc]
  unfold valsOf
  rw [List.map_append]
theorem butC_len {n c : Nat} (hc : c < n) : (CSet.butC n c).length = c + (n - (c + 1)) := by
  rw [CSet.butC_two hc, List.length_append, List.length_take, List.length_drop, List.length_range]; omega
end Go.Proofs.Ytpkadofgmhninaa
