/- A copy of a set of colours whose rows may be written. -/
import Derived.Test.YtpkadofgmhninaaOwn
import Derived.Test.YtpkadofgmhninaaCopied
import Derived.Test.YtpkadofgmhninaaLearnMath
namespace Go.Proofs.Ytpkadofgmhninaa
open Go.RowKit

/-- A block of one type that may be written. -/
def OfZ (W : World) (b : Nat) (t : TypeId) : Prop := ∃ cur, W.heap[b]? = some (.cells cur t (0, 0))
theorem OfZ.lt {W : World} {b : Nat} {t : TypeId} (h : OfZ W b t) : b < W.heap.size := by
  obtain ⟨cur, h⟩ := h; exact (Array.getElem?_eq_some_iff.1 h).1
theorem OfZ.bel {A B : World} {b : Nat} {t : TypeId} (h : OfZ A b t) (q : Bel A B) : OfZ B b t := by
  have hl := h.lt
  obtain ⟨cur, h⟩ := h; exact ⟨cur, (q.block b hl).trans h⟩
theorem OfZ.set {W : World} {b : Nat} {t : TypeId} (h : OfZ W b t) (a : Addr) (v : Value) : OfZ (W.setCell a v) b t := by
  obtain ⟨cur, h⟩ := h
  unfold OfZ World.setCell
  simp only [Array.getElem?_modify, h]
  by_cases e : a.block = b
  · rw [if_pos e]; exact ⟨_, rfl⟩
  · rw [if_neg e]; exact ⟨_, rfl⟩
theorem OfZ.fro {W : World} {b : Nat} {t : TypeId} (h : OfZ W b t) (o : Nat) : W.frozen? ⟨b, o, none⟩ = false := by
  obtain ⟨cur, h⟩ := h
  simp [World.frozen?, h]
theorem OfZ.ne {W : World} {a b : Nat} {s t : TypeId} (h : OfZ W a s) (k : OfZ W b t) (hst : s ≠ t) : a ≠ b := by
  rintro rfl
  obtain ⟨c, h⟩ := h
  obtain ⟨d, k⟩ := k
  rw [h] at k
  injection k with k
  injection k with k1 k2
  exact hst k2
/-- A new block of one type that may be written. -/
def NewZ (n : Nat) (W : World) (b : Nat) (t : TypeId) : Prop := n ≤ b ∧ OfZ W b t
theorem NewZ.bel {n : Nat} {A B : World} {b : Nat} {t : TypeId} (h : NewZ n A b t) (q : Bel A B) : NewZ n B b t := ⟨h.1, h.2.bel q⟩
theorem NewZ.set {n : Nat} {W : World} {b : Nat} {t : TypeId} (h : NewZ n W b t) (a : Addr) (v : Value) : NewZ n (W.setCell a v) b t := ⟨h.1, h.2.set a v⟩
theorem run_append_emptyZ (W : World) (t ty e : TypeId) (i : TypeInfo) (z : Value) (size bytes : Nat) (ht : Try.prog.underlying t = some (.slice e)) (hi : Try.prog.info? e = some i) (hz : i.zero = some z) (hs : i.size = size) (hb : i.bytes = bytes)
    (base g : Nat) (hbase : base ≤ W.heap.size) (hg : NewZ base W g e) (xa : Option Addr) (n c : Nat) (news : List Value) (hl : news.length = n * size) (hnews : ∀ a, xa = some a → ∀ j v, news[j]? = some v → W.cell? (a.add j) = some v) (h0 : 0 < n → xa.isSome = true) (hn : n ≤ 1000000) (hby : bytes ≤ 1000000) :
    ∃ gb cap W', (Builtin.append_ #[t, t] ty #[.slice (some ⟨g, 0, none⟩) 0 0, .slice xa n c]).run Try.prog W = .ok (.slice (some ⟨gb, 0, none⟩) n cap) W' ∧ Bel W W' ∧ n ≤ cap ∧ cap ≤ maxLen ∧ (∀ j v, news[j]? = some v → W'.cell? ⟨gb, j, none⟩ = some v) ∧ NewZ base W' gb e := by
  by_cases e0 : n = 0
  · subst e0
    refine ⟨g, 0, W, ?_, Bel.refl _, Nat.le_refl _, Nat.zero_le _, fun j v hj => ?_, hg⟩
    · cases xa <;> simp [Builtin.append_, run_underlying ht, sizeOf, typeInfo, hi, Builtin.lenOf, Builtin.firstCells, storeCells, loadCells, loadCellsFrom]
    · have : news = [] := List.length_eq_zero_iff.1 (by rw [hl, Nat.zero_mul])
      rw [this] at hj; simp at hj
  · obtain ⟨a, rfl⟩ := Option.isSome_iff_exists.1 (h0 (by omega))
    have hcap := nextslicecap_zero (need := n) (by omega)
    have hm : n * bytes ≤ 1000000 * 1000000 := Nat.mul_le_mul hn hby
    have hrun := run_append_grow (P := Try.prog) (w := W) t ty e i z ht hi hz ⟨g, 0, none⟩ 0 0 [] (by simp) (by simp) a n c news (by rw [hs]; exact hl) (hnews a rfl) (by omega) (by omega) (by rw [Nat.zero_add, hcap, hb]; omega)
    rw [Nat.zero_add] at hrun
    have h := World.alloc_heap_new W.drew (.cells ([].toArray ++ news.toArray ++ Builtin.zeroCells z.cells (grownCap W n 0 e - n)) e)
    have hd : W.drew.heap.size = W.heap.size := rfl
    rw [hd] at h
    refine ⟨W.heap.size, grownCap W n 0 e, _, hrun, ((Bel.refl W).drew).alloc _, grownCap_ge _ _ _ _, grownCap_le_maxLen _ _ _ _ (by unfold maxLen; omega), fun j v hj => ?_, ⟨hbase, _, h⟩⟩
    simp only [World.cell?, h]
    have hjl : j < news.length := (List.getElem?_eq_some_iff.1 hj).1
    simp only [Array.getElem?_append, List.size_toArray, List.length_nil, Array.size_append, Nat.zero_add]
    rw [if_pos hjl]
    simp [hjl]
    exact (List.getElem?_eq_some_iff.1 hj).2

theorem wpListIn_append_emptyZ {F : Fence} {nn : Nat} {ops : Array Oper} {rest : List Oper} {o : Oper} {a : Act} {w : World} {Q : Exit → Act → World → Prop} (hg : o.guard = none) (s x : Operand) (t : TypeId) (hop : o.op = Op.call { callee := Callee.builtin Builtin.append, args := #[s, x], argTypes := #[t, t] })
    (e : TypeId) (i : TypeInfo) (z : Value) (size bytes : Nat) (ht : Try.prog.underlying t = some (.slice e)) (hi : Try.prog.info? e = some i) (hz : i.zero = some z) (hs : i.size = size) (hb : i.bytes = bytes)
    (base g : Nat) (hbase : base ≤ w.heap.size) (hgt : NewZ base w g e) (xa : Option Addr) (n c : Nat) (hes : a.eval s = .slice (some ⟨g, 0, none⟩) 0 0) (hex : a.eval x = .slice xa n c) (news : List Value) (hl : news.length = n * size) (hnews : ∀ a, xa = some a → ∀ j v, news[j]? = some v → w.cell? (a.add j) = some v) (h0 : 0 < n → xa.isSome = true) (hn : n ≤ 1000000) (hby : bytes ≤ 1000000)
    (hK : ∀ gb cap W', Bel w W' → n ≤ cap → cap ≤ maxLen → (∀ j v, news[j]? = some v → W'.cell? ⟨gb, j, none⟩ = some v) → NewZ base W' gb e → wpListIn F nn Try.prog ops Q rest (a.put o.dst (.slice (some ⟨gb, 0, none⟩) n cap)) W') :
    wpListIn F nn Try.prog ops Q (o :: rest) a w := by
  refine wpListIn_plain hg fun K hK' => ?_
  obtain ⟨gb, cap, W', hrun, r1, r2, r3, r4, r5⟩ := run_append_emptyZ w t o.type e i z size bytes ht hi hz hs hb base g hbase hgt xa n c news hl hnews h0 hn hby
  unfold Oper.wpIn
  refine ⟨?_, ?_⟩
  · simp [Oper.about, hop, resolve, Target.leads, Sem.run_pure]
  · rw [Oper.semAt_plain F _ _ (by rw [hop]; intro c hc'; cases hc')]
    simp [execOp, hop, resolve, invoke, builtin, hes, hex, hrun, Result.andThen]
    exact hK' _ _ (hK gb cap W' r1 r2 r3 r4 r5)

set_option maxRecDepth 100000 in
set_option maxHeartbeats 4000000 in
theorem own_zeroed (s : CSet) (v : Value) (w : World) (hv : SetV w v s) (hp5 : s.paints.length ≤ 100) (he5 : s.eats.length ≤ 100) :
    Calls Try.prog 11 #[v] w fun e w' => ∃ ga gc gb gd, e = .returned (.agg #[.slice (some ⟨ga, 0, none⟩) s.paints.length gc, .int .i64 s.near, .int .i64 s.give, .slice (some ⟨gb, 0, none⟩) s.eats.length gd]) ∧ SetV w' (.agg #[.slice (some ⟨ga, 0, none⟩) s.paints.length gc, .int .i64 s.near, .int .i64 s.give, .slice (some ⟨gb, 0, none⟩) s.eats.length gd]) s ∧ NewZ w.heap.size w' ga 56 ∧ NewZ w.heap.size w' gb 85 ∧ Bel w w' := by
  obtain ⟨i0, hp0, hp1, hp2, hp3⟩ := info_parts Try.info56
  obtain ⟨i1, he0, he1, he2, he3⟩ := info_parts Try.info85
  obtain ⟨pv, ev, rfl, h1, h2⟩ := hv
  have HPV := Lib.hid h1
  have HEV := Lib.hid h2
  obtain ⟨pa, pc, rfl, -, -, -, -⟩ := h1
  obtain ⟨ea, ec, rfl, -, -, -, -⟩ := h2
  have r1 : Row4 (w.alloc (.cells #[.slice pa s.paints.length pc, .int .i64 s.near, .int .i64 s.give, .slice ea s.eats.length ec] 31)) w.heap.size (.slice pa s.paints.length pc) (.int .i64 s.near) (.int .i64 s.give) (.slice ea s.eats.length ec) 31 := World.alloc_heap_new _ _
  have r2 := World.alloc_heap_new (w.alloc (.cells #[.slice pa s.paints.length pc, .int .i64 s.near, .int .i64 s.give, .slice ea s.eats.length ec] 31)) (.cells #[.slice none 0 0, .int .i64 0, .int .i64 0, .slice none 0 0] 31)
  rw [World.size_alloc] at r2
  obtain ⟨W0, hW0⟩ : ∃ W0, (w.alloc (.cells #[.slice pa s.paints.length pc, .int .i64 s.near, .int .i64 s.give, .slice ea s.eats.length ec] 31)).alloc (.cells #[.slice none 0 0, .int .i64 0, .int .i64 0, .slice none 0 0] 31) = W0 := ⟨_, rfl⟩
  have HROW : Hid (Row4 W0 w.heap.size (.slice pa s.paints.length pc) (.int .i64 s.near) (.int .i64 s.give) (.slice ea s.eats.length ec) 31) := Lib.hid (by rw [← hW0]; exact r1.bel ((Bel.refl _).alloc _))
  have HROW2 : Hid (Row4 W0 (w.heap.size + 1) (.slice none 0 0) (.int .i64 0) (.int .i64 0) (.slice none 0 0) 31) := Lib.hid (by rw [← hW0]; exact r2)
  have HB : Hid (Bel w W0) := Lib.hid (by rw [← hW0]; exact ((Bel.refl w).alloc _).alloc _)
  have HC := Lib.hid HROW.out.c4
  have HW0 := Lib.hid hW0
  clear r1 r2 hW0
  refine (callsIn_wide (n := 0)).1 (callsIn_of_wp Try.func11 rfl trivial ?_ rfl)
  simp only [Try.ntmps11, List.size_toArray, List.length_cons, List.length_nil, Nat.reduceAdd, Nat.reduceSub, Array.replicate_succ, Array.replicate_zero, List.push_toArray, List.append_toArray, List.nil_append, List.cons_append]
  gi_wp2_with fail
  rw [HW0.out]
  refine region_tail 9 (fun i v W => match i with
    | 0 => ∃ g, v = .slice (some ⟨g, 0, none⟩) 0 0 ∧ NewZ w.heap.size W g 56
    | 1 => v = .pointer (some ⟨w.heap.size, 0, none⟩)
    | 2 => v = .slice pa s.paints.length pc
    | 3 => ∃ g c, v = .slice (some ⟨g, 0, none⟩) s.paints.length c ∧ Paints W v s.paints ∧ NewZ w.heap.size W g 56
    | 4 => ∃ g, v = .slice (some ⟨g, 0, none⟩) 0 0 ∧ NewZ w.heap.size W g 85
    | 5 => v = .pointer (some ⟨w.heap.size, 3, none⟩)
    | 6 => v = .slice ea s.eats.length ec
    | 7 => ∃ g c, v = .slice (some ⟨g, 0, none⟩) s.eats.length c ∧ Pairs W v s.eats ∧ NewZ w.heap.size W g 85
    | 8 => v = .pointer (some ⟨w.heap.size, 0, none⟩)
    | _ => True) (by kernel_rfl) (by kernel_rfl) (by kernel_rfl) (by kernel_rfl) ?_ ?_ ?_
  · intro i v W W' h hb
    split at h <;> first | exact h | exact h.bel hb | exact fun e => (h e).bel hb | exact ⟨h.1.bel hb, h.2⟩ | (obtain ⟨g, h1, h2⟩ := h; exact ⟨g, h1, h2.bel hb⟩) | (obtain ⟨g, c, h1, h2, h3⟩ := h; exact ⟨g, c, h1, h2.bel hb, h3.bel hb⟩)
  · refine ⟨?_, ?_, ?_, ?_, ?_, ?_, ?_, ?_, ?_, trivial⟩
    · refine growOp_k ?_; intro vs W hW hd K HK
      clear hd
      simp only [putAll, Act.put, List.setIfInBounds_toArray, List.set_cons_succ, List.set_cons_zero, Nat.reduceAdd, Nat.zero_add]
      gi_wp2_with fail
      refine HK.out _ _ ?_ ?_ ?_
      · simp only [putAll, Act.put, List.setIfInBounds_toArray, List.set_cons_succ, List.set_cons_zero, Nat.reduceAdd, Nat.zero_add] <;> kernel_rfl
      · exact ⟨_, rfl, (HB.out.trans hW).size, _, World.alloc_heap_new _ _⟩
      · exact (Bel.refl _).alloc _
    · refine growOp_k ?_; intro vs W hW hd K HK
      clear hd
      simp only [putAll, Act.put, List.setIfInBounds_toArray, List.set_cons_succ, List.set_cons_zero, Nat.reduceAdd, Nat.zero_add]
      gi_wp2_with fail
      refine HK.out _ _ ?_ ?_ ?_
      · simp only [putAll, Act.put, List.setIfInBounds_toArray, List.set_cons_succ, List.set_cons_zero, Nat.reduceAdd, Nat.zero_add] <;> kernel_rfl
      · rfl
      · exact Bel.refl _
    · refine growOp_k ?_; intro vs W hW hd K HK
      have h1 : (vs 1) = .pointer (some ⟨w.heap.size, 0, none⟩) := hd 1 (by decide)
      clear hd
      obtain ⟨c0, c1, c2, c3⟩ := HC.out.bel hW
      simp only [putAll, Act.put, List.setIfInBounds_toArray, List.set_cons_succ, List.set_cons_zero, Nat.reduceAdd, Nat.zero_add, h1]
      gi_wp2_with fail
      refine HK.out _ _ ?_ ?_ ?_
      · simp only [putAll, Act.put, List.setIfInBounds_toArray, List.set_cons_succ, List.set_cons_zero, Nat.reduceAdd, Nat.zero_add, h1] <;> kernel_rfl
      · rfl
      · exact Bel.refl _
    · refine growOp_k ?_; intro vs W hW hd K HK
      have h0 : ∃ g, (vs 0) = .slice (some ⟨g, 0, none⟩) 0 0 ∧ NewZ w.heap.size W g 56 := hd 0 (by decide)
      have h2 : (vs 2) = .slice pa s.paints.length pc := hd 2 (by decide)
      clear hd
      simp only [putAll, Act.put, List.setIfInBounds_toArray, List.set_cons_succ, List.set_cons_zero, Nat.reduceAdd, Nat.zero_add, h2]
      obtain ⟨g, e0, hgt⟩ := h0
      simp only [e0]
      refine wpListIn_append_emptyZ rfl _ _ 28 rfl 56 i0 _ 6 48 Try.underlying28 hp0 hp1 hp2 hp3 w.heap.size g (HB.out.trans hW).size hgt _ _ _ rfl rfl (s.paints.flatMap paintRow) (by rw [rows_len _ 6 (fun _ => rfl)]) ((HPV.out.bel (HB.out.trans hW)).news).2.2 ((HPV.out.bel (HB.out.trans hW)).news).2.1 (by omega) (by decide) ?_
      intro gb cap W' hb1 hb2 hb3 hb4 hb5
      gi_wp2_with fail
      refine HK.out _ _ ?_ ?_ ?_
      · simp only [putAll, Act.put, List.setIfInBounds_toArray, List.set_cons_succ, List.set_cons_zero, Nat.reduceAdd, Nat.zero_add, h2, e0] <;> kernel_rfl
      · exact ⟨_, _, rfl, Paints.of_news hb2 hb3 hb4, hb5⟩
      · exact hb1
    · refine growOp_k ?_; intro vs W hW hd K HK
      clear hd
      simp only [putAll, Act.put, List.setIfInBounds_toArray, List.set_cons_succ, List.set_cons_zero, Nat.reduceAdd, Nat.zero_add]
      gi_wp2_with fail
      refine HK.out _ _ ?_ ?_ ?_
      · simp only [putAll, Act.put, List.setIfInBounds_toArray, List.set_cons_succ, List.set_cons_zero, Nat.reduceAdd, Nat.zero_add] <;> kernel_rfl
      · exact ⟨_, rfl, (HB.out.trans hW).size, _, World.alloc_heap_new _ _⟩
      · exact (Bel.refl _).alloc _
    · refine growOp_k ?_; intro vs W hW hd K HK
      clear hd
      simp only [putAll, Act.put, List.setIfInBounds_toArray, List.set_cons_succ, List.set_cons_zero, Nat.reduceAdd, Nat.zero_add]
      gi_wp2_with fail
      refine HK.out _ _ ?_ ?_ ?_
      · simp only [putAll, Act.put, List.setIfInBounds_toArray, List.set_cons_succ, List.set_cons_zero, Nat.reduceAdd, Nat.zero_add] <;> kernel_rfl
      · rfl
      · exact Bel.refl _
    · refine growOp_k ?_; intro vs W hW hd K HK
      have h5 : (vs 5) = .pointer (some ⟨w.heap.size, 3, none⟩) := hd 5 (by decide)
      clear hd
      obtain ⟨c0, c1, c2, c3⟩ := HC.out.bel hW
      simp only [putAll, Act.put, List.setIfInBounds_toArray, List.set_cons_succ, List.set_cons_zero, Nat.reduceAdd, Nat.zero_add, h5]
      gi_wp2_with fail
      refine HK.out _ _ ?_ ?_ ?_
      · simp only [putAll, Act.put, List.setIfInBounds_toArray, List.set_cons_succ, List.set_cons_zero, Nat.reduceAdd, Nat.zero_add, h5] <;> kernel_rfl
      · rfl
      · exact Bel.refl _
    · refine growOp_k ?_; intro vs W hW hd K HK
      have h4 : ∃ g, (vs 4) = .slice (some ⟨g, 0, none⟩) 0 0 ∧ NewZ w.heap.size W g 85 := hd 4 (by decide)
      have h6 : (vs 6) = .slice ea s.eats.length ec := hd 6 (by decide)
      clear hd
      simp only [putAll, Act.put, List.setIfInBounds_toArray, List.set_cons_succ, List.set_cons_zero, Nat.reduceAdd, Nat.zero_add, h6]
      obtain ⟨g, e0, hgt⟩ := h4
      simp only [e0]
      refine wpListIn_append_emptyZ rfl _ _ 29 rfl 85 i1 _ 2 16 Try.underlying29 he0 he1 he2 he3 w.heap.size g (HB.out.trans hW).size hgt _ _ _ rfl rfl (s.eats.flatMap pairRow) (by rw [rows_len _ 2 (fun _ => rfl)]) ((HEV.out.bel (HB.out.trans hW)).news).2.2 ((HEV.out.bel (HB.out.trans hW)).news).2.1 (by omega) (by decide) ?_
      intro gb cap W' hb1 hb2 hb3 hb4 hb5
      gi_wp2_with fail
      refine HK.out _ _ ?_ ?_ ?_
      · simp only [putAll, Act.put, List.setIfInBounds_toArray, List.set_cons_succ, List.set_cons_zero, Nat.reduceAdd, Nat.zero_add, h6, e0] <;> kernel_rfl
      · exact ⟨_, _, rfl, Pairs.of_news hb2 hb3 hb4, hb5⟩
      · exact hb1
    · refine growOp_k ?_; intro vs W hW hd K HK
      clear hd
      simp only [putAll, Act.put, List.setIfInBounds_toArray, List.set_cons_succ, List.set_cons_zero, Nat.reduceAdd, Nat.zero_add]
      gi_wp2_with fail
      refine HK.out _ _ ?_ ?_ ?_
      · simp only [putAll, Act.put, List.setIfInBounds_toArray, List.set_cons_succ, List.set_cons_zero, Nat.reduceAdd, Nat.zero_add] <;> kernel_rfl
      · rfl
      · exact Bel.refl _
  · intro vs W hW hall
    have g3 : ∃ g c, vs 3 = .slice (some ⟨g, 0, none⟩) s.paints.length c ∧ Paints W (vs 3) s.paints ∧ NewZ w.heap.size W g 56 := hall 3 (by decide)
    have g7 : ∃ g c, vs 7 = .slice (some ⟨g, 0, none⟩) s.eats.length c ∧ Pairs W (vs 7) s.eats ∧ NewZ w.heap.size W g 85 := hall 7 (by decide)
    have g8 : vs 8 = .pointer (some ⟨w.heap.size, 0, none⟩) := hall 8 (by decide)
    clear hall
    simp only [putAll, Act.put, List.setIfInBounds_toArray, List.set_cons_succ, List.set_cons_zero, Nat.reduceAdd, Nat.zero_add, List.take_succ_cons, List.take_zero, List.drop_succ_cons, List.drop_zero, g8]
    obtain ⟨ga, gc, e3, hpp, ht3⟩ := g3
    obtain ⟨gb, gd, e7, hqq, ht7⟩ := g7
    have HT3 := Lib.hid ht3
    have HT7 := Lib.hid ht7
    clear ht3 ht7
    rw [e3] at hpp
    rw [e7] at hqq
    simp only [e3, e7]
    have HBW := Lib.hid (HB.out.trans hW)
    have HPP := Lib.hid hpp
    have HQQ := Lib.hid hqq
    have HR := Lib.hid (HROW.out.bel hW)
    have HR2 := Lib.hid (HROW2.out.bel hW)
    clear hW hpp hqq e3 e7 g8
    have f0 := HR.out.fro 0
    have f3 := HR.out.fro 3
    obtain ⟨c0, c1, c2, c3⟩ := HR.out.c4
    obtain ⟨U, hU⟩ : ∃ U, (W.setCell ⟨w.heap.size, 0, none⟩ (.slice (some ⟨ga, 0, none⟩) s.paints.length gc)).setCell ⟨w.heap.size, 3, none⟩ (.slice (some ⟨gb, 0, none⟩) s.eats.length gd) = U := ⟨_, rfl⟩
    have hbu : But w.heap.size W U := by rw [← hU]; exact (But.set _ _ _ _).trans (But.set _ _ _ _)
    have hru : Row4 U w.heap.size (.slice (some ⟨ga, 0, none⟩) s.paints.length gc) (.int .i64 s.near) (.int .i64 s.give) (.slice (some ⟨gb, 0, none⟩) s.eats.length gd) 31 := by
      rw [← hU]; exact heap_set (heap_set HR.out 0 _) 3 _
    have hru2 : Row4 U (w.heap.size + 1) (.slice none 0 0) (.int .i64 0) (.int .i64 0) (.slice none 0 0) 31 := HR2.out.but hbu (by omega)
    have hbw := hbu.bel HBW.out (Nat.le_refl _)
    have HBU := Lib.hid hbu
    have HRU2 := Lib.hid hru2
    have HBW2 := Lib.hid hbw
    obtain ⟨d0, d1, d2, d3⟩ := hru.c4
    obtain ⟨x0, x1, x2, x3⟩ := hru2.c4
    have y0 := hru2.fro 0
    have y1 := hru2.fro 1
    have y2 := hru2.fro 2
    have y3 := hru2.fro 3
    rw [← hU] at d0 d1 d2 d3 x0 x1 x2 x3 y0 y1 y2 y3
    have HTU := Lib.hid (show NewZ w.heap.size U ga 56 ∧ NewZ w.heap.size U gb 85 by rw [← hU]; exact ⟨(HT3.out.set _ _).set _ _, (HT7.out.set _ _).set _ _⟩)
    have HU := Lib.hid hU
    clear hU hbu hru hru2 hbw
    gi_wp2_with fail
    rw [HU.out]
    obtain ⟨V, hV⟩ : ∃ V, (((U.setCell ⟨w.heap.size + 1, 0, none⟩ (.slice (some ⟨ga, 0, none⟩) s.paints.length gc)).setCell ⟨w.heap.size + 1, 1, none⟩ (.int .i64 s.near)).setCell ⟨w.heap.size + 1, 2, none⟩ (.int .i64 s.give)).setCell ⟨w.heap.size + 1, 3, none⟩ (.slice (some ⟨gb, 0, none⟩) s.eats.length gd) = V := ⟨_, rfl⟩
    have hbv : But (w.heap.size + 1) U V := by rw [← hV]; exact ((But.set _ _ _ _).trans (But.set _ _ _ _)).trans ((But.set _ _ _ _).trans (But.set _ _ _ _))
    have hrv : Row4 V (w.heap.size + 1) (.slice (some ⟨ga, 0, none⟩) s.paints.length gc) (.int .i64 s.near) (.int .i64 s.give) (.slice (some ⟨gb, 0, none⟩) s.eats.length gd) 31 := by
      rw [← hV]; exact heap_set (heap_set (heap_set (heap_set HRU2.out 0 _) 1 _) 2 _) 3 _
    have HTV := Lib.hid (show NewZ w.heap.size V ga 56 ∧ NewZ w.heap.size V gb 85 by rw [← hV]; exact ⟨(((HTU.out.1.set _ _).set _ _).set _ _).set _ _, (((HTU.out.2.set _ _).set _ _).set _ _).set _ _⟩)
    rw [hV]
    have hP := (HPP.out.safe HR.out HBU.out).safe HRU2.out hbv
    have hQ := (HQQ.out.safe HR.out HBU.out).safe HRU2.out hbv
    have hbw := hbv.bel HBW2.out (by omega)
    obtain ⟨z0, z1, z2, z3⟩ := hrv.c4
    exact bodyPost_ret (v := .agg #[.slice (some ⟨ga, 0, none⟩) s.paints.length gc, .int .i64 s.near, .int .i64 s.give, .slice (some ⟨gb, 0, none⟩) s.eats.length gd]) (by simp [results, Try.results11, go_sem, z0, z1, z2, z3]) rfl ⟨_, _, _, _, rfl, ⟨_, _, rfl, hP, hQ⟩, HTV.out.1, HTV.out.2, hbw⟩

theorem ix0 (a b c d : Int) (w : World) : (Instr.index 77 (.agg #[.int .i64 a, .int .i64 b, .int .i64 c, .int .i64 d]) (.int .i64 0)).run Try.prog w = .ok (.int .i64 a) w := by kernel_rfl
theorem ix1 (a b c d : Int) (w : World) : (Instr.index 77 (.agg #[.int .i64 a, .int .i64 b, .int .i64 c, .int .i64 d]) (.int .i64 1)).run Try.prog w = .ok (.int .i64 b) w := by kernel_rfl
theorem ix2 (a b c d : Int) (w : World) : (Instr.index 77 (.agg #[.int .i64 a, .int .i64 b, .int .i64 c, .int .i64 d]) (.int .i64 2)).run Try.prog w = .ok (.int .i64 c) w := by kernel_rfl
theorem ix3 (a b c d : Int) (w : World) : (Instr.index 77 (.agg #[.int .i64 a, .int .i64 b, .int .i64 c, .int .i64 d]) (.int .i64 3)).run Try.prog w = .ok (.int .i64 d) w := by kernel_rfl
/-- One colour's heat written anew. -/
theorem Paints.heat {W : World} {b n c : Nat} {ps : List Paint} (h : Paints W (.slice (some ⟨b, 0, none⟩) n c) ps) {z : Nat} (hz : z < ps.length) (N : Int) :
    Paints ((W.setCell ⟨b, z * 6, none⟩ (.int .i64 N)).setCell ⟨b, z * 6 + 1, none⟩ (.int .i64 N)) (.slice (some ⟨b, 0, none⟩) n c) (ps.set z { ps.getD z ⟨0, 0, 0, 0, 0, 0⟩ with hl := N, hh := N }) := by
  obtain ⟨a, c', e, h1, h2, hz', h3⟩ := h
  injection e with e1 e2 e3
  subst e1 e2 e3
  refine ⟨_, _, by rw [List.length_set], by rw [List.length_set]; exact h1, h2, hz', fun i hi => ?_⟩
  rw [List.length_set] at hi
  obtain ⟨b', off, e', k0, k1, k2, k3, k4, k5⟩ := h3 i hi
  injection e' with e'
  injection e' with e1 e2
  subst e1 e2
  obtain ⟨b', off, e', j0, j1, -⟩ := h3 z hz
  injection e' with e'
  injection e' with e1 e2
  subst e1 e2
  rw [Nat.zero_add] at *
  have other : ∀ o v, o ≠ z * 6 → o ≠ z * 6 + 1 → W.cell? ⟨b, o, none⟩ = some v → ((W.setCell ⟨b, z * 6, none⟩ (.int .i64 N)).setCell ⟨b, z * 6 + 1, none⟩ (.int .i64 N)).cell? ⟨b, o, none⟩ = some v := fun o v n1 n2 hv => by
    rw [World.cell?_setCell_other (h := by intro q; injection q with _ q; exact n2 q.symm), World.cell?_setCell_other (h := by intro q; injection q with _ q; exact n1 q.symm)]
    exact hv
  have s0 : ((W.setCell ⟨b, z * 6, none⟩ (.int .i64 N)).setCell ⟨b, z * 6 + 1, none⟩ (.int .i64 N)).cell? ⟨b, z * 6, none⟩ = some (.int .i64 N) := by
    rw [World.cell?_setCell_other (h := by intro q; injection q with _ q; omega), World.cell?_setCell_same' _ _ _ (by rw [j0]; rfl)]
  have s1 : ((W.setCell ⟨b, z * 6, none⟩ (.int .i64 N)).setCell ⟨b, z * 6 + 1, none⟩ (.int .i64 N)).cell? ⟨b, z * 6 + 1, none⟩ = some (.int .i64 N) := by
    rw [World.cell?_setCell_same' _ _ _ (by rw [World.cell?_setCell_other (h := by intro q; injection q with _ q; omega), j1]; rfl)]
  refine ⟨b, 0, rfl, ?_⟩
  simp only [Nat.zero_add]
  by_cases e : i = z
  · subst e
    rw [show (ps.set i { ps.getD i ⟨0, 0, 0, 0, 0, 0⟩ with hl := N, hh := N }).getD i ⟨0, 0, 0, 0, 0, 0⟩ = { ps.getD i ⟨0, 0, 0, 0, 0, 0⟩ with hl := N, hh := N } by simp [List.getD, hz]]
    exact ⟨s0, s1, other _ _ (by omega) (by omega) k2, other _ _ (by omega) (by omega) k3, other _ _ (by omega) (by omega) k4, other _ _ (by omega) (by omega) k5⟩
  · rw [show (ps.set z { ps.getD z ⟨0, 0, 0, 0, 0, 0⟩ with hl := N, hh := N }).getD i ⟨0, 0, 0, 0, 0, 0⟩ = ps.getD i ⟨0, 0, 0, 0, 0, 0⟩ by simp [List.getD, Ne.symm e]]
    exact ⟨other _ _ (by omega) (by omega) k0, other _ _ (by omega) (by omega) k1, other _ _ (by omega) (by omega) k2, other _ _ (by omega) (by omega) k3, other _ _ (by omega) (by omega) k4, other _ _ (by omega) (by omega) k5⟩

/-- The marks once the first k operations have run. -/
def marked (n k : Nat) : Array Bool := ((List.range n).map fun i => decide (i < k)).toArray
/-- The k-th operation may run once those before it have. -/
def lexAt (md : Region.Mode) (ops : Array Oper) (k : Nat) : Bool := (Region.ready md ops (marked ops.size k)).contains k && Region.free md ops (marked ops.size k) k
theorem marked_zero (n : Nat) : marked n 0 = Array.replicate n false := by
  apply Array.ext <;> simp [marked]
theorem marked_set (n k : Nat) : (marked n k).setIfInBounds k true = marked n (k + 1) := by
  apply Array.ext
  · simp [marked]
  · intro i h1 h2
    by_cases h : k = i
    · subst h; simp [marked]
    · have e : decide (i < k) = decide (i < k + 1) := by
        by_cases h3 : i < k
        · simp [h3, Nat.lt_succ_of_lt h3]
        · have : ¬ i < k + 1 := by omega
          simp [h3, this]
      simp [marked, h, e]
theorem lexB_of {md : Region.Mode} {ops : Array Oper} (hs : Region.noSelect ops = true) (he : (Region.ready md ops (marked ops.size ops.size)).isEmpty = true)
    (h : ∀ k, k < ops.size → lexAt md ops k = true) : Region.lexB md ops = true := by
  have hf : ∀ f k, k + f = ops.size → Region.lexFrom md ops f k (marked ops.size k) = true := by
    intro f
    induction f with
    | zero => intro k hk; rw [Nat.add_zero] at hk; rw [hk]; exact he
    | succ f ih =>
      intro k hk
      have := h k (by omega)
      unfold lexAt at this
      rw [Region.lexFrom, this, marked_set]
      exact ih (k + 1) (by omega)
  rw [Region.lexB, hs, ← marked_zero]
  exact hf _ _ (by omega)
/-- The 16 operations from 16 * j on. -/
def lexPart (md : Region.Mode) (ops : Array Oper) (j : Nat) : Bool := (List.range 16).all fun i => decide (ops.size ≤ 16 * j + i) || lexAt md ops (16 * j + i)
theorem lexB_parts {md : Region.Mode} {ops : Array Oper} (N : Nat) (hs : Region.noSelect ops = true) (he : (Region.ready md ops (marked ops.size ops.size)).isEmpty = true)
    (hn : decide (ops.size ≤ 16 * N) = true) (h : ∀ j, j < N → lexPart md ops j = true) : Region.lexB md ops = true := by
  refine lexB_of hs he fun k hk => ?_
  have hn := of_decide_eq_true hn
  have := List.all_eq_true.1 (h (k / 16) (by omega)) (k % 16) (by simp; omega)
  rw [show 16 * (k / 16) + k % 16 = k by omega] at this
  rw [Bool.or_eq_true] at this
  rcases this with h1 | h1
  · have := of_decide_eq_true h1; omega
  · exact h1
theorem lexB_ten {md : Region.Mode} {ops : Array Oper} (hs : Region.noSelect ops = true) (he : (Region.ready md ops (marked ops.size ops.size)).isEmpty = true)
    (hn : decide (ops.size ≤ 16 * 10) = true) (p0 : lexPart md ops 0 = true) (p1 : lexPart md ops 1 = true) (p2 : lexPart md ops 2 = true) (p3 : lexPart md ops 3 = true) (p4 : lexPart md ops 4 = true) (p5 : lexPart md ops 5 = true) (p6 : lexPart md ops 6 = true) (p7 : lexPart md ops 7 = true) (p8 : lexPart md ops 8 = true) (p9 : lexPart md ops 9 = true) : Region.lexB md ops = true := by
  refine lexB_parts 10 hs he hn fun j hj => ?_
  match j, hj with
  | 0, _ => exact p0
  | 1, _ => exact p1
  | 2, _ => exact p2
  | 3, _ => exact p3
  | 4, _ => exact p4
  | 5, _ => exact p5
  | 6, _ => exact p6
  | 7, _ => exact p7
  | 8, _ => exact p8
  | 9, _ => exact p9
end Go.Proofs.Ytpkadofgmhninaa
