/- A copy of a plan: its rounds copied one by one. A copy of many plans. -/
import Derived.Test.YtpkadofgmhninaaFresh
import Derived.Test.YtpkadofgmhninaaTCan
namespace Go.Proofs.Ytpkadofgmhninaa
open Go.RowKit

/-- A block whose cells are of one type. -/
def OfT (W : World) (b : Nat) (t : TypeId) : Prop := ∃ cur fz, W.heap[b]? = some (.cells cur t fz)
theorem OfT.lt {W : World} {b : Nat} {t : TypeId} (h : OfT W b t) : b < W.heap.size := by
  obtain ⟨cur, fz, h⟩ := h; exact (Array.getElem?_eq_some_iff.1 h).1
theorem OfT.bel {A B : World} {b : Nat} {t : TypeId} (h : OfT A b t) (q : Bel A B) : OfT B b t := by
  have hl := h.lt
  obtain ⟨cur, fz, h⟩ := h; exact ⟨cur, fz, (q.block b hl).trans h⟩

theorem run_append_emptyT (W : World) (t ty e : TypeId) (i : TypeInfo) (z : Value) (size bytes : Nat) (ht : Try.prog.underlying t = some (.slice e)) (hi : Try.prog.info? e = some i) (hz : i.zero = some z) (hs : i.size = size) (hb : i.bytes = bytes)
    (g : Nat) (hg : OfT W g e) (xa : Option Addr) (n c : Nat) (news : List Value) (hl : news.length = n * size) (hnews : ∀ a, xa = some a → ∀ j v, news[j]? = some v → W.cell? (a.add j) = some v) (h0 : 0 < n → xa.isSome = true) (hn : n ≤ 1000000) (hby : bytes ≤ 1000000) :
    ∃ gb cap W', (Builtin.append_ #[t, t] ty #[.slice (some ⟨g, 0, none⟩) 0 0, .slice xa n c]).run Try.prog W = .ok (.slice (some ⟨gb, 0, none⟩) n cap) W' ∧ Bel W W' ∧ n ≤ cap ∧ cap ≤ maxLen ∧ (∀ j v, news[j]? = some v → W'.cell? ⟨gb, j, none⟩ = some v) ∧ OfT W' gb e := by
  by_cases e0 : n = 0
  · subst e0
    refine ⟨g, 0, W, ?_, Bel.refl _, Nat.le_refl _, Nat.zero_le _, fun j v hj => ?_, hg⟩
    · cases xa <;> simp [Builtin.append_, run_underlying ht, sizeOf, typeInfo, hi, Builtin.lenOf, Builtin.firstCells, storeCells, loadCells, loadCellsFrom]
    · have : news = [] := List.length_eq_zero_iff.1 (by rw [hl, Nat.zero_mul])
      rw [this] at hj; simp at hj
  · obtain ⟨a, rfl⟩ := Option.isSome_iff_exists.1 (h0 (by omega))
    have hcap := nextslicecap_zero (need := n) (by omega)
    have hm : n * bytes ≤ 1000000 * 1000000 := Nat.mul_le_mul hn hby
    have hrun := run_append_grow (P := Try.prog) (w := W) t ty e i z ht hi hz ⟨g, 0, none⟩ 0 0 [] (by simp) (by simp) a n c news (by rw [hs]; exact hl) (hnews a rfl) (by omega) (by omega) (by rw [Nat.zero_add, hcap, hb]; omega)
    rw [Nat.zero_add] at hrun
    have h := World.alloc_heap_new W.drew (.cells ([].toArray ++ news.toArray ++ Builtin.zeroCells z.cells (grownCap W n 0 e - n)) e)
    have hd : W.drew.heap.size = W.heap.size := rfl
    rw [hd] at h
    refine ⟨W.heap.size, grownCap W n 0 e, _, hrun, ((Bel.refl W).drew).alloc _, grownCap_ge _ _ _ _, grownCap_le_maxLen _ _ _ _ (by unfold maxLen; omega), fun j v hj => ?_, ⟨_, _, h⟩⟩
    simp only [World.cell?, h]
    have hjl : j < news.length := (List.getElem?_eq_some_iff.1 hj).1
    simp only [Array.getElem?_append, List.size_toArray, List.length_nil, Array.size_append, Nat.zero_add]
    rw [if_pos hjl]
    simp [hjl]
    exact (List.getElem?_eq_some_iff.1 hj).2

theorem wpList_append_emptyT {ops : Array Oper} {rest : List Oper} {o : Oper} {a : Act} {w : World} {Q : Exit → Act → World → Prop} (hg : o.guard = none) (s x : Operand) (t : TypeId) (hop : o.op = Op.call { callee := Callee.builtin Builtin.append, args := #[s, x], argTypes := #[t, t] })
    (e : TypeId) (i : TypeInfo) (z : Value) (size bytes : Nat) (ht : Try.prog.underlying t = some (.slice e)) (hi : Try.prog.info? e = some i) (hz : i.zero = some z) (hs : i.size = size) (hb : i.bytes = bytes)
    (g : Nat) (hgt : OfT w g e) (xa : Option Addr) (n c : Nat) (hes : a.eval s = .slice (some ⟨g, 0, none⟩) 0 0) (hex : a.eval x = .slice xa n c) (news : List Value) (hl : news.length = n * size) (hnews : ∀ a, xa = some a → ∀ j v, news[j]? = some v → w.cell? (a.add j) = some v) (h0 : 0 < n → xa.isSome = true) (hn : n ≤ 1000000) (hby : bytes ≤ 1000000)
    (hK : ∀ gb cap W', Bel w W' → n ≤ cap → cap ≤ maxLen → (∀ j v, news[j]? = some v → W'.cell? ⟨gb, j, none⟩ = some v) → OfT W' gb e → wpList Try.prog ops Q rest (a.put o.dst (.slice (some ⟨gb, 0, none⟩) n cap)) W') :
    wpList Try.prog ops Q (o :: rest) a w := by
  refine wpList_plain hg fun K hK' => ?_
  obtain ⟨gb, cap, W', hrun, r1, r2, r3, r4, r5⟩ := run_append_emptyT w t o.type e i z size bytes ht hi hz hs hb g hgt xa n c news hl hnews h0 hn hby
  unfold Oper.wp
  simp [execOp, hop, resolve, invoke, builtin, hes, hex, hrun, Result.andThen]
  exact hK' _ _ (hK gb cap W' r1 r2 r3 r4 r5)

/-- The values of a plan's rounds, given one by one. -/
theorem rnds_of {W : World} {base : Nat} {v : Value} {p : Rounds} {vs : List Value} (h : W.ownsRow base 32 1 v p.length vs) (hl : vs.length = p.length) (hx : ∀ i, i < p.length → Cols W (vs.getD i undef) (p.getD i [])) : Rnds W v p := by
  have h' : W.ownsRow base 32 1 v vs.length vs := by rw [hl]; exact h
  obtain ⟨a, c, e, h1, h2, h3, h4⟩ := own_vals h'
  rw [hl] at e h1 h4
  refine ⟨a, c, e, h1, h2, h3, fun i hi => ?_⟩
  obtain ⟨b, off, e', q⟩ := h4 i hi
  exact ⟨b, off, _, e', q, hx i hi⟩

theorem cols_news {W : World} {xa : Option Addr} {n c : Nat} {l : List Nat} (h : Cols W (.slice xa n c) l) : n = l.length ∧ (0 < n → xa.isSome = true) ∧ ∀ a, xa = some a → ∀ j v, (valsOf l)[j]? = some v → W.cell? (a.add j) = some v := by
  have hn : n = l.length := h.drop
  refine ⟨hn, ?_, ?_⟩
  · intro h0
    obtain ⟨a, c', e, h1, h2, hz, h3⟩ := h.vals
    injection e with e1 e2 e3
    subst e1
    obtain ⟨b, off, e', -⟩ := h3 0 (by rw [← e2]; exact h0)
    rw [e']; rfl
  · intro a ha j v hj
    subst ha
    obtain ⟨a', c', e, h1, h2, hz, h3⟩ := h.vals
    injection e with e1 e2 e3
    subst e1
    have hjl : j < (valsOf l).length := (List.getElem?_eq_some_iff.1 hj).1
    obtain ⟨b, off, e', q⟩ := h3 j hjl
    injection e' with e'
    subst e'
    rw [addr_add, q]
    simp [List.getD, hj]

theorem cols_new {W : World} {gb n cap : Nat} {l : List Nat} (hn : n = l.length) (h1 : n ≤ cap) (h2 : cap ≤ maxLen) (h : ∀ j v, (valsOf l)[j]? = some v → W.cell? ⟨gb, j, none⟩ = some v) : Cols W (.slice (some ⟨gb, 0, none⟩) n cap) l := by
  subst hn
  refine ⟨some ⟨gb, 0, none⟩, cap, by rw [List.length_map], by rw [List.length_map]; exact h1, h2, nofun, fun j hj => ⟨gb, 0, rfl, ?_⟩⟩
  rw [List.length_map] at hj
  rw [Nat.zero_add]
  refine h j _ ?_
  unfold valsOf
  simp [List.getD, hj]

/-- A row of colours that lies in a block of numbers. -/
def ColN (W : World) (v : Value) (l : List Nat) : Prop := Cols W v l ∧ ∃ b n c, v = .slice (some ⟨b, 0, none⟩) n c ∧ OfT W b 3
theorem ColN.bel {A B : World} {v : Value} {l : List Nat} (h : ColN A v l) (q : Bel A B) : ColN B v l := by
  obtain ⟨h1, b, n, c, e, h2⟩ := h
  exact ⟨h1.bel q, b, n, c, e, h2.bel q⟩
theorem ColN.grown {A B : World} {v r : Value} {l : List Nat} {base n size : Nat} {xs : List Value} (h : ColN A v l) (ho : A.ownsRow base 32 size r n xs) (q : A.grownBy B r.ownBlock) : ColN B v l := by
  obtain ⟨h1, b, k, c, rfl, cur, fz, h2⟩ := h
  have hne : some b ≠ r.ownBlock := by
    intro hb
    obtain ⟨-, ⟨rfl, -⟩ | ⟨g, cap, cur', rfl, -, hh, -⟩⟩ := ho
    · simp [Value.ownBlock] at hb
    · simp [Value.ownBlock] at hb
      subst hb
      rw [h2] at hh
      injection hh with hh
      injection hh with _ hh _
      exact absurd hh (by decide)
  have hl : b < A.heap.size := (Array.getElem?_eq_some_iff.1 h2).1
  have hc : ∀ o u, A.cell? ⟨b, o, none⟩ = some u → B.cell? ⟨b, o, none⟩ = some u := fun o u hu => q.cell hu hne
  refine ⟨?_, b, k, c, rfl, cur, fz, (q.block b hl hne).trans h2⟩
  obtain ⟨a', c', e, h3, h4, hz, h5⟩ := h1
  refine ⟨a', c', e, h3, h4, hz, fun i hi => ?_⟩
  obtain ⟨b', off, e', k1⟩ := h5 i hi
  subst e'
  injection e with e1 e2 e3
  injection e1 with e1
  injection e1 with e1 e4
  subst e1
  exact ⟨_, _, rfl, hc _ _ k1⟩

/-- A copied plan: a row of its own, of rows that lie in blocks of numbers. -/
def RndN (base : Nat) (W : World) (v : Value) (p : Rounds) : Prop := ∃ vs : List Value, vs.length = p.length ∧ W.ownsRow base 32 1 v p.length vs ∧ ∀ j, j < p.length → ColN W (vs.getD j undef) (p.getD j [])
theorem RndN.rnds {base : Nat} {W : World} {v : Value} {p : Rounds} (h : RndN base W v p) : Rnds W v p := by
  obtain ⟨vs, hl, ho, hc⟩ := h
  exact rnds_of (base := base) ho hl fun j hj => (hc j hj).1
theorem ownsRow_le {base base' : Nat} {W : World} {e : TypeId} {size n : Nat} {v : Value} {xs : List Value} (h : W.ownsRow base e size v n xs) (hb : base' ≤ base) : W.ownsRow base' e size v n xs := by
  obtain ⟨h0, h1 | ⟨g, cap, cur, e1, hg, h2⟩⟩ := h
  · exact ⟨h0, .inl h1⟩
  · exact ⟨h0, .inr ⟨g, cap, cur, e1, Nat.le_trans hb hg, h2⟩⟩
theorem RndN.le {base base' : Nat} {W : World} {v : Value} {p : Rounds} (h : RndN base W v p) (hb : base' ≤ base) : RndN base' W v p := by
  obtain ⟨vs, hl, ho, hc⟩ := h
  exact ⟨vs, hl, ownsRow_le ho hb, hc⟩
theorem RndN.bel {w A B : World} {v : Value} {p : Rounds} (h : RndN w.heap.size A v p) (q : Bel A B) : RndN w.heap.size B v p := by
  obtain ⟨vs, hl, ho, hc⟩ := h
  exact ⟨vs, hl, ownsRow_bel ho q, fun j hj => (hc j hj).bel q⟩
theorem ColN.grownT {A B : World} {t : TypeId} {v r : Value} {l : List Nat} {base n size : Nat} {xs : List Value} (h : ColN A v l) (ht : (3 : TypeId) ≠ t) (ho : A.ownsRow base t size r n xs) (q : A.grownBy B r.ownBlock) : ColN B v l := by
  obtain ⟨h1, b, k, c, rfl, cur, fz, h2⟩ := h
  have hne : some b ≠ r.ownBlock := by
    intro hb
    obtain ⟨-, ⟨rfl, -⟩ | ⟨g, cap, cur', rfl, -, hh, -⟩⟩ := ho
    · simp [Value.ownBlock] at hb
    · simp [Value.ownBlock] at hb
      subst hb
      rw [h2] at hh
      injection hh with hh
      injection hh with _ hh _
      exact ht hh
  have hl : b < A.heap.size := (Array.getElem?_eq_some_iff.1 h2).1
  have hc : ∀ o u, A.cell? ⟨b, o, none⟩ = some u → B.cell? ⟨b, o, none⟩ = some u := fun o u hu => q.cell hu hne
  refine ⟨?_, b, k, c, rfl, cur, fz, (q.block b hl hne).trans h2⟩
  obtain ⟨a', c', e, h3, h4, hz, h5⟩ := h1
  refine ⟨a', c', e, h3, h4, hz, fun i hi => ?_⟩
  obtain ⟨b', off, e', k1⟩ := h5 i hi
  subst e'
  injection e with e1 e2 e3
  injection e1 with e1
  injection e1 with e1 e4
  subst e1
  exact ⟨_, _, rfl, hc _ _ k1⟩
theorem RndN.grown {A B : World} {v r : Value} {p : Rounds} {base base' n : Nat} {xs : List Value} (h : RndN base A v p) (ho : A.ownsRow base' 35 1 r n xs) (q : A.grownBy B r.ownBlock) : RndN base B v p := by
  obtain ⟨vs, hl, hv, hc⟩ := h
  refine ⟨vs, hl, hv.kept q ?_, fun j hj => (hc j hj).grownT (by decide) ho q⟩
  by_cases hn : v.ownBlock = none
  · exact .inl hn
  · refine .inr fun hb => ?_
    obtain ⟨-, ⟨rfl, -⟩ | ⟨g, cap, cur, rfl, -, hh, -⟩⟩ := hv
    · exact hn rfl
    · obtain ⟨-, ⟨rfl, -⟩ | ⟨g', cap', cur', rfl, -, hh', -⟩⟩ := ho
      · simp [Value.ownBlock] at hb
      · simp [Value.ownBlock] at hb
        subst hb
        rw [hh] at hh'
        injection hh' with hh'
        injection hh' with _ hh' _
        exact absurd hh' (by decide)

set_option maxHeartbeats 1600000 in
set_option maxRecDepth 100000 in
theorem copied_any (v : Value) (p : Rounds) (w : World) (h : Rnds w v p) (hlen : p.length ≤ 1000) (hr : ∀ r, r ∈ p → r.length ≤ 1000) :
    Calls Try.prog 12 #[v] w fun e w' => ∃ r, e = .returned r ∧ RndN w.heap.size w' r p ∧ Bel w w' := by
  obtain ⟨i0, hi, hz0, hz1, hz2⟩ := info_parts Try.info3
  obtain ⟨i1, hj, hy0, hy1, hy2⟩ := info_parts Try.info32
  obtain ⟨a, c, rfl, h1, h2, hz, h3⟩ := h
  unfold maxLen at h2
  have H3 := Lib.hid h3
  clear h3
  go_enter Try.func12, Try.ntmps12
  go_wp2_with fail
  go_loopw [3, 4] (fun r i wr => ∃ (k : Nat) (vs : List Value), k ≤ p.length ∧ i = .int .i64 k ∧ vs.length = k ∧ wr.ownsRow w.heap.size 32 1 r k vs ∧ (∀ j, j < k → ColN wr (vs.getD j undef) (p.getD j [])) ∧ Bel w wr) (fun _ i _ => p.length - (intOf i).toNat)
  case atStart =>
    refine ⟨0, [], Nat.zero_le _, rfl, rfl, World.ownsRow_made (base := w.heap.size) (e := 32) (size := 1) w #[] 0 (Nat.le_refl _) (Nat.zero_le _) rfl, fun j hj => absurd hj (Nat.not_lt_zero _), (Bel.refl w).alloc _⟩
  case round =>
    obtain ⟨k, vs, hk, rfl, hvl, ho, hvs, hb⟩ := hrel
    by_cases hlt : k < p.length
    · obtain ⟨b, off, rv, rfl, hcell, hrv⟩ := H3.out k hlt
      replace hcell := hb.cell hcell
      replace hrv := Cols.bel hb hrv
      have hpl : (p.getD k []).length ≤ 1000 := hr _ (by rw [getD_lt _ _ _ hlt]; exact List.getElem_mem hlt)
      have HO := Lib.hid ho
      have HB := Lib.hid hb
      have HVS := Lib.hid hvs
      clear ho hb hvs
      obtain ⟨ra, rc, rn, rfl⟩ : ∃ ra rc rn, rv = .slice ra rn rc := by
        obtain ⟨x, y, e, -⟩ := hrv; exact ⟨_, _, _, e⟩
      obtain ⟨n1, n2, n3⟩ := cols_news hrv
      have HR := Lib.hid hrv
      clear hrv
      have hA : Bel wr (wr.alloc (.cells #[] 3)) := (Bel.refl wr).alloc _
      have hcellA := hA.cell hcell
      have hT : OfT (wr.alloc (.cells #[] 3)) wr.heap.size 3 := ⟨_, _, World.alloc_heap_new wr _⟩
      have hrl : (valsOf (p.getD k [])).length = rn * 1 := by rw [n1]; simp [valsOf]
      have hnews : ∀ a, ra = some a → ∀ j v, (valsOf (p.getD k []))[j]? = some v → (wr.alloc (.cells #[] 3)).cell? (a.add j) = some v := fun a ha j v hv => hA.cell (n3 a ha j v hv)
      have hrn : rn ≤ 1000000 := by omega
      generalize hgl : p.getD k [] = l at n1 n3 hrl hnews HR hpl
      have N1 := Lib.hid n1
      have HG := Lib.hid hgl
      clear n1 hgl n3
      have hm1 : k + 1 ≤ maxLen := by unfold maxLen; omega
      have hm2 : (k + 1) * 24 ≤ 140737488355328 := by omega
      go_wp2_with (at_builtin; first | (refine wpList_append_emptyT rfl _ _ 32 rfl 3 i0 _ 1 8 Try.underlying32 hi hz0 hz1 hz2 wr.heap.size hT ra rn rc rfl rfl (valsOf l) hrl hnews n2 hrn (by decide) ?_; intro gb cap W1 hb1 hb2 hb3 hb4 hb5; have HB1 := Lib.hid (hA.trans hb1); have HN := Lib.hid (show ColN W1 (.slice (some ⟨gb, 0, none⟩) rn cap) l from ⟨cols_new N1.out hb2 hb3 hb4, gb, rn, cap, rfl, hb5⟩); have hm3 : w.heap.size ≤ (W1.alloc (.cells #[.slice (some ⟨gb, 0, none⟩) rn cap] 32)).heap.size := (((HB.out.trans HB1.out).alloc _).size); clear hb1 hb2 hb3 hb4 hb5) | (refine wpList_append_own _ rfl _ _ 35 rfl w.heap.size 32 i1 (.slice none 0 0) 1 24 Try.underlying35 hj hy0 hy1 hy2 rfl (by decide) u3 k vs rfl (ownsRow_bel HO.out (HB1.out.trans ((Bel.refl _).alloc _))) ⟨W1.heap.size, 0, none⟩ 1 1 [.slice (some ⟨gb, 0, none⟩) rn cap] rfl rfl (one_new W1 _ 32) (by simp [Value.oneCell']) hm1 hm2 hm3 ?_; intro v' w3 hown2 hgrow _; have HO2 := Lib.hid hown2; have HGR := Lib.hid hgrow; clear hown2 hgrow))
      go_roundw
      case rel =>
        have ho' := ownsRow_bel HO.out (HB1.out.trans ((Bel.refl _).alloc (.cells #[.slice (some ⟨gb, 0, none⟩) rn cap] 32)))
        refine ⟨k + 1, vs ++ [.slice (some ⟨gb, 0, none⟩) rn cap], by omega, by go_num, by simp [hvl], HO2.out, fun j hj => ?_, ((HB.out.trans HB1.out).alloc _).grown HGR.out (fun q hq => (ho'.lt q hq).1)⟩
        by_cases hjk : j < k
        · rw [show (vs ++ [Value.slice (some ⟨gb, 0, none⟩) rn cap]).getD j undef = vs.getD j undef by simp [List.getD, List.getElem?_append, hvl, hjk]]
          exact (((HVS.out j hjk).bel HB1.out).bel ((Bel.refl _).alloc _)).grown ho' HGR.out
        · obtain rfl : j = k := by omega
          rw [show (vs ++ [Value.slice (some ⟨gb, 0, none⟩) rn cap]).getD j undef = .slice (some ⟨gb, 0, none⟩) rn cap by simp [List.getD, hvl], HG.out]
          exact (HN.out.bel ((Bel.refl _).alloc _)).grown ho' HGR.out
      case measure => simp [intOf]; omega
    · obtain rfl : k = p.length := by omega
      have HO := Lib.hid ho
      have HB := Lib.hid hb
      have HVS := Lib.hid hvs
      clear ho hb hvs hlt
      go_wp2
      go_ret
      exact ⟨_, rfl, ⟨vs, hvl, HO.out, HVS.out⟩, HB.out⟩

set_option maxHeartbeats 1600000 in
set_option maxRecDepth 100000 in
theorem ownPlan_any (v : Value) (p : Rounds) (w : World) (h : Rnds w v p) (hlen : p.length ≤ 1000) (hr : ∀ r, r ∈ p → r.length ≤ 1000) :
    Calls Try.prog 49 #[v] w fun e w' => ∃ r, e = .returned r ∧ RndN w.heap.size w' r p ∧ Bel w w' := by
  obtain ⟨i0, hi, hz0, hz1, hz2⟩ := info_parts Try.info3
  obtain ⟨i1, hj, hy0, hy1, hy2⟩ := info_parts Try.info32
  obtain ⟨a, c, rfl, h1, h2, hz, h3⟩ := h
  unfold maxLen at h2
  have H3 := Lib.hid h3
  clear h3
  go_enter Try.func49, Try.ntmps49
  go_wp2_with fail
  go_loopw [3, 4] (fun r i wr => ∃ (k : Nat) (vs : List Value), k ≤ p.length ∧ i = .int .i64 k ∧ vs.length = k ∧ wr.ownsRow w.heap.size 32 1 r k vs ∧ (∀ j, j < k → ColN wr (vs.getD j undef) (p.getD j [])) ∧ Bel w wr) (fun _ i _ => p.length - (intOf i).toNat)
  case atStart =>
    refine ⟨0, [], Nat.zero_le _, rfl, rfl, World.ownsRow_made (base := w.heap.size) (e := 32) (size := 1) w #[] 0 (Nat.le_refl _) (Nat.zero_le _) rfl, fun j hj => absurd hj (Nat.not_lt_zero _), (Bel.refl w).alloc _⟩
  case round =>
    obtain ⟨k, vs, hk, rfl, hvl, ho, hvs, hb⟩ := hrel
    by_cases hlt : k < p.length
    · obtain ⟨b, off, rv, rfl, hcell, hrv⟩ := H3.out k hlt
      replace hcell := hb.cell hcell
      replace hrv := Cols.bel hb hrv
      have hpl : (p.getD k []).length ≤ 1000 := hr _ (by rw [getD_lt _ _ _ hlt]; exact List.getElem_mem hlt)
      have HO := Lib.hid ho
      have HB := Lib.hid hb
      have HVS := Lib.hid hvs
      clear ho hb hvs
      obtain ⟨ra, rc, rn, rfl⟩ : ∃ ra rc rn, rv = .slice ra rn rc := by
        obtain ⟨x, y, e, -⟩ := hrv; exact ⟨_, _, _, e⟩
      obtain ⟨n1, n2, n3⟩ := cols_news hrv
      have HR := Lib.hid hrv
      clear hrv
      have hA : Bel wr (wr.alloc (.cells #[] 3)) := (Bel.refl wr).alloc _
      have hcellA := hA.cell hcell
      have hT : OfT (wr.alloc (.cells #[] 3)) wr.heap.size 3 := ⟨_, _, World.alloc_heap_new wr _⟩
      have hrl : (valsOf (p.getD k [])).length = rn * 1 := by rw [n1]; simp [valsOf]
      have hnews : ∀ a, ra = some a → ∀ j v, (valsOf (p.getD k []))[j]? = some v → (wr.alloc (.cells #[] 3)).cell? (a.add j) = some v := fun a ha j v hv => hA.cell (n3 a ha j v hv)
      have hrn : rn ≤ 1000000 := by omega
      generalize hgl : p.getD k [] = l at n1 n3 hrl hnews HR hpl
      have N1 := Lib.hid n1
      have HG := Lib.hid hgl
      clear n1 hgl n3
      have hm1 : k + 1 ≤ maxLen := by unfold maxLen; omega
      have hm2 : (k + 1) * 24 ≤ 140737488355328 := by omega
      go_wp2_with (at_builtin; first | (refine wpList_append_emptyT rfl _ _ 32 rfl 3 i0 _ 1 8 Try.underlying32 hi hz0 hz1 hz2 wr.heap.size hT ra rn rc rfl rfl (valsOf l) hrl hnews n2 hrn (by decide) ?_; intro gb cap W1 hb1 hb2 hb3 hb4 hb5; have HB1 := Lib.hid (hA.trans hb1); have HN := Lib.hid (show ColN W1 (.slice (some ⟨gb, 0, none⟩) rn cap) l from ⟨cols_new N1.out hb2 hb3 hb4, gb, rn, cap, rfl, hb5⟩); have hm3 : w.heap.size ≤ (W1.alloc (.cells #[.slice (some ⟨gb, 0, none⟩) rn cap] 32)).heap.size := (((HB.out.trans HB1.out).alloc _).size); clear hb1 hb2 hb3 hb4 hb5) | (refine wpList_append_own _ rfl _ _ 35 rfl w.heap.size 32 i1 (.slice none 0 0) 1 24 Try.underlying35 hj hy0 hy1 hy2 rfl (by decide) u3 k vs rfl (ownsRow_bel HO.out (HB1.out.trans ((Bel.refl _).alloc _))) ⟨W1.heap.size, 0, none⟩ 1 1 [.slice (some ⟨gb, 0, none⟩) rn cap] rfl rfl (one_new W1 _ 32) (by simp [Value.oneCell']) hm1 hm2 hm3 ?_; intro v' w3 hown2 hgrow _; have HO2 := Lib.hid hown2; have HGR := Lib.hid hgrow; clear hown2 hgrow))
      go_roundw
      case rel =>
        have ho' := ownsRow_bel HO.out (HB1.out.trans ((Bel.refl _).alloc (.cells #[.slice (some ⟨gb, 0, none⟩) rn cap] 32)))
        refine ⟨k + 1, vs ++ [.slice (some ⟨gb, 0, none⟩) rn cap], by omega, by go_num, by simp [hvl], HO2.out, fun j hj => ?_, ((HB.out.trans HB1.out).alloc _).grown HGR.out (fun q hq => (ho'.lt q hq).1)⟩
        by_cases hjk : j < k
        · rw [show (vs ++ [Value.slice (some ⟨gb, 0, none⟩) rn cap]).getD j undef = vs.getD j undef by simp [List.getD, List.getElem?_append, hvl, hjk]]
          exact (((HVS.out j hjk).bel HB1.out).bel ((Bel.refl _).alloc _)).grown ho' HGR.out
        · obtain rfl : j = k := by omega
          rw [show (vs ++ [Value.slice (some ⟨gb, 0, none⟩) rn cap]).getD j undef = .slice (some ⟨gb, 0, none⟩) rn cap by simp [List.getD, hvl], HG.out]
          exact (HN.out.bel ((Bel.refl _).alloc _)).grown ho' HGR.out
      case measure => simp [intOf]; omega
    · obtain rfl : k = p.length := by omega
      have HO := Lib.hid ho
      have HB := Lib.hid hb
      have HVS := Lib.hid hvs
      clear ho hb hvs hlt
      go_wp2
      go_ret
      exact ⟨_, rfl, ⟨vs, hvl, HO.out, HVS.out⟩, HB.out⟩

end Go.Proofs.Ytpkadofgmhninaa
namespace Go.Proofs.Ytpkadofgmhninaa
open Go.RowKit

theorem plns_ofN {W : World} {base base' : Nat} {v : Value} {ps : List Rounds} {vs : List Value} (h : W.ownsRow base 35 1 v ps.length vs) (hl : vs.length = ps.length) (hx : ∀ i, i < ps.length → RndN base' W (vs.getD i undef) (ps.getD i [])) : Plns W v ps := by
  have h' : W.ownsRow base 35 1 v vs.length vs := by rw [hl]; exact h
  obtain ⟨a, c, e, h1, h2, h3, h4⟩ := own_vals h'
  rw [hl] at e h1 h4
  refine ⟨a, c, fun i => vs.getD i undef, e, h1, h2, h3, fun i hi => ?_⟩
  obtain ⟨b, off, e', q⟩ := h4 i hi
  exact ⟨b, off, e', q, (hx i hi).rnds⟩

theorem rndN_sl {base : Nat} {W : World} {v : Value} {p : Rounds} (h : RndN base W v p) : ∃ a n c, v = .slice a n c := by
  obtain ⟨vs, -, ho, -⟩ := h
  exact own_sl ho
theorem ownsRow_some {base : Nat} {W : World} {e : TypeId} {size n : Nat} {v : Value} {xs : List Value} (h : W.ownsRow base e size v n xs) (hn : 0 < n) : ∃ b n c, v = .slice (some ⟨b, 0, none⟩) n c ∧ base ≤ b := by
  obtain ⟨-, ⟨-, h0⟩ | ⟨g, cap, cur, rfl, hg, -⟩⟩ := h
  · omega
  · exact ⟨g, n, cap, rfl, hg⟩

set_option maxHeartbeats 1600000 in
set_option maxRecDepth 100000 in
theorem plansCopy_any (v : Value) (ps : List Rounds) (w : World) (h : Plns w v ps) (hlen : ps.length ≤ 1000) (hp : ∀ p, p ∈ ps → p.length ≤ 1000 ∧ ∀ r, r ∈ p → r.length ≤ 1000) :
    Calls Try.prog 26 #[v] w fun e w' => ∃ r, e = .returned r ∧ Plns w' r ps ∧ (∃ b n c, r = .slice (some ⟨b, 0, none⟩) n c ∧ w.heap.size ≤ b) ∧ Bel w w' := by
  obtain ⟨i1, hj, hy0, hy1, hy2⟩ := info_parts Try.info35
  have hcall := fun (W : World) (rv : Value) (p : Rounds) (hr : Rnds W rv p) (hm : p ∈ ps) => ownPlan_any rv p W hr (hp p hm).1 (hp p hm).2
  have HC := Lib.hid hcall
  clear hcall hp
  obtain ⟨a, c, x, rfl, h1, h2, hz, h3⟩ := h
  unfold maxLen at h2
  have H3 := Lib.hid h3
  clear h3
  go_enter Try.func26, Try.ntmps26
  go_wp2_with fail
  go_loopw [3, 4] (fun r i wr => ∃ (k : Nat) (vs : List Value), k ≤ ps.length ∧ i = .int .i64 k ∧ vs.length = k ∧ wr.ownsRow w.heap.size 35 1 r k vs ∧ (∃ b n c, r = .slice (some ⟨b, 0, none⟩) n c ∧ w.heap.size ≤ b) ∧ (∀ j, j < k → RndN w.heap.size wr (vs.getD j undef) (ps.getD j [])) ∧ Bel w wr) (fun _ i _ => ps.length - (intOf i).toNat)
  case atStart =>
    refine ⟨0, [], Nat.zero_le _, rfl, rfl, World.ownsRow_made (base := w.heap.size) (e := 35) (size := 1) w #[] 0 (Nat.le_refl _) (Nat.zero_le _) rfl, ⟨_, _, _, rfl, Nat.le_refl _⟩, fun j hj => absurd hj (Nat.not_lt_zero _), (Bel.refl w).alloc _⟩
  case round =>
    obtain ⟨k, vs, hk, rfl, hvl, ho, hsl, hvs, hb⟩ := hrel
    by_cases hlt : k < ps.length
    · obtain ⟨b, off, rfl, hcell, hrv⟩ := H3.out k hlt
      generalize x k = rv at hcell hrv
      replace hcell := hb.cell hcell
      replace hrv := Rnds.bel hb hrv
      have hc := HC.out wr rv (ps.getD k []) hrv (by rw [getD_lt _ _ _ hlt]; exact List.getElem_mem hlt)
      have HO := Lib.hid ho
      have HB := Lib.hid hb
      have HVS := Lib.hid hvs
      have HSL := Lib.hid hsl
      clear ho hb hvs hrv hsl
      have hm1 : k + 1 ≤ maxLen := by unfold maxLen; omega
      have hm2 : (k + 1) * 24 ≤ 140737488355328 := by omega
      generalize hgl : ps.getD k [] = p at hc
      have HG := Lib.hid hgl
      clear hgl
      go_wp2_with (first | (go_at_call 49; refine hc.mono ?_; rintro e W1 ⟨rv1, rfl, hn1, hb1⟩; obtain ⟨qa, qn, qc, rfl⟩ := rndN_sl hn1; have HB1 := Lib.hid hb1; have HN := Lib.hid (hn1.le HB.out.size); have hm3 : w.heap.size ≤ (W1.alloc (.cells #[.slice qa qn qc] 35)).heap.size := (((HB.out.trans HB1.out).alloc _).size); clear hn1 hb1) | (at_builtin; refine wpList_append_own _ rfl _ _ 73 rfl w.heap.size 35 i1 (.slice none 0 0) 1 24 Try.underlying73 hj hy0 hy1 hy2 rfl (by decide) u3 k vs rfl (ownsRow_bel HO.out (HB1.out.trans ((Bel.refl _).alloc _))) ⟨W1.heap.size, 0, none⟩ 1 1 [.slice qa qn qc] rfl rfl (one_new W1 _ 35) (by simp [Value.oneCell']) hm1 hm2 hm3 ?_; intro v' w3 hown2 hgrow _; have HO2 := Lib.hid hown2; have HGR := Lib.hid hgrow; clear hown2 hgrow))
      go_roundw
      case rel =>
        have ho' := ownsRow_bel HO.out (HB1.out.trans ((Bel.refl _).alloc (.cells #[.slice qa qn qc] 35)))
        refine ⟨k + 1, vs ++ [.slice qa qn qc], by omega, by go_num, by simp [hvl], HO2.out, ownsRow_some HO2.out (by omega), fun j hj => ?_, ((HB.out.trans HB1.out).alloc _).grown HGR.out (fun q hq => (ho'.lt q hq).1)⟩
        by_cases hjk : j < k
        · rw [show (vs ++ [Value.slice qa qn qc]).getD j undef = vs.getD j undef by simp [List.getD, List.getElem?_append, hvl, hjk]]
          exact (((HVS.out j hjk).bel HB1.out).bel ((Bel.refl _).alloc _)).grown ho' HGR.out
        · obtain rfl : j = k := by omega
          rw [show (vs ++ [Value.slice qa qn qc]).getD j undef = .slice qa qn qc by simp [List.getD, hvl], HG.out]
          exact (HN.out.bel ((Bel.refl _).alloc _)).grown ho' HGR.out
      case measure => simp [intOf]; omega
    · obtain rfl : k = ps.length := by omega
      have HO := Lib.hid ho
      have HB := Lib.hid hb
      have HVS := Lib.hid hvs
      have HSL := Lib.hid hsl
      clear ho hb hvs hlt hsl
      go_wp2
      go_ret
      exact ⟨_, rfl, plns_ofN HO.out hvl HVS.out, HSL.out, HB.out⟩

end Go.Proofs.Ytpkadofgmhninaa
