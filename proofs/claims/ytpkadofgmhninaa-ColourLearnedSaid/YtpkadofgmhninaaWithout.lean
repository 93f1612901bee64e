/- What of a list is not in another one. The plans of some colours: what is laid, and what goes before. -/
import Derived.Test.YtpkadofgmhninaaHeats
import Derived.Test.YtpkadofgmhninaaPlans
namespace Go.Proofs.Ytpkadofgmhninaa
open Go.RowKit

theorem dropOut_snoc (l d : List Nat) (k : Nat) (hk : k < l.length) : dropOut (l.take (k + 1)) d = dropOut (l.take k) d ++ (if d.contains (l.getD k 0) then [] else [l.getD k 0]) := by
  unfold dropOut
  rw [take_snocN l k hk, List.filter_append, List.filter_cons]
  cases d.contains (l.getD k 0) <;> simp
theorem dropOut_len (l d : List Nat) (k : Nat) : (dropOut (l.take k) d).length ≤ k := Nat.le_trans (List.length_filter_le _ _) (by rw [List.length_take]; omega)
theorem one_new (w : World) (x : Value) (t : TypeId) : ∀ j u, [x][j]? = some u → (w.alloc (.cells #[x] t)).cell? ((⟨w.heap.size, 0, none⟩ : Addr).add j) = some u := by
  intro j u h
  have h1 := World.alloc_heap_new w (.cells #[x] t)
  rw [addr_add]
  rcases j with _ | j
  · simp at h; subst h; simp only [World.cell?, h1]; rfl
  · simp at h

set_option maxHeartbeats 800000 in
set_option maxRecDepth 100000 in
theorem without_any (lv dv : Value) (l d : List Nat) (w : World) (h : Cols w lv l) (hd : Cols w dv d) (hlen : l.length ≤ 1000000) :
    Calls Try.prog 103 #[lv, dv] w fun e w' => ∃ r, e = .returned r ∧ Cols w' r (dropOut l d) ∧ (dropOut l d ≠ [] → FromB w.heap.size r) ∧ Bel w w' := by
  obtain ⟨i0, hi, hz0, hz1, hz2⟩ := info_parts Try.info3
  have hk := fun W (hW : Bel w W) x => contains_any dv d x W (hd.bel hW)
  obtain ⟨da, dc, rfl, -, -, -, -⟩ := hd
  have HL := Lib.hid h
  obtain ⟨a, c, rfl, h1, h2, -, -⟩ := h
  unfold maxLen at h2
  rw [List.length_map] at h1
  simp only [List.length_map] at HL hk ⊢
  have HK := Lib.hid hk
  clear hk
  go_enter Try.func103, Try.ntmps103
  go_wp2_with fail
  go_loopw [5, 10] (fun r i wr => ∃ k : Nat, k ≤ l.length ∧ i = .int .i64 k ∧ wr.ownsRow w.heap.size 3 1 r (dropOut (l.take k) d).length (valsOf (dropOut (l.take k) d)) ∧ Bel w wr) (fun _ i _ => l.length - (intOf i).toNat)
  case atStart => exact ⟨0, Nat.zero_le _, rfl, ⟨rfl, .inl ⟨rfl, rfl⟩⟩, Bel.refl _⟩
  case round =>
    obtain ⟨k, hk, rfl, ho, hb⟩ := hrel
    by_cases hlt : k < l.length
    · obtain ⟨lb, loff, rfl, lcell⟩ := (HL.out.bel hb).cellAt hlt
      have hc := HK.out wr hb (l.getD k 0)
      have HS := Lib.hid (dropOut_snoc l d k hlt)
      have hkl := dropOut_len l d k
      have HO := Lib.hid ho
      have HB := Lib.hid hb
      clear ho hb
      generalize l.getD k 0 = x at *
      generalize dropOut (l.take k) d = R at *
      generalize hcx : d.contains x = cx at *
      clear hcx
      cases cx
      · go_wp2_with fail
        refine hc.mono ?_
        rintro e w2 ⟨rfl, hb2⟩
        replace hb2 : Bel wr w2 := hb2 ▸ Bel.refl _
        have HB2 := Lib.hid (HB.out.trans hb2)
        have HBB := Lib.hid hb2
        clear hb2 hc lcell
        have hm1 : R.length + 1 ≤ maxLen := by unfold maxLen; omega
        have hm2 : (R.length + 1) * 8 ≤ 140737488355328 := by omega
        have hm3 : w.heap.size ≤ (w2.alloc (.cells #[.int .i64 (x : Int)] 3)).heap.size := by have := HB2.out.size; simp; omega
        go_wp2_with (at_builtin; refine wpList_append_own _ rfl _ _ 32 rfl w.heap.size 3 i0 (.int .i64 0) 1 8 Try.underlying32 hi hz0 hz1 hz2 rfl (by decide) _ _ _ rfl ((ownsRow_bel HO.out HBB.out).alloc _) ⟨w2.heap.size, 0, none⟩ 1 1 [.int .i64 (x : Int)] rfl rfl (one_new _ _ _) (by simp [Value.oneCell']) hm1 hm2 hm3 ?_; intro v' w3 hown2 hgrow _; have HO2 := Lib.hid hown2; have HB3 := Lib.hid ((HB2.out.alloc _).grown hgrow (fun k hk => (HO.out.lt k hk).1)); clear hown2 hgrow)
        go_roundw
        case rel =>
          refine ⟨k + 1, by omega, by go_num, ?_, HB3.out⟩
          rw [HS.out]
          have h := HO2.out
          simpa [valsOf] using h
        case measure => simp [intOf]; omega
      · go_wp2_with fail
        refine hc.mono ?_
        rintro e w2 ⟨rfl, hb2⟩
        replace hb2 : Bel wr w2 := hb2 ▸ Bel.refl _
        have HB2 := Lib.hid (HB.out.trans hb2)
        have HBB := Lib.hid hb2
        clear hb2 hc lcell
        go_wp2_with fail
        go_roundw
        case rel =>
          refine ⟨k + 1, by omega, by go_num, ?_, HB2.out⟩
          rw [HS.out]
          have h := ownsRow_bel HO.out HBB.out
          simpa using h
        case measure => simp [intOf]; omega
    · obtain rfl : k = l.length := by omega
      have HO := Lib.hid ho
      have HB := Lib.hid hb
      clear ho hb hlt
      go_wp2
      go_ret
      have h := HO.out
      rw [List.take_length] at h
      refine ⟨_, rfl, own_cols (base := w.heap.size) h, fun hne => ?_, HB.out⟩
      obtain ⟨_, ⟨_, h0⟩ | ⟨g, cap, cur, e, hg, _⟩⟩ := h
      · exact absurd (List.length_eq_zero_iff.1 h0) hne
      · exact ⟨g, 0, _, cap, e, hg⟩

end Go.Proofs.Ytpkadofgmhninaa
namespace Go.Proofs.Ytpkadofgmhninaa
open Go.RowKit
attribute [local go_sem] Oper.semAt_some

theorem PlanOk.more {n : Nat} {p : Rounds} (hp : PlanOk n p) {cs r : List Nat} (hc : Cl n cs) (h : r ∈ CSet.parts [] (dropOut cs p.flatten)) : PlanOk n (p ++ [r]) := by
  obtain ⟨t, et, h1, h2⟩ := parts_mem _ _ _ h
  rw [List.nil_append] at et
  subst et
  have hsub : r.Sublist cs := h2.trans List.filter_sublist
  have ha : Cl n r := ⟨fun c hm => hc.1 c (hsub.subset hm), hc.2.sublist hsub⟩
  refine ⟨fun r hr => ?_, fun r hr => ?_, ?_⟩
  · rcases List.mem_append.1 hr with h | h
    · exact hp.some_ r h
    · simp at h; subst h; exact h1
  · rcases List.mem_append.1 hr with h | h
    · exact hp.asc r h
    · simp at h; subst h; exact ha
  · rw [List.flatten_append, List.nodup_append]
    refine ⟨hp.once, by rw [List.flatten_singleton]; exact ha.2, fun x hx y hy e => ?_⟩
    subst e
    simp at hy
    exact (dropOut_mem.1 (h2.subset hy)).2 hx

/-- Rounds all of whose blocks lie from n on; hs are the rounds as Go holds them. -/
structure RndsH (n : Nat) (hs : List Value) (w : World) (v : Value) (p : Rounds) : Prop where
  vals : Vals w v hs
  len : hs.length = p.length
  from_ : p ≠ [] → FromB n v
  each : ∀ i, i < p.length → FromB n (hs.getD i undef) ∧ Cols w (hs.getD i undef) (p.getD i [])
theorem RndsH.rnds {n : Nat} {hs : List Value} {w : World} {v : Value} {p : Rounds} (h : RndsH n hs w v p) : Rnds w v p := by
  obtain ⟨⟨a, c, rfl, h1, h2, h3, h4⟩, h5, h6, h7⟩ := h
  rw [h5] at h1 h4 ⊢
  refine ⟨a, c, rfl, h1, h2, h3, fun i hi => ?_⟩
  obtain ⟨b, off, e, q⟩ := h4 i hi
  exact ⟨b, off, _, e, q, (h7 i hi).2⟩
theorem Vals.quiet {n : Nat} {A B : World} (h : Quiet n A B) {v : Value} {xs : List Value} (hx : Vals A v xs) : Vals B v xs := by
  obtain ⟨a, c, e, h1, h2, h3, h4⟩ := hx
  refine ⟨a, c, e, h1, h2, h3, fun i hi => ?_⟩
  obtain ⟨b, off, e', q⟩ := h4 i hi
  exact ⟨b, off, e', h.cell q⟩
theorem RndsH.quiet {n m : Nat} {hs : List Value} {A B : World} {v : Value} {p : Rounds} (h : RndsH n hs A v p) (q : Quiet m A B) : RndsH n hs B v p := by
  obtain ⟨h1, h2, h3, h4⟩ := h
  exact ⟨h1.quiet q, h2, h3, fun i hi => ⟨(h4 i hi).1, (h4 i hi).2.quiet q⟩⟩
theorem RndsH.bel {n : Nat} {hs : List Value} {A B : World} {v : Value} {p : Rounds} (h : RndsH n hs A v p) (q : Bel A B) : RndsH n hs B v p := h.quiet (q.quiet 0)
theorem FromB.keepCols {n : Nat} {A B : World} {v : Value} {l : List Nat} (hf : FromB n v) (hx : Cols A v l) (h : KeepFrom n A B) : Cols B v l := by
  obtain ⟨b, off, k, c, rfl, hb⟩ := hf
  exact hx.keep h hb
theorem FromB.keepVals {n : Nat} {A B : World} {v : Value} {l : List Value} (hf : FromB n v) (hx : Vals A v l) (h : KeepFrom n A B) : Vals B v l := by
  obtain ⟨b, off, k, c, rfl, hb⟩ := hf
  obtain ⟨a, c', e, h1, h2, h3, h4⟩ := hx
  refine ⟨a, c', e, h1, h2, h3, fun i hi => ?_⟩
  obtain ⟨b', off', e', q⟩ := h4 i hi
  subst e'
  injection e with e1 e2 e3
  injection e1 with e1
  injection e1 with e1 e4
  subst e1
  exact ⟨_, _, rfl, h.cell hb q⟩
theorem FromB.mono {n m : Nat} {v : Value} (h : FromB n v) (hm : m ≤ n) : FromB m v := by
  obtain ⟨b, off, k, c, e, hb⟩ := h
  exact ⟨b, off, k, c, e, by omega⟩
theorem RndsH.keep {n : Nat} {hs : List Value} {A B : World} {v : Value} {p : Rounds} (h : RndsH n hs A v p) (q : KeepFrom n A B) : RndsH n hs B v p := by
  obtain ⟨h1, h2, h3, h4⟩ := h
  refine ⟨?_, h2, h3, fun i hi => ⟨(h4 i hi).1, (h4 i hi).1.keepCols (h4 i hi).2 q⟩⟩
  by_cases e : p = []
  · subst e
    obtain ⟨a, c, e, k1, k2, k3, k4⟩ := h1
    exact ⟨a, c, e, k1, k2, k3, fun i hi => by rw [h2] at hi; simp at hi⟩
  · exact (h3 e).keepVals h1 q
theorem rndsH_nil (n : Nat) (w : World) : RndsH n [] w (.slice none 0 0) [] :=
  ⟨⟨none, 0, rfl, Nat.le_refl _, Nat.zero_le _, fun _ => rfl, nofun⟩, rfl, fun h => absurd rfl h, nofun⟩
theorem FromB.one {n : Nat} {v : Value} (h : FromB n v) : v.oneCell' = true := by obtain ⟨b, off, k, c, rfl, _⟩ := h; rfl

theorem flat_any (v : Value) (p : Rounds) (w : World) (h : Rnds w v p) (hl : p.flatten.length ≤ 1000000) : Calls Try.prog 46 #[v] w fun e w' => ∃ r, e = .returned r ∧ Cols w' r p.flatten ∧ Bel w w' := by
  have e1 : (p.map fun r => r.map fun (c : Nat) => Value.int .i64 (c : Int)).flatten = p.flatten.map fun (c : Nat) => Value.int .i64 (c : Int) := by rw [List.map_flatten]
  refine (concat_int v _ w h.rows2 (fun xs hxs u hu => ?_) (by rw [e1, List.length_map]; exact hl)).mono ?_
  · obtain ⟨r, _, rfl⟩ := List.mem_map.1 hxs
    obtain ⟨c, _, rfl⟩ := List.mem_map.1 hu
    rfl
  · rintro e w' ⟨r, rfl, ho, hb⟩
    rw [e1, List.length_map] at ho
    exact ⟨r, rfl, own_cols ho, hb⟩

theorem vals_build (w : World) (x : Value) (t : TypeId) : Vals (w.alloc (.cells #[x] t)) (.slice (some ⟨w.heap.size, 0, none⟩) 1 1) [x] := vals_one w x t

theorem snoc_each {n : Nat} {W : World} {hs : List Value} {rv : Value} {p : Rounds} {x : List Nat} (hl : hs.length = p.length) (h4 : ∀ i, i < p.length → FromB n (hs.getD i undef) ∧ Cols W (hs.getD i undef) (p.getD i []))
    (hr : Cols W rv x) (hf : FromB n rv) : ∀ i, i < (p ++ [x]).length → FromB n ((hs ++ [rv]).getD i undef) ∧ Cols W ((hs ++ [rv]).getD i undef) ((p ++ [x]).getD i []) := by
  intro i hi
  by_cases e : i < p.length
  · have e2 : (hs ++ [rv]).getD i undef = hs.getD i undef := by simp [List.getD, List.getElem?_append_left (show i < hs.length by omega)]
    have e3 : (p ++ [x]).getD i [] = p.getD i [] := by simp [List.getD, List.getElem?_append_left e]
    rw [e2, e3]
    exact h4 i e
  · have : i = p.length := by simp at hi; omega
    subst this
    have e2 : (hs ++ [rv]).getD p.length undef = rv := by rw [← hl]; simp [List.getD]
    have e3 : (p ++ [x]).getD p.length [] = x := by simp [List.getD]
    rw [e2, e3]
    exact ⟨hf, hr⟩

theorem concat_plan (n : Nat) (W : World) (v rv : Value) (p : Rounds) (x : List Nat) (hs : List Value) (hr2 : Rows2 W v [hs, [rv]]) (hl : hs.length = p.length) (h4 : ∀ i, i < p.length → FromB n (hs.getD i undef) ∧ Cols W (hs.getD i undef) (p.getD i []))
    (hr : Cols W rv x) (hf : FromB n rv) (hn : n ≤ W.heap.size) (hlen : p.length ≤ 1000) :
    Calls Try.prog 104 #[v] W fun e w' => ∃ r, e = .returned r ∧ RndsH n (hs ++ [rv]) w' r (p ++ [x]) ∧ FromB W.heap.size r ∧ Bel W w' := by
  have e1 : ([hs, [rv]] : List (List Value)).flatten = hs ++ [rv] := by simp
  have hmem : ∀ u, u ∈ hs → FromB n u := fun u hu => by
    obtain ⟨i, hi, rfl⟩ := List.getElem_of_mem hu
    have := (h4 i (by omega)).1
    rw [getD_lt _ _ _ hi] at this
    exact this
  refine (concat_ints v [hs, [rv]] W hr2 (fun xs hxs u hu => ?_) (by rw [e1]; simp; omega)).mono ?_
  · simp only [List.mem_cons, List.not_mem_nil, or_false] at hxs
    rcases hxs with rfl | rfl
    · exact (hmem u hu).one
    · simp at hu; subst hu; exact hf.one
  · rintro e w' ⟨r, rfl, ho, hb⟩
    rw [e1] at ho
    have hfr : FromB W.heap.size r := by
      obtain ⟨_, ⟨_, h0⟩ | ⟨g, cap, cur, e, hg, _⟩⟩ := ho
      · simp at h0
      · exact ⟨g, 0, _, cap, e, hg⟩
    exact ⟨r, rfl, ⟨own_vals ho, by simp [hl], fun _ => hfr.mono hn, snoc_each hl (fun i hi => ⟨(h4 i hi).1, (h4 i hi).2.bel hb⟩) (hr.bel hb) hf⟩, hfr, hb⟩

structure AfterD (n B1 B2 : Nat) (s : CSet) (cs : List Nat) (pv ev cv bv : Value) (hs : List Value) (p : Rounds) (W : World) : Prop where
  size : n ≤ W.heap.size
  sign : C5 W B1 pv (.int .i64 s.near) (.int .i64 s.give) ev cv
  box : Boxed W B2 35 bv
  paints : Paints W pv s.paints
  pairs : Pairs W ev s.eats
  cols : Cols W cv cs
  begun : RndsH n hs W bv p
theorem AfterD.quiet {n B1 B2 m : Nat} {s : CSet} {cs : List Nat} {pv ev cv bv : Value} {hs : List Value} {p : Rounds} {A B : World} (h : AfterD n B1 B2 s cs pv ev cv bv hs p A) (q : Quiet m A B) : AfterD n B1 B2 s cs pv ev cv bv hs p B :=
  ⟨Nat.le_trans h.size q.size, q.c5 h.sign, q.boxed h.box, q.paints h.paints, q.pairs h.pairs, h.cols.quiet q, h.begun.quiet q⟩
theorem AfterD.bel {n B1 B2 : Nat} {s : CSet} {cs : List Nat} {pv ev cv bv : Value} {hs : List Value} {p : Rounds} {A B : World} (h : AfterD n B1 B2 s cs pv ev cv bv hs p A) (q : Bel A B) : AfterD n B1 B2 s cs pv ev cv bv hs p B := h.quiet (q.quiet 0)
theorem AfterD.fd {n B1 B2 : Nat} {s : CSet} {cs : List Nat} {pv ev cv bv : Value} {hs : List Value} {p : Rounds} {A : World} (h : AfterD n B1 B2 s cs pv ev cv bv hs p A) : Fd A pv ev bv s p := ⟨h.paints, h.pairs, h.begun.rnds⟩

theorem after_any (pa : Option Addr) (pn pc : Nat) (x y : Int) (ea : Option Addr) (en ec : Nat) (ca : Option Addr) (cn cc : Nat) (ba : Option Addr) (bn bc : Nat) (w : World) :
    Calls Try.prog 90 #[.agg #[.slice pa pn pc, .int .i64 x, .int .i64 y, .slice ea en ec, .slice ca cn cc], .slice ba bn bc] w fun e w' =>
      e = .returned (.func (.func 102) #[] #[.pointer (some ⟨w.heap.size, 0, none⟩), .pointer (some ⟨w.heap.size + 1, 0, none⟩)]) ∧
      (w.alloc (.cells #[.slice pa pn pc, .int .i64 x, .int .i64 y, .slice ea en ec, .slice ca cn cc] 106)).alloc (.cells #[.slice ba bn bc] 35) = w' := by
  go_enter Try.func90, Try.ntmps90
  go_wp2
  go_ret
  exact ⟨rfl, rfl⟩

def EPlan (n : Nat) (W : World) (vs : Array Value) (p : Rounds) : Prop := ∃ v hs, vs = #[v] ∧ RndsH n hs W v p

/-- What a round leaves of what is laid behind N is enough. -/
theorem AfterD.next {n N B1 B2 C1 C2 : Nat} {s : CSet} {cs : List Nat} {pv ev cv bv qv rv : Value} {hs : List Value} {p : Rounds} {r : List Nat} {A B : World} (h0 : AfterD n C1 C2 s cs pv ev cv qv (hs ++ [rv]) (p ++ [r]) A) (h1 : AfterD n B1 B2 s cs pv ev cv bv hs p B)
    (k : KeepFrom N A B) (hc1 : N ≤ C1) (hc2 : N ≤ C2) (hq : FromB N qv) (hrN : FromB N rv) (hrn : FromB n rv) : AfterD n C1 C2 s cs pv ev cv qv (hs ++ [rv]) (p ++ [r]) B :=
  have hr : Cols A rv r := by
    have h := (h0.begun.each p.length (by simp)).2
    have e2 : (hs ++ [rv]).getD p.length undef = rv := by rw [← h1.begun.len]; simp [List.getD]
    have e3 : (p ++ [r]).getD p.length [] = r := by simp [List.getD]
    rw [e2, e3] at h
    exact h
  ⟨h1.size, h0.sign.keep k hc1, k.boxed hc2 h0.box, h1.paints, h1.pairs, h1.cols, hq.keepVals h0.begun.vals k, h0.begun.len, h0.begun.from_, snoc_each h1.begun.len h1.begun.each (hrN.keepCols hr k) hrn⟩

theorem after_boxes {w w' : World} {a b c d e x : Value} {t u : TypeId} (h : (w.alloc (.cells #[a, b, c, d, e] t)).alloc (.cells #[x] u) = w') : C5 w' w.heap.size a b c d e ∧ Boxed w' (w.heap.size + 1) u x ∧ Bel w w' := by
  subst h
  have h1 := Boxed.new (w.alloc (.cells #[a, b, c, d, e] t)) u x
  rw [World.size_alloc] at h1
  exact ⟨(C5.new w a b c d e t).bel ((Bel.refl _).alloc _), h1, ((Bel.refl w).alloc _).alloc _⟩
theorem flatMap_two {α β : Type} {g : α → List β} {pre xs : List α} {r : α} {q : List β} (h : pre ++ [r] <+: xs) (hq : q <+: g r) : pre.flatMap g ++ q <+: xs.flatMap g := by
  obtain ⟨t, rfl⟩ := h
  obtain ⟨u, hu⟩ := hq
  exact ⟨u ++ t.flatMap g, by simp [List.flatMap_append, ← hu]⟩
theorem cols_nil (w : World) : Cols w (.slice none 0 0) [] := ⟨none, 0, rfl, Nat.le_refl _, Nat.zero_le _, fun _ => rfl, nofun⟩

end Go.Proofs.Ytpkadofgmhninaa
