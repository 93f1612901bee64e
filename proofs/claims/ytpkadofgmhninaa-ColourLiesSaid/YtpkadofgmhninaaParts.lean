/- The parts of a list are yielded one after another. -/
import Derived.Test.YtpkadofgmhninaaMarks
namespace Go.Proofs.Ytpkadofgmhninaa
open Go.RowKit
attribute [local go_sem] Oper.semAt_some

def FromB (n : Nat) (v : Value) : Prop := ∃ b off k c, v = .slice (some ⟨b, off, none⟩) k c ∧ n ≤ b
def EPart (n : Nat) (W : World) (vs : Array Value) (x : List Nat) : Prop := ∃ v, vs = #[v] ∧ Cols W v x ∧ FromB n v
def valsOf (l : List Nat) : List Value := l.map fun (c : Nat) => Value.int .i64 (c : Int)

def partsUpTo (b l : List Nat) (k : Nat) : List (List Nat) := (List.range k).flatMap fun i => (b ++ [l.getD i 0]) :: CSet.parts (b ++ [l.getD i 0]) (l.drop (i + 1))
theorem parts_eq (b : List Nat) : ∀ l, CSet.parts b l = partsUpTo b l l.length
  | [] => rfl
  | x :: xs => by
    have ih := parts_eq b xs
    unfold partsUpTo at *
    rw [List.length_cons, List.range_succ_eq_map, List.flatMap_cons, List.flatMap_map]
    simp only [CSet.parts, List.getD_cons_zero, List.drop_succ_cons, List.drop_zero, List.getD_cons_succ, Nat.succ_eq_add_one]
    rw [ih]; simp
theorem partsUpTo_succ (b l : List Nat) (k : Nat) : partsUpTo b l (k + 1) = partsUpTo b l k ++ ((b ++ [l.getD k 0]) :: CSet.parts (b ++ [l.getD k 0]) (l.drop (k + 1))) := by
  unfold partsUpTo; rw [List.range_succ, List.flatMap_append]; simp
theorem partsUpTo_pre (b l : List Nat) (k : Nat) (hk : k ≤ l.length) : partsUpTo b l k <+: CSet.parts b l := by
  rw [parts_eq]
  unfold partsUpTo
  obtain ⟨d, hd⟩ : ∃ d, l.length = k + d := ⟨l.length - k, by omega⟩
  rw [hd, List.range_add, List.flatMap_append]
  exact List.prefix_append _ _

theorem vals_one (w : World) (x : Value) (t : TypeId) : Vals (w.alloc (.cells #[x] t)) (.slice (some ⟨w.heap.size, 0, none⟩) 1 1) [x] := by
  refine ⟨_, 1, rfl, Nat.le_refl _, by decide, nofun, fun i hi => ⟨w.heap.size, 0, rfl, ?_⟩⟩
  have : i = 0 := by simpa using hi
  subst this
  have h := World.alloc_heap_new w (.cells #[x] t)
  simp only [World.cell?, h]; rfl
theorem rows2_two (w : World) (v1 v2 : Value) (t : TypeId) (xs ys : List Value) (h1 : Vals w v1 xs) (h2 : Vals w v2 ys) : Rows2 (w.alloc (.cells #[v1, v2] t)) (.slice (some ⟨w.heap.size, 0, none⟩) 2 2) [xs, ys] := by
  have hb := (Bel.refl w).alloc (.cells #[v1, v2] t)
  have h := World.alloc_heap_new w (.cells #[v1, v2] t)
  refine ⟨[v1, v2], ⟨_, 2, rfl, Nat.le_refl _, by decide, nofun, fun i hi => ⟨w.heap.size, 0, rfl, ?_⟩⟩, rfl, fun i hi => ?_⟩
  · have : i = 0 ∨ i = 1 := by simp at hi; omega
    simp only [World.cell?, h]
    rcases this with rfl | rfl <;> rfl
  · have : i = 0 ∨ i = 1 := by simp at hi; omega
    rcases this with rfl | rfl
    · exact h1.bel hb
    · exact h2.bel hb
theorem Cols.vals {w : World} {v : Value} {l : List Nat} (h : Cols w v l) : Vals w v (valsOf l) := by
  have := Vals.ints.1 h
  rw [List.map_map] at this
  exact this
theorem Cols.drop {w : World} {a : Option Addr} {n c : Nat} {l : List Nat} (h : Cols w (.slice a n c) l) : n = l.length := by
  obtain ⟨a', c', e, _⟩ := h
  injection e with e1 e2 e3
  rw [e2, List.length_map]

theorem concat_two (w : World) (v1 : Value) (x : Nat) (b : List Nat) (h1 : Cols w v1 b) (hlen : b.length < 1000) :
    Calls Try.prog 46 #[.slice (some ⟨w.heap.size + 1, 0, none⟩) 2 2] ((w.alloc (.cells #[.int .i64 (x : Int)] 3)).alloc (.cells #[v1, .slice (some ⟨w.heap.size, 0, none⟩) 1 1] 32)) fun e w' =>
      ∃ r, e = .returned r ∧ Cols w' r (b ++ [x]) ∧ FromB w.heap.size r ∧ Bel w w' := by
  have hb := (Bel.refl w).alloc (.cells #[.int .i64 (x : Int)] 3)
  have h2 := rows2_two (w.alloc (.cells #[.int .i64 (x : Int)] 3)) v1 (.slice (some ⟨w.heap.size, 0, none⟩) 1 1) 32 (valsOf b) [.int .i64 (x : Int)] (h1.bel hb).vals (vals_one _ _ _)
  rw [World.size_alloc] at h2
  have e1 : ([valsOf b, [.int .i64 (x : Int)]] : List (List Value)).flatten = (b ++ [x]).map fun (c : Nat) => Value.int .i64 (c : Int) := by simp [valsOf]
  have := concat_int _ _ _ h2 (by
    intro xs hxs u hu
    simp only [List.mem_cons, List.not_mem_nil, or_false] at hxs
    rcases hxs with rfl | rfl
    · obtain ⟨c, _, rfl⟩ := List.mem_map.1 hu; rfl
    · simp at hu; subst hu; rfl) (by rw [e1]; simp; omega)
  refine this.mono ?_
  rintro e w' ⟨r, rfl, ho, hbw⟩
  rw [e1] at ho
  have ho' := ho
  rw [List.length_map] at ho
  refine ⟨r, rfl, own_cols ho, ?_, (hb.alloc _).trans hbw⟩
  obtain ⟨_, ⟨_, h0⟩ | ⟨g, cap, cur, rfl, hg, _⟩⟩ := ho'
  · simp at h0
  · exact ⟨g, 0, _, cap, rfl, by simp at hg; omega⟩

theorem parts_any (a1 : Option Addr) (n1 c1 : Nat) (a2 : Option Addr) (n2 c2 : Nat) (w : World) : Calls Try.prog 71 #[.slice a1 n1 c1, .slice a2 n2 c2] w fun e w' => e = .returned (.func (.func 91) #[] #[.pointer (some ⟨w.heap.size + 1, 0, none⟩), .pointer (some ⟨w.heap.size, 0, none⟩)]) ∧
    (w.alloc (.cells #[.slice a1 n1 c1] 32)).alloc (.cells #[.slice a2 n2 c2] 32) = w' := by
  go_enter Try.func71, Try.ntmps71
  go_wp2
  go_ret
  exact ⟨rfl, rfl⟩

structure PartD (n B1 B2 : Nat) (lv bv : Value) (l b : List Nat) (W : World) : Prop where
  size : n ≤ W.heap.size
  boxl : Boxed W B1 32 lv
  boxb : Boxed W B2 32 bv
  list : Cols W lv l
  begun : Cols W bv b
theorem Cols.quiet {n : Nat} {A B : World} (h : Quiet n A B) {v : Value} {l : List Nat} (hx : Cols A v l) : Cols B v l := Quiet.ints h hx
theorem PartD.quiet {n B1 B2 : Nat} {lv bv : Value} {l b : List Nat} {A B : World} {m : Nat} (h : PartD n B1 B2 lv bv l b A) (q : Quiet m A B) : PartD n B1 B2 lv bv l b B :=
  ⟨Nat.le_trans h.size q.size, q.boxed h.boxl, q.boxed h.boxb, h.list.quiet q, h.begun.quiet q⟩
theorem PartD.bel {n B1 B2 : Nat} {lv bv : Value} {l b : List Nat} {A B : World} (h : PartD n B1 B2 lv bv l b A) (q : Bel A B) : PartD n B1 B2 lv bv l b B := h.quiet (q.quiet 0)
theorem Cols.keep {n : Nat} {A B : World} {b off k c : Nat} {l : List Nat} (hx : Cols A (.slice (some ⟨b, off, none⟩) k c) l) (h : KeepFrom n A B) (hn : n ≤ b) : Cols B (.slice (some ⟨b, off, none⟩) k c) l := by
  obtain ⟨a', c', e, h1, h2, h3, h4⟩ := hx
  refine ⟨a', c', e, h1, h2, h3, fun i hi => ?_⟩
  obtain ⟨b', off', e', q⟩ := h4 i hi
  subst e'
  injection e with e1 e2 e3
  injection e1 with e1
  injection e1 with e5 e6
  subst e5
  exact ⟨_, _, rfl, h.cell hn q⟩
theorem cols_none (w : World) (b off : Nat) (l : List Nat) (k : Nat) (h : l.length ≤ k) : Cols w (.slice (some ⟨b, off, none⟩) (l.length - k) 0) (l.drop k) := by
  refine ⟨some ⟨b, off, none⟩, 0, by rw [List.length_map, List.length_drop], by rw [List.length_map, List.length_drop]; omega, Nat.zero_le _, nofun, fun i hi => ?_⟩
  rw [List.length_map, List.length_drop] at hi
  omega
theorem two_boxes {w w' : World} {x y : Value} {t u : TypeId} (h : (w.alloc (.cells #[x] t)).alloc (.cells #[y] u) = w') : Boxed w' (w.heap.size + 1) u y ∧ Boxed w' w.heap.size t x ∧ Bel w w' ∧ w'.heap.size = w.heap.size + 2 := by
  subst h
  have h1 := Boxed.new (w.alloc (.cells #[x] t)) u y
  rw [World.size_alloc] at h1
  exact ⟨h1, (Boxed.new w t x).alloc _, ((Bel.refl w).alloc _).alloc _, by simp⟩
theorem Marks.quiet2 {n m : Nat} {ds : List Nat} {A B : World} (h : Marks n ds A) (k : Quiet m A B) (hm : ∀ d, d ∈ ds → d < m) : Marks n ds B :=
  ⟨h.1, fun d hd => ⟨(h.2 d hd).1, k.same _ _ (h.2 d hd).2 (.inl (hm d hd))⟩⟩
theorem Cols.dropped {w : World} {a : Option Addr} {c : Nat} {l : List Nat} (h : Cols w (.slice a l.length c) l) (k : Nat) (hk : k ≤ l.length) (b off : Nat) (ha : a = some ⟨b, off, none⟩) :
    Cols w (.slice (some ⟨b, off + k, none⟩) (l.length - k) (c - k)) (l.drop k) := by
  subst ha
  obtain ⟨a', c', e, h1, h2, h3, h4⟩ := h
  injection e with e1 e2 e3
  subst e1
  subst e3
  rw [List.length_map] at h1 h4
  refine ⟨some ⟨b, off + k, none⟩, c - k, by rw [List.length_map, List.length_drop], by rw [List.length_map, List.length_drop]; omega, by omega, nofun, fun i hi => ⟨b, off + k, rfl, ?_⟩⟩
  rw [List.length_map, List.length_drop] at hi
  obtain ⟨b', off', e4, q⟩ := h4 (k + i) (by omega)
  injection e4 with e4
  injection e4 with e5 e6
  subst e5 e6
  rw [getD_map _ _ (by omega)] at q
  rw [getD_map _ _ (by rw [List.length_drop]; omega), Nat.add_assoc, q]
  congr 3
  rw [getD_lt _ _ _ (by omega), getD_lt _ _ _ (by rw [List.length_drop]; omega), List.getElem_drop]

set_option maxRecDepth 100000 in
set_option maxHeartbeats 4000000 in
theorem parts1_seq (n : Nat) (m : Nat) : ∀ (l b : List Nat) (lv bv : Value) (B1 B2 : Nat), l.length = m → b.length + l.length ≤ 20 →
    SeqQ 91 #[] #[.pointer (some ⟨B1, 0, none⟩), .pointer (some ⟨B2, 0, none⟩)] (EPart n) (CSet.parts b l) (PartD n B1 B2 lv bv l b) := by
  induction m using Nat.strongRecOn with
  | _ m ih =>
  intro l b lv bv B1 B2 hm hbl L J Jx W hD hJ hJx hY h0
  have HD := Lib.hid hD
  have HJ := Lib.hid hJ
  have HJx := Lib.hid hJx
  have HY := Lib.hid hY
  have H0 := Lib.hid h0
  have IH := Lib.hid ih
  have HM := Lib.hid hm
  clear hD hJ hJx hY h0 ih hm
  refine (callsIn_wide (n := 0)).1 (callsIn_of_wp_marks Try.func91 rfl trivial ?_ rfl)
  simp only [Try.ntmps91, List.size_toArray, List.length_cons, List.length_nil, Nat.reduceAdd, Nat.reduceSub, Array.replicate_succ, Array.replicate_zero, List.push_toArray, List.append_toArray, List.nil_append, List.cons_append]
  have hw0 := (Bel.refl W).alloc (.cells #[.func (.yield L) #[] #[]] 109)
  have HW0 := Lib.hid hw0
  have hcl := (hw0.boxed HD.out.boxl).cell
  obtain ⟨la, lc, rfl, hl1, hl2, -, -⟩ := HD.out.list
  obtain ⟨ba, bc, rfl, hb1, hb2, -, -⟩ := HD.out.begun
  unfold maxLen at hl2 hb2
  rw [List.length_map] at hl1 hb1
  simp only [List.length_map] at HD HJ HJx HY H0 hcl ⊢
  have HBX := Lib.hid (Boxed.new W 109 (.func (.yield L) #[] #[]))
  clear hw0
  gi_wp2_with fail
  refine wpIn_loop (fun a' w' => ∃ (u4 u5 u6 u7 u10 u11 u12 u13 u14 u15 u16 u17 u18 u19 u20 u21 u22 u23 u24 u25 u26 u27 u28 u29 u30 u31 u32 u33 u34 u35 : Value) (k : Nat) (ds : List Nat), (u10 = .int .i64 (k : Int) ∧ k ≤ l.length ∧ J (partsUpTo b l k) w' ∧ PartD n B1 B2 (.slice la l.length lc) (.slice ba b.length bc) l b w' ∧ Boxed w' W.heap.size 109 (.func (.yield L) #[] #[]) ∧ Marks W.heap.size ds w') ∧
    a' = { tmps := #[Value.func (Fn.yield L) #[] #[], .pointer (some ⟨B1, 0, none⟩), .pointer (some ⟨B2, 0, none⟩), .pointer (some ⟨W.heap.size, 0, none⟩), u4, u5, u6, u7, .slice la l.length lc, .int .i64 (l.length : Int), u10, u11, u12, u13, u14, u15, u16, u17, u18, u19, u20, u21, u22, u23, u24, u25, u26, u27, u28, u29, u30, u31, u32, u33, u34, u35], defers := ds.map mark }) (fun a' _ => l.length - (intOf (a'.tmps.getD 10 undef)).toNat) ?_ ?_
  · refine ⟨_, _, _, _, _, _, _, _, _, _, _, _, _, _, _, _, _, _, _, _, _, _, _, _, _, _, _, _, _, _, 0, [], ⟨rfl, Nat.zero_le _, ?_, HD.out.bel HW0.out, HBX.out, ⟨List.nodup_nil, nofun⟩⟩, rfl⟩
    exact HJ.out _ _ _ H0.out (HW0.out.quiet _)
  · rintro a' wr ⟨u4, u5, u6, u7, u10, u11, u12, u13, u14, u15, u16, u17, u18, u19, u20, u21, u22, u23, u24, u25, u26, u27, u28, u29, u30, u31, u32, u33, u34, u35, k, ds, ⟨rfl, hk, hj, hd, hbx, hmk⟩, rfl⟩
    have HJ1 := Lib.hid hj
    have HD1 := Lib.hid hd
    have HB1 := Lib.hid hbx
    have HM1 := Lib.hid hmk
    have hbc := hbx.cell
    have hbb := hd.boxb.cell
    have hbl2 := hd.boxl.cell
    clear hj hd hbx hmk hcl
    by_cases hlt : k < l.length
    · obtain ⟨lb, loff, rfl, lcell⟩ := HD1.out.list.cellAt hlt
      generalize hx : l.getD k 0 = x at *
      have HX := Lib.hid hx
      clear hx
      have HPR := Lib.hid (show partsUpTo b l k ++ [b ++ [x]] <+: CSet.parts b l from by
        refine List.IsPrefix.trans ?_ (partsUpTo_pre b l (k + 1) hlt)
        rw [partsUpTo_succ, HX.out]
        exact ⟨CSet.parts (b ++ [x]) (l.drop (k + 1)), by simp⟩)
      have HPR2 := Lib.hid (fun pre (h : pre <+: CSet.parts (b ++ [x]) (l.drop (k + 1))) => show partsUpTo b l k ++ [b ++ [x]] ++ pre <+: CSet.parts b l from by
        refine List.IsPrefix.trans ?_ (partsUpTo_pre b l (k + 1) hlt)
        rw [partsUpTo_succ, HX.out]
        obtain ⟨t, ht⟩ := h
        exact ⟨t, by rw [← ht]; simp⟩)
      gi_wp2_with fail
      refine ⟨trivial, rfl, (callsW (concat_two wr _ x b HD1.out.begun (by omega))).mono ?_⟩
      rintro e w1 ⟨r, rfl, hcol, hfr, hw1⟩
      have HW1 := Lib.hid hw1
      have HJ2 := Lib.hid (HJ.out _ _ _ HJ1.out (hw1.quiet _))
      have HD2 := Lib.hid (HD1.out.bel hw1)
      have HB2 := Lib.hid (hw1.boxed HB1.out)
      have HM2 := Lib.hid (HM1.out.bel hw1)
      have hWr : W.heap.size ≤ wr.heap.size := by have := HB1.out.lt; omega
      have hnr := HD1.out.size
      obtain ⟨pb, poff, pk, pc, rfl, hpb⟩ := hfr
      have HCOL := Lib.hid hcol
      have hpk : pk = b.length + 1 := by simpa using hcol.drop
      subst hpk
      have HFR : Hid (FromB n (.slice (some ⟨pb, poff, none⟩) (b.length + 1) pc)) := Lib.hid ⟨pb, poff, _, _, rfl, by omega⟩
      obtain ⟨fn, tmps, assign, body, hyr, hR⟩ := HY.out (partsUpTo b l k) (b ++ [x]) #[.slice (some ⟨pb, poff, none⟩) (b.length + 1) pc] w1 HJ2.out HD2.out HPR.out ⟨_, rfl, HCOL.out, HFR.out⟩
      have hbx2 := HB2.out.cell
      clear hcol hw1 hbc hbb hbl2 lcell
      gi_wp2_with fail
      refine ⟨rfl, hR.mono ?_⟩
      rintro e W3 ⟨hd3, hk3, (⟨rfl, hJ3⟩ | ⟨rfl, hJx3⟩)⟩
      · have HD3 := Lib.hid hd3
        have HK3 := Lib.hid hk3
        have HJ3 := Lib.hid hJ3
        have HB3 := Lib.hid (hk3.boxed (Nat.le_refl _) HB2.out)
        have HM3 := Lib.hid (HM2.out.keep hk3)
        have HCOL3 := Lib.hid (HCOL.out.keep hk3 (by omega))
        have hbl3 := hd3.boxl.cell
        have hs3 := hk3.1
        have hs1 := HW1.out.size
        have HDRA := Lib.hid (hd3.list.dropped (k + 1) (by omega) lb loff rfl)
        have HDRB := Lib.hid (cols_none W3 lb loff l (k + 1))
        obtain ⟨DD, hDD1, hDD2⟩ : ∃ DD : World → Prop, (∀ w, DD w → PartD n B1 B2 (.slice (some ⟨lb, loff, none⟩) l.length lc) (.slice ba b.length bc) l b w) ∧ (∀ w, PartD n B1 B2 (.slice (some ⟨lb, loff, none⟩) l.length lc) (.slice ba b.length bc) l b w → DD w) := ⟨_, fun _ h => h, fun _ h => h⟩
        have HDD1 := Lib.hid hDD1
        have HDD2 := Lib.hid hDD2
        have HDDq := Lib.hid (fun m A B (h : DD A) (q : Quiet m A B) => hDD2 _ ((hDD1 _ h).quiet q))
        clear hR hyr hbx2 hJ3 hd3 hk3 hDD1 hDD2
        gi_wp2_with fail
        all_goals rcases Decidable.em (lc = k + 1) with rfl | hlc
        all_goals try (exfalso; omega)
        all_goals
          refine ⟨trivial, rfl, (callsW (parts_any _ _ _ _ _ _ _)).mono ?_⟩
          rintro e w4 ⟨rfl, hw4⟩
          obtain ⟨hbl4, hbb4, hw34, hz4⟩ := two_boxes hw4
          have hD4 : PartD n (W3.heap.size + 1) W3.heap.size _ _ (l.drop (k + 1)) (b ++ [x]) w4 := ⟨by have := HD3.out.size; have := hw34.size; omega, hbl4, hbb4, by first | exact HDRA.out.bel hw34 | exact (HDRB.out (by omega)).bel hw34, HCOL3.out.bel hw34⟩
          have HW34 := Lib.hid hw34
          have HD4 := Lib.hid hD4
          have HLT := Lib.hid (fun d (hd : d ∈ ds) => show d < w4.heap.size from by have := HM3.out.lt hd; omega)
          have HI0 := Lib.hid (show J (partsUpTo b l k ++ [b ++ [x]] ++ []) w4 ∧ DD w4 ∧ Boxed w4 W.heap.size 109 (.func (.yield L) #[] #[]) ∧ Marks W.heap.size ds w4 from
            ⟨by rw [List.append_nil]; exact HJ.out _ _ _ HJ3.out (hw34.quiet _), HDDq.out _ _ _ (HDD2.out _ HD3.out) (hw34.quiet 0), hw34.boxed HB3.out, HM3.out.bel hw34⟩)
          have hz5 : W.heap.size + 1 ≤ w4.heap.size := by have := HB3.out.lt; omega
          clear hbl4 hbb4 hw34 hw4 hbl3 hD4
          gi_wp2_with fail
          refine rf_outer (gf := 91) (fs := #[]) (lb := #[.pointer (some ⟨W3.heap.size + 1, 0, none⟩), .pointer (some ⟨W3.heap.size, 0, none⟩)]) rfl (enters_of Try.func91 (by kernel_rfl) rfl)
            (IH.out (l.length - (k + 1)) (by have := HM.out; omega) (l.drop (k + 1)) (b ++ [x]) _ _ _ _ (by simp) (by simp; omega)) HD4.out (fun A B h q => h.quiet q) (fun W vs x h => by obtain ⟨_, rfl, _⟩ := h; rfl)
            (fun pre w' => J (partsUpTo b l k ++ [b ++ [x]] ++ pre) w' ∧ DD w' ∧ Boxed w' W.heap.size 109 (.func (.yield L) #[] #[]) ∧ Marks W.heap.size ds w')
            (fun c _ w' => c = .ret ∧ (∃ pre, pre <+: CSet.parts b l ∧ Jx pre w') ∧ DD w' ∧ Marks W.heap.size ds w')
            (fun pre A B h q => ⟨HJ.out _ _ _ h.1 (q.mono (by omega)), HDDq.out _ _ _ h.2.1 q, q.boxed h.2.2.1, h.2.2.2.quiet2 q HLT.out⟩)
            (fun c pre A B h q => ⟨h.1, ⟨h.2.1.choose, h.2.1.choose_spec.1, HJx.out _ _ _ h.2.1.choose_spec.2 (q.mono (by omega))⟩, HDDq.out _ _ _ h.2.2.1 q, h.2.2.2.quiet2 q HLT.out⟩)
            HI0.out ?round ?done ?stop
          case stop =>
            rintro d c pre W5 hd5 _ ⟨rfl, ⟨pre', hp1, hp2⟩, hpd, hmk⟩ _ hK
            have hmk2 := hmk.cons (d := d) (by omega) (fun h => by have := HLT.out d h; omega) hK
            have HM5 := Lib.hid hmk2
            have HP1 := Lib.hid hp1
            have HP2 := Lib.hid hp2
            have HPD := Lib.hid hpd
            clear hp1 hp2 hpd hmk hmk2 hK
            gi_wp2_with fail
            refine leaves_marks W.heap.size (d :: ds) _ HM5.out (fun W6 q => leaves_out (results_none rfl _ _ _) ?_)
            exact ⟨⟨_, rfl⟩, HDD1.out _ (HDDq.out _ _ _ HPD.out q), .inr ⟨pre', HP1.out, HJx.out _ _ _ HP2.out q⟩⟩
          case done =>
            rintro d W5 hd5 ⟨hj5, hpd, hbx5, hmk⟩ _ hK
            have hmk2 := hmk.cons (d := d) (by omega) (fun h => by have := HLT.out d h; omega) hK
            have HM5 := Lib.hid hmk2
            have HPD := Lib.hid hpd
            have HJ5 := Lib.hid hj5
            have HB5 := Lib.hid hbx5
            clear hj5 hpd hbx5 hmk hmk2 hK
            gi_wp2_with fail
            refine ⟨⟨_, _, _, _, _, _, _, _, _, _, _, _, _, _, _, _, _, _, _, _, _, _, _, _, _, _, _, _, _, _, k + 1, d :: ds, ⟨by go_num, hlt, ?_, HDD1.out _ HPD.out, HB5.out, HM5.out⟩, rfl⟩, by simp [intOf]; omega⟩
            rw [partsUpTo_succ, HX.out]
            have h := HJ5.out
            rw [List.append_assoc] at h
            exact h
          case round =>
            rintro l2 pre y vs W5 hl5 ⟨hj5, hpd, hbx5, hmk⟩ hd5 hpre ⟨yv, rfl, hyc, hyf⟩
            gi_wp2_with fail
            refine ⟨Bel.refl _, fun W6 q _ _ => ?_⟩
            have HJ6 := Lib.hid (HJ.out _ _ _ hj5 (q.mono (by omega)))
            have HD6 := Lib.hid (HDDq.out _ _ _ hpd q)
            have HB6 := Lib.hid (q.boxed hbx5)
            have HM6 := Lib.hid (hmk.quiet2 q HLT.out)
            have HC6 := Lib.hid (hyc.quiet q)
            have HE6 := Lib.hid (hd5.quiet q)
            have HPY := Lib.hid (HPR2.out (pre ++ [y]) hpre)
            have hpy : (partsUpTo b l k ++ [b ++ [x]] ++ pre) ++ [y] <+: CSet.parts b l := by have h := HPY.out; rw [← List.append_assoc] at h; exact h
            obtain ⟨fn', tmps', assign', body', hyr', hR'⟩ := HY.out (partsUpTo b l k ++ [b ++ [x]] ++ pre) y #[yv] W6 HJ6.out (HDD1.out _ HD6.out) hpy ⟨_, rfl, HC6.out, hyf⟩
            have hbx6 := HB6.out.cell
            have HPX := Lib.hid hpy
            clear hj5 hpd hbx5 hmk hd5 hpre hyc q hpy
            gi_wp2_with fail
            refine ⟨rfl, (show RoundIn (Fence.wide.inRound l2) _ Try.prog L fn' tmps' assign' body' W6 _ from hR').mono ?_⟩
            rintro e W7 ⟨hd7, hk7, (⟨rfl, hJ7⟩ | ⟨rfl, hJx7⟩)⟩
            · have HD7 := Lib.hid hd7
              have HK7 := Lib.hid hk7
              have HJ7 := Lib.hid hJ7
              clear hd7 hk7 hJ7 hR' hyr' hbx6
              gi_wp2_with fail
              refine ⟨⟨by have := HE6.out.size; have := HK7.out.1; omega, HK7.out.boxed (by omega) HE6.out.boxl, HK7.out.boxed (by omega) HE6.out.boxb, by first | exact HD7.out.list.dropped (k + 1) (by omega) lb loff rfl | exact cols_none _ _ _ _ _ (by omega), HE6.out.begun.keep HK7.out (by omega)⟩,
                HK7.out.mono (by omega), ?_, HDD2.out _ HD7.out, HK7.out.boxed (Nat.le_refl _) HB6.out, HM6.out.keep HK7.out⟩
              have h := HJ7.out
              rw [List.append_assoc] at h
              exact h
            · have HD7 := Lib.hid hd7
              have HK7 := Lib.hid hk7
              have HJ7 := Lib.hid hJx7
              clear hd7 hk7 hJx7 hR' hyr' hbx6
              gi_wp2_with fail
              refine ⟨⟨by have := HE6.out.size; have := HK7.out.1; omega, HK7.out.boxed (by omega) HE6.out.boxl, HK7.out.boxed (by omega) HE6.out.boxb, by first | exact HD7.out.list.dropped (k + 1) (by omega) lb loff rfl | exact cols_none _ _ _ _ _ (by omega), HE6.out.begun.keep HK7.out (by omega)⟩,
                HK7.out.mono (by omega), rfl, ⟨_, HPX.out, HJ7.out⟩, HDD2.out _ HD7.out, HM6.out.keep HK7.out⟩
      · have HD3 := Lib.hid hd3
        have HJ3 := Lib.hid hJx3
        have HM3 := Lib.hid (HM2.out.keep hk3)
        clear hR hyr hbx2 hJx3 hd3 hk3
        gi_wp2_with fail
        refine leaves_marks W.heap.size ds _ HM3.out (fun W6 q => leaves_out (results_none rfl _ _ _) ?_)
        exact ⟨⟨_, rfl⟩, HD3.out.quiet q, .inr ⟨_, HPR.out, HJx.out _ _ _ HJ3.out q⟩⟩
    · obtain rfl : k = l.length := by omega
      have hfin := HJ1.out
      rw [← parts_eq] at hfin
      have HF := Lib.hid hfin
      clear hfin hbc hbb hbl2 hlt
      gi_wp2_with fail
      refine leaves_marks W.heap.size ds _ HM1.out (fun W6 q => leaves_out (results_none rfl _ _ _) ?_)
      exact ⟨⟨_, rfl⟩, HD1.out.quiet q, .inl (HJ.out _ _ _ HF.out q)⟩

end Go.Proofs.Ytpkadofgmhninaa
