/- How many firings a plan has, and how often each colour is fired: as the statements reckon it. -/
import Derived.Test.YtpkadofgmhninaaLaid
import Derived.Test.YtpkadofgmhninaaOwn
import Derived.Test.YtpkadofgmhninaaFirings
import Derived.Sort.BigQuietIn
namespace Go.Proofs.Ytpkadofgmhninaa
open Go.RowKit
attribute [local go_sem] Oper.semAt_some

/-- Five numbers in a block. -/
def Five (W : World) (B : Nat) (f : Nat → Int) (t : TypeId) : Prop := W.heap[B]? = some (.cells #[.int .i64 (f 0), .int .i64 (f 1), .int .i64 (f 2), .int .i64 (f 3), .int .i64 (f 4)] t (0, 0))
theorem Five.cell {W : World} {B : Nat} {f : Nat → Int} {t : TypeId} (h : Five W B f t) {c : Nat} (hc : c < 5) : W.cell? ⟨B, c, none⟩ = some (.int .i64 (f c)) ∧ W.frozen? ⟨B, c, none⟩ = false := by
  unfold Five at h
  have : c = 0 ∨ c = 1 ∨ c = 2 ∨ c = 3 ∨ c = 4 := by omega
  rcases this with rfl | rfl | rfl | rfl | rfl <;> simp [World.cell?, World.frozen?, h]
theorem Five.bel {A C : World} {B : Nat} {f : Nat → Int} {t : TypeId} (h : Five A B f t) (q : Bel A C) : Five C B f t := (q.block B (Array.getElem?_eq_some_iff.1 h).1).trans h
theorem Five.but {A C : World} {B m : Nat} {f : Nat → Int} {t : TypeId} (h : Five A B f t) (q : But m A C) (hm : B ≠ m) : Five C B f t := (q.block B (Array.getElem?_eq_some_iff.1 h).1 hm).trans h
theorem Five.set {A : World} {B : Nat} {f : Nat → Int} {t : TypeId} (h : Five A B f t) {x : Nat} (hx : x < 5) (v : Int) : Five (A.setCell ⟨B, x, none⟩ (.int .i64 v)) B (fun c => if c = x then v else f c) t := by
  unfold Five at h ⊢
  have := heap_set h x (.int .i64 v)
  rw [this]
  have hc : x = 0 ∨ x = 1 ∨ x = 2 ∨ x = 3 ∨ x = 4 := by omega
  rcases hc with rfl | rfl | rfl | rfl | rfl <;> rfl
theorem Five.ext {W : World} {B : Nat} {f g : Nat → Int} {t : TypeId} (h : Five W B f t) (e : ∀ c, c < 5 → f c = g c) : Five W B g t := by
  unfold Five at h ⊢
  rw [h, e 0 (by omega), e 1 (by omega), e 2 (by omega), e 3 (by omega), e 4 (by omega)]

/-- What the call reckons, as a value. -/
def eachV (f : Nat → Int) : Value := .agg #[.int .i64 (f 0), .int .i64 (f 1), .int .i64 (f 2), .int .i64 (f 3), .int .i64 (f 4)]

theorem most_take (s : CSet) (x : List Nat) (q : Nat) (hq : q < x.length) : s.most (x.take (q + 1)) = max (s.most (x.take q)) (s.paint (x.getD q 0)).coats := by
  unfold CSet.most
  rw [take_snocN x q hq, List.foldl_append]; rfl
theorem most_bound {s : CSet} (hs : s.Ok) (x : List Nat) (hx : ∀ c, c ∈ x → c < s.paints.length) : 0 ≤ s.most x ∧ s.most x ≤ 3 := by
  unfold CSet.most
  have key : ∀ (l : List Nat) (m : Int), (∀ c, c ∈ l → c < s.paints.length) → 0 ≤ m → m ≤ 3 → 0 ≤ l.foldl (fun m c => max m (s.paint c).coats) m ∧ l.foldl (fun m c => max m (s.paint c).coats) m ≤ 3 := by
    intro l
    induction l with
    | nil => intro m _ h1 h2; exact ⟨h1, h2⟩
    | cons c l ih =>
      intro m hl h1 h2
      have := hs.paints c (hl c (by simp))
      exact ih (max m (s.paint c).coats) (fun d hd => hl d (by simp [hd])) (by omega) (by omega)
  exact key x 0 hx (by omega) (by omega)
theorem fire_drop (s : CSet) (p : Rounds) (k : Nat) (hk : k < p.length) : s.fire (p.drop k) = (fun c => if (p.getD k []).contains c then (s.fire (p.drop (k + 1))).2 + s.most (p.getD k []) else (s.fire (p.drop (k + 1))).1 c, (s.fire (p.drop (k + 1))).2 + s.most (p.getD k [])) := by
  rw [List.drop_eq_getElem_cons hk, getD_lt _ _ _ hk]; rfl
theorem fire_le {s : CSet} (hs : s.Ok) (p : Rounds) (hp : ∀ r, r ∈ p → ∀ c, c ∈ r → c < s.paints.length) : 0 ≤ (s.fire p).2 ∧ (s.fire p).2 ≤ 3 * p.length := fire_bound s hs p hp
theorem Paints.cells {W : World} {a : Option Addr} {n c : Nat} {ps : List Paint} (h : Paints W (.slice a n c) ps) {i : Nat} (hi : i < ps.length) : ∃ b off, a = some ⟨b, off, none⟩ ∧ W.cell? ⟨b, off + i * 6, none⟩ = some (.int .i64 (ps.getD i ⟨0, 0, 0, 0, 0, 0⟩).hl) ∧ W.cell? ⟨b, off + i * 6 + 1, none⟩ = some (.int .i64 (ps.getD i ⟨0, 0, 0, 0, 0, 0⟩).hh) ∧
      W.cell? ⟨b, off + i * 6 + 2, none⟩ = some (.int .i64 (ps.getD i ⟨0, 0, 0, 0, 0, 0⟩).sl) ∧ W.cell? ⟨b, off + i * 6 + 3, none⟩ = some (.int .i64 (ps.getD i ⟨0, 0, 0, 0, 0, 0⟩).sh) ∧
      W.cell? ⟨b, off + i * 6 + 4, none⟩ = some (.int .i64 (ps.getD i ⟨0, 0, 0, 0, 0, 0⟩).coats) ∧ W.cell? ⟨b, off + i * 6 + 5, none⟩ = some (.int .i64 (ps.getD i ⟨0, 0, 0, 0, 0, 0⟩).most) := by
  obtain ⟨a', c', e, _, _, _, h3⟩ := h
  injection e with e1 e2 e3
  subst e1
  exact h3 i hi

theorem Rnds.elem {W : World} {a : Option Addr} {n c : Nat} {p : Rounds} (h : Rnds W (.slice a n c) p) {i : Nat} (hi : i < p.length) : ∃ b off rv, a = some ⟨b, off, none⟩ ∧ W.cell? ⟨b, off + i, none⟩ = some rv ∧ Cols W rv (p.getD i []) := by
  obtain ⟨a', c', e, _, _, _, h3⟩ := h
  injection e with e1 e2 e3
  subst e1
  exact h3 i hi
theorem cols_some' {W : World} {v : Value} {l : List Nat} (h : Cols W v l) : ∃ a c, v = .slice a l.length c := by
  obtain ⟨a, c, e, -⟩ := h
  rw [List.length_map] at e
  exact ⟨a, c, e⟩

set_option maxRecDepth 100000 in
set_option maxHeartbeats 16000000 in
theorem all_any (s : CSet) (hs : s.Ok) (v rv : Value) (p : Rounds) (w : World) (hv : SetV w v s) (hr : Rnds w rv p) (hp : ∀ r, r ∈ p → ∀ c, c ∈ r → c < s.paints.length) (hlen : p.length ≤ 1000) (hrl : ∀ r, r ∈ p → r.length ≤ 1000) :
    Calls Try.prog 17 #[v, rv] w fun e w' => e = .returned (.tuple #[.int .i64 (s.fire p).2, eachV (s.fire p).1]) ∧ Bel w w' := by
  obtain ⟨pv, ev, rfl, h1, h2⟩ := hv
  have HP := Lib.hid h1
  have HR := Lib.hid hr
  have HX := Lib.hid hp
  have HL := Lib.hid hrl
  have HS := Lib.hid hs
  obtain ⟨pa, pc, rfl, -, -, -, -⟩ := h1
  obtain ⟨ea, ec, rfl, -, -, -, -⟩ := h2
  obtain ⟨ra, rc, rfl, hr1, hr2, -, -⟩ := hr
  unfold maxLen at hr2
  clear hp hrl hs
  have hn5 := HS.out.n5
  refine (callsIn_wide (n := 0)).1 (callsIn_of_wp Try.func17 rfl trivial ?_ rfl)
  simp only [Try.ntmps17, List.size_toArray, List.length_cons, List.length_nil, Nat.reduceAdd, Nat.reduceSub, Array.replicate_succ, Array.replicate_zero, List.push_toArray, List.append_toArray, List.nil_append, List.cons_append]
  gi_wp2_with fail
  obtain ⟨W0, hW0⟩ : ∃ W0, ((w.alloc (.cells #[.slice pa s.paints.length pc, .int .i64 s.near, .int .i64 s.give, .slice ea s.eats.length ec] 31)).alloc (.cells #[.int .i64 0, .int .i64 0, .int .i64 0, .int .i64 0, .int .i64 0] 50)).alloc (.cells #[.int .i64 0, .int .i64 0, .int .i64 0, .int .i64 0, .int .i64 0] 50) = W0 := ⟨_, rfl⟩
  rw [hW0]
  have hb0 : Bel w W0 := by rw [← hW0]; exact (((Bel.refl w).alloc _).alloc _).alloc _
  have hc0 : C4 W0 w.heap.size (.slice pa s.paints.length pc) (.int .i64 s.near) (.int .i64 s.give) (.slice ea s.eats.length ec) := by
    rw [← hW0]; exact (C4.new _ _ _ _ _ _).bel (((Bel.refl _).alloc _).alloc _)
  have hf1 : Five W0 (w.heap.size + 1) (fun _ => 0) 50 := by
    rw [← hW0]
    have := World.alloc_heap_new (w.alloc (.cells #[.slice pa s.paints.length pc, .int .i64 s.near, .int .i64 s.give, .slice ea s.eats.length ec] 31)) (.cells #[.int .i64 0, .int .i64 0, .int .i64 0, .int .i64 0, .int .i64 0] 50)
    rw [World.size_alloc] at this
    exact Five.bel (f := fun _ => 0) this ((Bel.refl _).alloc _)
  have hf2 : Five W0 (w.heap.size + 1 + 1) (fun _ => 0) 50 := by
    rw [← hW0]
    have := World.alloc_heap_new ((w.alloc (.cells #[.slice pa s.paints.length pc, .int .i64 s.near, .int .i64 s.give, .slice ea s.eats.length ec] 31)).alloc (.cells #[.int .i64 0, .int .i64 0, .int .i64 0, .int .i64 0, .int .i64 0] 50)) (.cells #[.int .i64 0, .int .i64 0, .int .i64 0, .int .i64 0, .int .i64 0] 50)
    rw [World.size_alloc, World.size_alloc] at this
    exact this
  have HB0 := Lib.hid hb0
  have HC0 := Lib.hid hc0
  have HF1 := Lib.hid hf1
  have HF2 := Lib.hid hf2
  have HZ := Lib.hid (show W0.heap.size = w.heap.size + 3 by rw [← hW0]; simp)
  clear hW0 hb0 hc0 hf1 hf2
  gi_loopw [6, 8] (fun nv iv wr => ∃ k : Nat, k ≤ p.length ∧ iv = .int .i64 ((k : Int) - 1) ∧ nv = .int .i64 (s.fire (p.drop k)).2 ∧ Five wr (w.heap.size + 1 + 1) (s.fire (p.drop k)).1 50 ∧ But (w.heap.size + 1 + 1) W0 wr) (fun _ iv _ => (intOf iv + 1).toNat)
  case atStart =>
    refine ⟨p.length, Nat.le_refl _, rfl, ?_, ?_, But.refl _ _⟩
    · rw [List.drop_length]; rfl
    · rw [List.drop_length]; exact HF2.out
  case round =>
    obtain ⟨k, hk, rfl, rfl, hf, hb⟩ := hrel
    have HF := Lib.hid hf
    have HB := Lib.hid hb
    clear hf hb
    by_cases hk0 : k = 0
    · subst hk0
      have z0 : decide ((((0 : Nat) : Int) - 1) ≥ 0) = false := by decide
      gi_wp2_with fail
      have HFZ := Lib.hid HF.out
      obtain ⟨y0, y0'⟩ := HF.out.cell (c := 0) (by omega)
      obtain ⟨y1, y1'⟩ := HF.out.cell (c := 1) (by omega)
      obtain ⟨y2, y2'⟩ := HF.out.cell (c := 2) (by omega)
      obtain ⟨y3, y3'⟩ := HF.out.cell (c := 3) (by omega)
      obtain ⟨y4, y4'⟩ := HF.out.cell (c := 4) (by omega)
      have hr1 : Five wr (w.heap.size + 1) (fun _ => 0) 50 := HF1.out.but HB.out (by omega)
      obtain ⟨x0, x0'⟩ := hr1.cell (c := 0) (by omega)
      obtain ⟨x1, x1'⟩ := hr1.cell (c := 1) (by omega)
      obtain ⟨x2, x2'⟩ := hr1.cell (c := 2) (by omega)
      obtain ⟨x3, x3'⟩ := hr1.cell (c := 3) (by omega)
      obtain ⟨x4, x4'⟩ := hr1.cell (c := 4) (by omega)
      have HR1 := Lib.hid hr1
      clear hr1
      simp only [List.drop_zero] at *
      have HBW := Lib.hid (HB.out.bel HB0.out (by omega))
      gi_region
      gi_wp2_with fail
      obtain ⟨V, hV⟩ : ∃ V, ((((wr.setCell ⟨w.heap.size + 1, 0, none⟩ (.int .i64 ((s.fire p).1 0))).setCell ⟨w.heap.size + 1, 1, none⟩ (.int .i64 ((s.fire p).1 1))).setCell ⟨w.heap.size + 1, 2, none⟩ (.int .i64 ((s.fire p).1 2))).setCell ⟨w.heap.size + 1, 3, none⟩ (.int .i64 ((s.fire p).1 3))).setCell ⟨w.heap.size + 1, 4, none⟩ (.int .i64 ((s.fire p).1 4)) = V := ⟨_, rfl⟩
      have hv5 : Five V (w.heap.size + 1) (s.fire p).1 50 := by
        rw [← hV]; exact heap_set (heap_set (heap_set (heap_set (heap_set HR1.out 0 _) 1 _) 2 _) 3 _) 4 _
      have hbv : But (w.heap.size + 1) wr V := by
        rw [← hV]; exact ((But.set _ _ _ _).trans (But.set _ _ _ _)).trans ((But.set _ _ _ _).trans ((But.set _ _ _ _).trans (But.set _ _ _ _)))
      rw [hV]
      have hd5 : Five V.drew (w.heap.size + 1) (s.fire p).1 50 := hv5
      have hend : Bel w V.drew := (hbv.bel HBW.out (by omega)).drew
      obtain ⟨q0, -⟩ := hd5.cell (c := 0) (by omega)
      obtain ⟨q1, -⟩ := hd5.cell (c := 1) (by omega)
      obtain ⟨q2, -⟩ := hd5.cell (c := 2) (by omega)
      obtain ⟨q3, -⟩ := hd5.cell (c := 3) (by omega)
      obtain ⟨q4, -⟩ := hd5.cell (c := 4) (by omega)
      clear hV hv5 hbv hd5
      exact bodyPost_ret (v := .tuple #[.int .i64 (s.fire p).2, eachV (s.fire p).1]) (by simp [results, Try.results17, go_sem, q0, q1, q2, q3, q4, eachV]) rfl ⟨rfl, hend⟩
    · obtain ⟨k, rfl⟩ : ∃ j, k = j + 1 := ⟨k - 1, by omega⟩
      have hkp : k < p.length := by omega
      have HBW := Lib.hid (HB.out.bel HB0.out (by omega))
      obtain ⟨b, off, xv, rfl, xcell, hxc⟩ := HR.out.elem hkp
      have hxm : p.getD k [] ∈ p := by rw [getD_lt _ _ _ hkp]; exact List.getElem_mem hkp
      have HXC := Lib.hid hxc
      have XCELL := Lib.hid xcell
      have HXX := Lib.hid (HX.out _ hxm)
      have HXL := Lib.hid (HL.out _ hxm)
      have HFD := Lib.hid (fire_drop s p k hkp)
      have HFB := Lib.hid (fire_le HS.out (p.drop (k + 1)) (fun r hr => HX.out r (List.mem_of_mem_drop hr)))
      have hdl : (p.drop (k + 1)).length ≤ 1000 := by rw [List.length_drop]; omega
      have HCW := Lib.hid (HB.out.c4 (by omega) HC0.out)
      clear hxc xcell hxm
      generalize p.getD k [] = x at *
      have hG : 0 ≤ (s.fire (p.drop (k + 1))).2 ∧ (s.fire (p.drop (k + 1))).2 ≤ 3000 := by have := HFB.out; omega
      have HGB := Lib.hid hG
      clear hdl hG HFB
      generalize s.fire (p.drop (k + 1)) = G at *
      obtain ⟨xa, xc, rfl⟩ := cols_some' HXC.out
      rw [show (((k + 1 : Nat) : Int) - 1) = (k : Int) by omega]
      have z0 : decide ((k : Int) ≥ 0) = true := decide_eq_true (by omega)
      gi_wp2_with fail
      obtain ⟨w1, rfl⟩ : ∃ w1, w1 = wr := ⟨_, rfl⟩
      gi_loopw [9, 10] (fun mv iv wr => ∃ q : Nat, q ≤ x.length ∧ iv = .int .i64 q ∧ mv = .int .i64 (s.most (x.take q)) ∧ Bel w1 wr) (fun _ iv _ => x.length - (intOf iv).toNat)
      case atStart => exact ⟨0, Nat.zero_le _, rfl, rfl, Bel.refl _⟩
      case round =>
        obtain ⟨q, hq, rfl, rfl, hb⟩ := hrel
        have xcell := (HBW.out.trans hb).cell XCELL.out
        have HBJ := Lib.hid hb
        clear hb
        by_cases hql : q < x.length
        · have z1 : decide (q < x.length) = true := decide_eq_true hql
          obtain ⟨xb, xoff, rfl, qcell⟩ := (HXC.out.bel (HBW.out.trans HBJ.out)).cellAt hql
          have hcm : x.getD q 0 < s.paints.length := HXX.out _ (by rw [getD_lt _ _ _ hql]; exact List.getElem_mem hql)
          obtain ⟨pb, poff, rfl, -, -, -, -, pcell, -⟩ := (HP.out.bel (HBW.out.trans HBJ.out)).cells hcm
          have HMT := Lib.hid (most_take s x q hql)
          have c0 := (HCW.out.bel HBJ.out).1
          have hpd : s.paints.getD (x.getD q 0) ⟨0, 0, 0, 0, 0, 0⟩ = s.paint (x.getD q 0) := rfl
          rw [hpd] at pcell
          generalize x.getD q 0 = c at *
          generalize (s.paint c).coats = co at *
          generalize s.most (x.take q) = mo at *
          clear hpd
          have hxl := HXL.out
          gi_wp2_with fail
          gi_big_quiet (fail)
          gi_wp2_with fail
          go_roundw
          case rel => exact ⟨q + 1, by omega, by go_num, by rw [HMT.out], HBJ.out.trans (bel_drewN _ _)⟩
          case measure => simp [intOf]; omega
        · obtain rfl : q = x.length := by omega
          rw [List.take_length]
          have hmb := most_bound HS.out x HXX.out
          have hgb := HGB.out
          generalize s.most x = mo at *
          gi_wp2_with fail
          obtain ⟨w2, rfl⟩ : ∃ w2, w2 = wr := ⟨_, rfl⟩
          have HB2 := Lib.hid (HB.out.trans (HBJ.out.but _))
          have HF2 := Lib.hid (HF.out.bel HBJ.out)
          have HMB := Lib.hid hmb
          clear xcell hmb hgb
          gi_loopw [11] (fun iv wr => ∃ q : Nat, q ≤ x.length ∧ iv = .int .i64 q ∧ Five wr (w.heap.size + 1 + 1) (fun c => if (x.take q).contains c then G.2 + mo else G.1 c) 50 ∧ But (w.heap.size + 1 + 1) W0 wr) (fun iv _ => x.length - (intOf iv).toNat)
          case atStart => exact ⟨0, Nat.zero_le _, rfl, HF2.out.ext (fun c _ => rfl), HB2.out⟩
          case round =>
            obtain ⟨q, hq, rfl, hf, hb⟩ := hrel
            have HBV := Lib.hid (hb.bel HB0.out (by omega))
            have HFV := Lib.hid hf
            have HBX := Lib.hid hb
            clear hf hb
            have xcell := HBV.out.cell XCELL.out
            by_cases hql : q < x.length
            · have z1 : decide (q < x.length) = true := decide_eq_true hql
              obtain ⟨xb, xoff, rfl, qcell⟩ := (HXC.out.bel HBV.out).cellAt hql
              have hcm : x.getD q 0 < s.paints.length := HXX.out _ (by rw [getD_lt _ _ _ hql]; exact List.getElem_mem hql)
              have HTQ := Lib.hid (take_snocN x q hql)
              have hxl := HXL.out
              generalize x.getD q 0 = c at *
              have hc5 : c < 5 := by omega
              obtain ⟨y0, y1⟩ := HFV.out.cell hc5
              gi_wp2_with fail
              go_roundw
              case rel =>
                refine ⟨q + 1, by omega, by go_num, (HFV.out.set hc5 (G.2 + mo)).ext (fun d _ => ?_), HBX.out.trans (But.set _ _ _ _)⟩
                rw [HTQ.out]
                by_cases e : d = c
                · subst e; simp
                · rw [if_neg e]
                  simp [e]
              case measure => simp [intOf]; omega
            · obtain rfl : q = x.length := by omega
              have hf := HFV.out
              rw [List.take_length] at hf
              have HFW := Lib.hid hf
              clear hf
              gi_wp2_with fail
              go_roundw
              case rel =>
                refine ⟨k, by omega, by go_num, ?_, ?_, HBX.out⟩
                · rw [HFD.out]
                · rw [HFD.out]; exact HFW.out
              case measure => simp [intOf]

end Go.Proofs.Ytpkadofgmhninaa
