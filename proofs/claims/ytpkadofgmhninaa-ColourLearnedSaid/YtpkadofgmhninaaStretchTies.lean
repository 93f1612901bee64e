/- The ties of stretches are yielded one after another. Ties that hold for all values of some spans; a plan that surely is right. -/
import Derived.Test.YtpkadofgmhninaaHeatTies
import Derived.Sort.QuietIn
namespace Go.Proofs.Ytpkadofgmhninaa
open Go.RowKit
attribute [local go_sem] Oper.semAt_some

/-- What has been yielded of the ties of stretches. -/
def sP1 (s : CSet) (p : Rounds) (i : Nat) : List CSet.Tie := (List.range i).flatMap fun i => s.stretchTiesOf (p.getD i []) (p.getD (i + 1) [])
theorem sP1_succ (s : CSet) (p : Rounds) (i : Nat) : sP1 s p (i + 1) = sP1 s p i ++ s.stretchTiesOf (p.getD i []) (p.getD (i + 1) []) := by
  unfold sP1; rw [List.range_succ, List.flatMap_append]; simp
theorem sP1_pre (s : CSet) (p : Rounds) (i : Nat) (hi : i ≤ p.length - 1) : sP1 s p i <+: s.stretchTies p := by
  unfold sP1 CSet.stretchTies
  have := prefix_flatMap (List.range (p.length - 1)) (fun i => s.stretchTiesOf (p.getD i []) (p.getD (i + 1) [])) i
  rwa [List.take_range, Nat.min_eq_left hi] at this
def sOver (s : CSet) (u : Nat) (o : Nat) : List CSet.Tie := [⟨o, u, s.give⟩, ⟨u, o, s.give⟩]
theorem s_pre2 (s : CSet) (p : Rounds) (i j : Nat) (hi : i < p.length - 1) : sP1 s p i ++ ((p.getD i []).take j).flatMap (fun u => (p.getD (i + 1) []).flatMap (sOver s u)) <+: s.stretchTies p := by
  refine List.IsPrefix.trans ?_ (sP1_pre s p (i + 1) hi)
  rw [sP1_succ]
  exact (List.prefix_append_right_inj _).2 (prefix_flatMap _ _ _)

set_option maxRecDepth 100000 in
set_option maxHeartbeats 4000000 in
theorem stretchTies_seq (s : CSet) (hs : s.Ok) (pv ev rv : Value) (p : Rounds) (hp : PlanOk s.paints.length p) (w0 : World) (hf : Fd w0 pv ev rv s p) :
    SeqQ 61 #[.agg #[pv, .int .i64 s.near, .int .i64 s.give, ev, rv]] #[] ETie (s.stretchTies p) (CellsOf w0) := by
  intro l J Jx W hD hJ hJx hY h0
  obtain ⟨pa, pc, rfl, hp1, hp2, -, -⟩ := hf.paints
  obtain ⟨ra, rc, rfl, hr1, hr2, -, -⟩ := hf.rounds
  unfold maxLen at hr2 hp2
  have hn5 := hs.n5
  have hpl := hp.len
  have c5 := C5.new W (.slice pa s.paints.length pc) (.int .i64 s.near) (.int .i64 s.give) ev (.slice ra (List.length p) rc) 95
  have b0 := (Bel.refl W).alloc (.cells #[.slice pa s.paints.length pc, .int .i64 s.near, .int .i64 s.give, ev, .slice ra (List.length p) rc] 95)
  have j0 := hJ _ _ _ h0 (b0.quiet _)
  have d0 := hD.trans b0.cells
  have K0 := Lib.hid (b0.keep W.heap.size)
  have J0 := Lib.hid j0
  have D0 := Lib.hid d0
  have C50 := Lib.hid c5
  have HY := Lib.hid hY
  have HF := Lib.hid hf
  clear b0 j0 d0 hJ hJx hY h0 hD hf
  refine (callsIn_wide (n := 0)).1 (callsIn_of_wp Try.func61 rfl trivial ?_ rfl)
  simp only [Try.ntmps61, List.size_toArray, List.length_cons, List.length_nil, Nat.reduceAdd, Nat.reduceSub, Array.replicate_succ, Array.replicate_zero, List.push_toArray, List.append_toArray, List.nil_append, List.cons_append, Array.append_empty]
  obtain ⟨c0, c1, c2, c3, c4⟩ := c5
  gi_wp2_with fail
  generalize W.alloc (.cells #[.slice pa s.paints.length pc, .int .i64 s.near, .int .i64 s.give, ev, .slice ra (List.length p) rc] 95) = W1 at *
  gi_loopw [13] (fun v wr => ∃ i : Nat, i ≤ p.length - 1 ∧ v = .int .i64 i ∧ J (sP1 s p i) wr ∧ CellsOf w0 wr ∧ KeepFrom W.heap.size W wr ∧ C5 wr W.heap.size (.slice pa s.paints.length pc) (.int .i64 s.near) (.int .i64 s.give) ev (.slice ra (List.length p) rc)) (fun v _ => p.length - (intOf v).toNat)
  case atStart => exact ⟨0, Nat.zero_le _, rfl, J0.out, D0.out, K0.out, C50.out⟩
  case round =>
    obtain ⟨i, hi, rfl, hj, hd, hk, hc5⟩ := hrel
    have HJ1 := Lib.hid hj
    have HD1 := Lib.hid hd
    have HK1 := Lib.hid hk
    have HC1 := Lib.hid hc5
    by_cases hlt : i < p.length - 1
    · have hlt1 : (i : Int) < (p.length : Int) - 1 := by omega
      obtain ⟨_, _, e0, _, _, _, h3⟩ := HF.out.rounds
      injection e0 with e1 e2 e3
      clear e2 e3
      subst e1
      obtain ⟨b, off, xv, rfl, hcell0, hcols⟩ := h3 i (by omega)
      obtain ⟨b', off', zv, e1, zcell0, zcols⟩ := h3 (i + 1) (by omega)
      injection e1 with e1
      injection e1 with e1 e2
      subst e1 e2
      have hcell := hd _ _ hcell0
      have zcell := hd _ _ zcell0
      have hx5 := (hp.round (k := i) (by omega)).2.len
      have hz5 := (hp.round (k := i + 1) (by omega)).2.len
      have hcols0 := hcols
      have zcols0 := zcols
      obtain ⟨xa, xc, rfl, q1, q2, -, -⟩ := hcols
      obtain ⟨za, zc, rfl, q3, q4, -, -⟩ := zcols
      simp only [List.length_map] at q1 hcell hcols0 q3 zcell zcell0 zcols0
      have HX0 := Lib.hid hcols0
      have HZ0 := Lib.hid zcols0
      have HZC := Lib.hid zcell0
      unfold maxLen at q2 q4
      have HPRE := Lib.hid (fun j => s_pre2 s p i j hlt)
      have HSUC := Lib.hid (sP1_succ s p i)
      obtain ⟨c0, c1, c2, c3, c4⟩ := hc5
      clear hj hd hk h3 hcell0 hcols0 zcell0 zcols0 zcell
      generalize hround : p.getD i [] = round at *
      generalize hnext : p.getD (i + 1) [] = next at *
      clear hround hnext
      generalize hpre0 : sP1 s p i = pre0 at *
      clear hpre0
      gi_wp2_with fail
      clear c0 c1 c2 c3 c4
      gi_loopw [22] (fun v wr => ∃ j : Nat, j ≤ round.length ∧ v = .int .i64 j ∧ J (pre0 ++ (round.take j).flatMap (fun u => next.flatMap (sOver s u))) wr ∧ CellsOf w0 wr ∧ KeepFrom W.heap.size W wr ∧ C5 wr W.heap.size (.slice pa s.paints.length pc) (.int .i64 s.near) (.int .i64 s.give) ev (.slice (some ⟨b, off, none⟩) (List.length p) rc)) (fun v _ => round.length - (intOf v).toNat)
      case atStart => exact ⟨0, Nat.zero_le _, rfl, by simpa using HJ1.out, HD1.out, HK1.out, HC1.out⟩
      case round =>
        obtain ⟨j, hj2, rfl, hj, hd, hk, hc5⟩ := hrel
        have HJ2 := Lib.hid hj
        have HD2 := Lib.hid hd
        have HK2 := Lib.hid hk
        have HC2 := Lib.hid hc5
        by_cases hjl : j < round.length
        · obtain ⟨xb, xoff, rfl, xcell⟩ := (HX0.out.of hd).cellAt hjl
          have hsn := flatMap_snoc round 0 (fun u => next.flatMap (sOver s u)) j hjl
          have hp2 := HPRE.out (j + 1)
          rw [hsn] at hp2
          have HSN := Lib.hid hsn
          have HP2 := Lib.hid hp2
          have zcell := hd _ _ HZC.out
          have zadd : off + (i + 1) = off + i + 1 := by omega
          obtain ⟨c0, c1, c2, c3, c4⟩ := hc5
          clear hj hd hk hsn hp2
          generalize hc0 : round.getD j 0 = u at *
          clear hc0
          generalize hpj : (round.take j).flatMap (fun u => next.flatMap (sOver s u)) = pre1 at *
          clear hpj
          have hi1 : (i : Int) + 1 = ((i + 1 : Nat) : Int) := by omega
          clear zadd hi1
          gi_wp2_with fail
          clear c0 c1 c2 c3 c4
          gi_loopw [33] (fun v wr => ∃ k : Nat, k ≤ next.length ∧ v = .int .i64 k ∧ J (pre0 ++ (pre1 ++ (next.take k).flatMap (sOver s u))) wr ∧ CellsOf w0 wr ∧ KeepFrom W.heap.size W wr ∧ C5 wr W.heap.size (.slice pa s.paints.length pc) (.int .i64 s.near) (.int .i64 s.give) ev (.slice (some ⟨b, off, none⟩) (List.length p) rc)) (fun v _ => next.length - (intOf v).toNat)
          case atStart => exact ⟨0, Nat.zero_le _, rfl, by simpa using HJ2.out, HD2.out, HK2.out, HC2.out⟩
          case round =>
            obtain ⟨k, hk3, rfl, hj, hd, hk, hc5⟩ := hrel
            have HJ3 := Lib.hid hj
            have HD3 := Lib.hid hd
            have HK3 := Lib.hid hk
            have HC3 := Lib.hid hc5
            by_cases hkl : k < next.length
            · obtain ⟨zb, zoff, rfl, ocell⟩ := (HZ0.out.of hd).cellAt hkl
              have hts := flatMap_snoc next 0 (sOver s u) k hkl
              have HTS := Lib.hid hts
              have hpf := prefix_flatMap next (sOver s u) (k + 1)
              rw [hts] at hpf
              obtain ⟨c0, c1, c2, c3, c4⟩ := hc5
              clear hd hk hts
              generalize hog : next.getD k 0 = o at *
              clear hog
              have hpA : (next.take k).flatMap (sOver s u) ++ [(⟨o, u, s.give⟩ : CSet.Tie)] <+: next.flatMap (sOver s u) := by
                refine List.IsPrefix.trans ?_ hpf
                exact (List.prefix_append_right_inj _).2 ⟨[⟨u, o, s.give⟩], rfl⟩
              have hpB : (next.take k).flatMap (sOver s u) ++ [(⟨o, u, s.give⟩ : CSet.Tie)] ++ [(⟨u, o, s.give⟩ : CSet.Tie)] <+: next.flatMap (sOver s u) := by
                rw [List.append_assoc]; exact hpf
              have hpA2 := prefix_two HP2.out hpA
              have hpB2 := prefix_two HP2.out hpB
              generalize hG : (next.take k).flatMap (sOver s u) = G at *
              clear hG
              have hpA3 : (pre0 ++ (pre1 ++ G)) ++ [(⟨o, u, s.give⟩ : CSet.Tie)] <+: s.stretchTies p := by simpa [List.append_assoc] using hpA2
              have hpB3 : ((pre0 ++ (pre1 ++ G)) ++ [(⟨o, u, s.give⟩ : CSet.Tie)]) ++ [(⟨u, o, s.give⟩ : CSet.Tie)] <+: s.stretchTies p := by simpa [List.append_assoc] using hpB2
              have hy := HY.out _ (⟨o, u, s.give⟩ : CSet.Tie) #[.agg #[.int .i64 (o : Int), .int .i64 (u : Int), .int .i64 s.give]] wr hj HD3.out hpA3 rfl
              have HY2 := Lib.hid (fun W3 hj3 hd3 => HY.out _ (⟨u, o, s.give⟩ : CSet.Tie) #[.agg #[.int .i64 (u : Int), .int .i64 (o : Int), .int .i64 s.give]] W3 hj3 hd3 hpB3 rfl)
              obtain ⟨fn, tmps, assign, body, hyr, hR⟩ := hy
              have HPA := Lib.hid hpA3
              have HPB := Lib.hid hpB3
              clear hj hpf hpA hpB hpA2 hpB2 hpA3 hpB3
              gi_wp2_with fail
              refine ⟨rfl, hR.mono ?_⟩
              rintro e W3 ⟨hd3, hk3', (⟨rfl, hJ3⟩ | ⟨rfl, hJx3⟩)⟩
              · have D3 := Lib.hid hd3
                have K3 := Lib.hid (HK3.out.trans hk3')
                have C3 := Lib.hid (show C5 W3 W.heap.size (.slice pa s.paints.length pc) (.int .i64 s.near) (.int .i64 s.give) ev (.slice (some ⟨b, off, none⟩) (List.length p) rc) from HC3.out.keep hk3' (Nat.le_refl _))
                obtain ⟨fn2, tmps2, assign2, body2, hyr2, hR2⟩ := HY2.out W3 hJ3 hd3
                clear hd3 hk3' hJ3 hR hyr c0 c1 c2 c3 c4
                obtain ⟨c0, c1, c2, c3, c4⟩ := C3.out
                gi_wp2_with fail
                refine ⟨rfl, hR2.mono ?_⟩
                rintro e W5 ⟨hd5, hk5, (⟨rfl, hJ5⟩ | ⟨rfl, hJx5⟩)⟩
                · have D5 := Lib.hid hd5
                  have K5 := Lib.hid (K3.out.trans hk5)
                  have J5 := Lib.hid hJ5
                  have C5' := Lib.hid (show C5 W5 W.heap.size (.slice pa s.paints.length pc) (.int .i64 s.near) (.int .i64 s.give) ev (.slice (some ⟨b, off, none⟩) (List.length p) rc) from C3.out.keep hk5 (Nat.le_refl _))
                  clear hd5 hk5 hJ5 hR2 hyr2 c0 c1 c2 c3 c4
                  gi_wp2_with fail
                  go_roundw
                  case rel =>
                    refine ⟨k + 1, by omega, by go_num, ?_, D5.out, K5.out, C5'.out⟩
                    rw [HTS.out]
                    simpa [List.append_assoc, sOver] using J5.out
                  case measure => simp [intOf]; omega
                · have D5 := Lib.hid hd5
                  have J5 := Lib.hid hJx5
                  clear hd5 hk5 hJx5 hR2 hyr2 c0 c1 c2 c3 c4
                  gi_wp2_with fail
                  refine bodyPost_ret (results_none rfl _ _ _) rfl ?_
                  exact ⟨⟨_, rfl⟩, D5.out, .inr ⟨_, HPB.out, J5.out⟩⟩
              · have D3 := Lib.hid hd3
                have J3 := Lib.hid hJx3
                clear hd3 hk3' hJx3 hR hyr c0 c1 c2 c3 c4
                gi_wp2_with fail
                refine ⟨fun _ h => (by cases h), ?_⟩
                gi_wp2_with fail
                refine bodyPost_ret (results_none rfl _ _ _) rfl ?_
                exact ⟨⟨_, rfl⟩, D3.out, .inr ⟨_, HPA.out, J3.out⟩⟩
            · have hkr := List.take_of_length_le (l := next) (i := k) (by omega)
              have HKR := Lib.hid hkr
              clear hj hd hk hkr hc5
              gi_wp2_with fail
              go_roundw
              case rel =>
                refine ⟨j + 1, by omega, by go_num, ?_, HD3.out, HK3.out, HC3.out⟩
                have h := HJ3.out
                rw [HKR.out] at h
                rw [HSN.out]
                exact h
              case measure => simp [intOf]; omega
        · have hjr := List.take_of_length_le (l := round) (i := j) (by omega)
          have HJR := Lib.hid hjr
          clear hj hd hk hc5 hjr
          gi_wp2_with fail
          go_roundw
          case rel =>
            refine ⟨i + 1, by omega, by go_num, ?_, HD2.out, HK2.out, HC2.out⟩
            have h := HJ2.out
            rw [HJR.out] at h
            rw [HSUC.out]
            exact h
          case measure => simp [intOf]; omega
    · have hfin := Lib.hid (show sP1 s p i = s.stretchTies p by
        have : i = p.length - 1 := by omega
        subst this; rfl)
      have hlt1 : ¬ (i : Int) < (p.length : Int) - 1 := by omega
      clear hj hd hk hc5
      gi_wp2_with fail
      go_end0
      exact ⟨⟨_, rfl⟩, HD1.out, .inl (by rw [← hfin.out]; exact HJ1.out)⟩

end Go.Proofs.Ytpkadofgmhninaa
namespace Go.Proofs.Ytpkadofgmhninaa
open Go.RowKit
attribute [local go_sem] Oper.semAt_some

theorem bel_drewN (A : World) (n : Nat) : Bel A (A.drewN n) := ⟨rfl, rfl, rfl, Nat.le_refl _, fun _ _ => rfl⟩

/-- No operation is a deferred call. -/
def noDefer (l : List Oper) : Bool := l.all fun o => match o.op with | .defer _ => false | _ => true
theorem noDefer_at {l : List Oper} (h : noDefer l = true) {i : Nat} {o : Oper} (hi : l[i]? = some o) : ∀ c, o.op ≠ .defer c := by
  intro c hc
  unfold noDefer at h
  rw [List.all_eq_true] at h
  have := h o (List.mem_of_getElem? hi)
  rw [hc] at this
  cases this
theorem wpAny_inRound {Q : Exit → Act → World → Prop} {l : List Oper} {r : Nat} (hd : noDefer l = true) : ∀ (fuel : Nat) (listed : Array Bool) (a : Act) (w : World),
    wpAnyIn Fence.wide 0 Try.prog .any l.toArray Q fuel listed a w → wpAnyIn (Fence.wide.inRound r) 0 Try.prog .any l.toArray Q fuel listed a w := by
  intro fuel
  induction fuel with
  | zero => exact fun _ _ _ h => h
  | succ fuel ih =>
    intro listed a w h
    refine ⟨h.1, fun i hi => ?_⟩
    have h2 := wpOpIn_mono (fun a w => ih (listed.setIfInBounds i true) a w) (h.2 i hi)
    unfold wpOpIn at h2 ⊢
    cases ho : l.toArray[i]? with
    | none => simp only [ho] at h2 ⊢; exact h2
    | some o =>
      simp only [ho] at h2 ⊢
      split
      · rename_i hw
        simp only [hw, if_true] at h2
        refine ⟨fun f _ => trivial, ?_⟩
        have h3 := h2.2
        rw [Oper.semAt_eq _ _ _ (noDefer_at hd (by simpa using ho))] at h3 ⊢
        exact h3
      · rename_i hw
        simp only [hw] at h2
        exact ⟨fun f _ => trivial, h2.2⟩
theorem region_quiet_round {id : Nat} {Q : Exit → Act → World → Prop} {a : Act} {w : World} {l : List Oper} {r : Nat} (hm : Try.prog.follows .mixedOrders = true) (hB : Region.lexB .any l.toArray = true) (hd : noDefer l = true)
    (h : wpQuietIn Fence.wide 0 Try.prog l.toArray (fun w' => ∃ n, w' = w.drewN n) (fun a' => ∀ w', (∃ n, w' = w.drewN n) → Q .normal a' w') l a) : (Code.region id l.toArray true).wpIn (Fence.wide.inRound r) 0 Try.prog Q a w := by
  refine wpIn_region_any hm (wpAny_inRound hd _ _ _ _ ?_)
  simp only [Region.lexB, Bool.and_eq_true] at hB
  refine wpAnyIn_of_quiet (C := fun w' => ∃ n, w' = w.drewN n) (Q := fun a' => ∀ w', (∃ n, w' = w.drewN n) → Q .normal a' w') rfl (fun _ w' hw' h => h w' hw') _ _ _ _ ⟨1, rfl⟩ ?_
  have := wpAnyQIn_lex (F := Fence.wide) (n := 0) (P := Try.prog) (C := fun w' => ∃ n, w' = w.drewN n) (md := .any) hB.1 l 0 (Array.replicate l.toArray.size false) a (by simp) (by simpa using hB.2) h
  simpa using this

def C3 (W : World) (B : Nat) (a b c : Value) : Prop := W.cell? ⟨B, 0, none⟩ = some a ∧ W.cell? ⟨B, 1, none⟩ = some b ∧ W.cell? ⟨B, 2, none⟩ = some c
theorem C3.new (w : World) (a b c : Value) (t : TypeId) : C3 (w.alloc (.cells #[a, b, c] t)) w.heap.size a b c := by
  have h := World.alloc_heap_new w (.cells #[a, b, c] t)
  unfold C3 World.cell?
  simp only [h]
  exact ⟨rfl, rfl, rfl⟩
theorem C3.of {A B : World} (h : CellsOf A B) {k : Nat} {a b c : Value} (hc : C3 A k a b c) : C3 B k a b c := ⟨h _ _ hc.1, h _ _ hc.2.1, h _ _ hc.2.2⟩
theorem Spans.cellAt {W : World} {a : Option Addr} {n m c : Nat} {lo hi : Nat → Int} (h : Spans W (.slice a m c) n lo hi) {j : Nat} (hj : j < n) :
    ∃ b off, a = some ⟨b, off, none⟩ ∧ W.cell? ⟨b, off + j * 2, none⟩ = some (.int .i64 (lo j)) ∧ W.cell? ⟨b, off + j * 2 + 1, none⟩ = some (.int .i64 (hi j)) := by
  obtain ⟨a', c', e, _, _, _, h3⟩ := h
  injection e with e1 e2 e3
  subst e1
  exact h3 j hj
theorem Spans.cellIn {W : World} {b off m n c : Nat} {lo hi : Nat → Int} (h : Spans W (.slice (some ⟨b, off, none⟩) m c) n lo hi) {j : Nat} (hj : j < n) :
    W.cell? ⟨b, off + j * 2, none⟩ = some (.int .i64 (lo j)) ∧ W.cell? ⟨b, off + j * 2 + 1, none⟩ = some (.int .i64 (hi j)) := by
  obtain ⟨b', off', e, q⟩ := h.cellAt hj
  injection e with e
  injection e with e1 e2
  subst e1 e2
  exact q

set_option maxRecDepth 100000 in
set_option maxHeartbeats 4000000 in
theorem surelyOf_any (g : FuncId) (fs : Array Value) (eg : ∀ args w, (callFunc g args).run Try.prog w = .ok (.enter g args) w) (sv : Value) (n : Nat) (lo hi : Nat → Int) (ts : List CSet.Tie) (w : World)
    (hseq : SeqQ g fs #[] ETie ts (CellsOf w)) (hs : Spans w sv n lo hi) (_hn : n ≤ 5) (hb : ∀ i, i < n → 0 ≤ lo i ∧ lo i ≤ 1000 ∧ 0 ≤ hi i ∧ hi i ≤ 1000) (ht : ∀ t, t ∈ ts → t.a < n ∧ t.b < n) :
    Calls Try.prog 63 #[sv, .func (.func g) fs #[]] w fun e w' => e = .returned (.bool (CSet.always lo hi ts)) ∧ Bel w w' := by
  have hs0 := Lib.hid hs
  obtain ⟨sa, sc, rfl, s1, s2, -, -⟩ := hs
  unfold maxLen at s2
  have HB := Lib.hid hb
  have HT := Lib.hid ht
  clear hb ht
  refine (callsIn_wide (n := 0)).1 (callsIn_of_wp_marks Try.func63 rfl trivial ?_ rfl)
  simp only [Try.ntmps63, List.size_toArray, List.length_cons, List.length_nil, Nat.reduceAdd, Nat.reduceSub, Array.replicate_succ, Array.replicate_zero, List.push_toArray, List.append_toArray, List.nil_append, List.cons_append]
  gi_wp2_with fail
  have x2 := (Boxed.new w 42 (.slice sa n sc)).alloc (.cells #[.bool false] 4)
  have x4 := Boxed.new (w.alloc (.cells #[.slice sa n sc] 42)) 4 (.bool false)
  rw [World.size_alloc] at x4
  have b0 := ((Bel.refl w).alloc (.cells #[.slice sa n sc] 42)).alloc (.cells #[.bool false] 4)
  have z0 : ((w.alloc (.cells #[.slice sa n sc] 42)).alloc (.cells #[.bool false] 4)).heap.size = w.heap.size + 2 := by simp
  generalize (w.alloc (.cells #[.slice sa n sc] 42)).alloc (.cells #[.bool false] 4) = W0 at *
  have Z0 := Lib.hid z0
  clear z0
  refine rf_outer (gf := g) (fs := fs) (lb := #[]) rfl eg hseq b0.cells (fun A B h q => h.trans q.cells) (fun W vs x h => by rw [show vs = _ from h]; rfl)
    (fun pre W => Bel w W ∧ Boxed W w.heap.size 42 (.slice sa n sc) ∧ Boxed W (w.heap.size + 1) 4 (.bool false) ∧ CSet.always lo hi pre = true)
    (fun c pre W => c = .ret ∧ Bel w W ∧ Boxed W (w.heap.size + 1) 4 (.bool false) ∧ CSet.always lo hi pre = false)
    (fun pre A B h q => ⟨q.below h.1 (by have := Z0.out; omega), q.boxed h.2.1, q.boxed h.2.2.1, h.2.2.2⟩)
    (fun c pre A B h q => ⟨h.1, q.below h.2.1 (by have := Z0.out; omega), q.boxed h.2.2.1, h.2.2.2⟩)
    ⟨b0, x2, x4, rfl⟩ ?round ?done ?stop
  case stop =>
    rintro d c pre W hd hpre ⟨rfl, hbw, h4, hal⟩ hcw hK
    have hfin := Lib.hid (show CSet.always lo hi ts = false by
      obtain ⟨t, rfl⟩ := hpre
      unfold CSet.always at hal ⊢
      rw [List.all_append, hal]; rfl)
    gi_wp2_with fail
    have hq : Quiet W0.heap.size W (W.putObj d (.deferred none)) := Quiet.putObj _ hK rfl hd
    have c4 := (hq.boxed h4).cell
    refine ⟨by simp, .inl ⟨_, _, rfl, run_takeDeferred hK, ?_⟩⟩
    exact ⟨.bool false, by simp [results, Try.results63, go_sem, c4], by rw [hfin.out], hq.below hbw (by have := Z0.out; omega)⟩
  case done =>
    rintro d W hd ⟨hbw, h2, h4, hal⟩ hcw hK
    have c4 := h4.cell
    have f4 := h4.frozen
    have H4 := Lib.hid h4
    have HBW := Lib.hid hbw
    have HAL := Lib.hid hal
    clear hal h4 hbw h2
    gi_wp2_with fail
    have hV4 := H4.out.set (.bool true)
    have hbt := But.set (w.heap.size + 1) 0 W (.bool true)
    have hKV : (W.setCell ⟨w.heap.size + 1, 0, none⟩ (.bool true)).heap[d]? = some (.deferred (some [])) := (hbt.block d (Array.getElem?_eq_some_iff.1 hK).1 (by have := Z0.out; omega)).trans hK
    have hbw2 := hbt.bel HBW.out (by omega)
    generalize W.setCell ⟨w.heap.size + 1, 0, none⟩ (.bool true) = V at *
    have hq : Quiet W0.heap.size V (V.putObj d (.deferred none)) := Quiet.putObj _ hKV rfl hd
    have c5 := (hq.boxed hV4).cell
    refine ⟨by simp, .inl ⟨_, _, rfl, run_takeDeferred hKV, ?_⟩⟩
    exact ⟨.bool true, by simp [results, Try.results63, go_sem, c5], by rw [HAL.out], hq.below hbw2 (by have := Z0.out; omega)⟩
  case round =>
    rintro l pre x vs W hl ⟨hbw, h2, h4, hal⟩ hcw hpre hE
    rw [show vs = _ from hE]
    gi_wp2_with fail
    refine ⟨(Bel.refl W).alloc _, fun W2 q _ _ => ?_⟩
    have hc3 := (C3.new W (.int .i64 (x.a : Int)) (.int .i64 (x.b : Int)) (.int .i64 x.by_) 147).of q.cells
    have hWW : Quiet W0.heap.size W W2 := (((Bel.refl W).alloc (.cells #[.int .i64 (x.a : Int), .int .i64 (x.b : Int), .int .i64 x.by_] 147)).quiet _).trans q
    have hbw2 := hWW.below hbw (by have := Z0.out; omega)
    have h22 := hWW.boxed h2
    have h42 := hWW.boxed h4
    have hsp := hs0.out.bel hbw2
    have hxm : x ∈ ts := by obtain ⟨t, rfl⟩ := hpre; simp
    obtain ⟨hxa, hxb⟩ := HT.out x hxm
    have hba := HB.out _ hxa
    have hbb := HB.out _ hxb
    obtain ⟨sb, so, rfl, a0, a1⟩ := hsp.cellAt hxa
    obtain ⟨d0, d1⟩ := hsp.cellIn hxb
    have HW2 := Lib.hid hbw2
    have H22 := Lib.hid h22
    have H42 := Lib.hid h42
    have HAL := Lib.hid hal
    have HCW := Lib.hid (hcw.trans hWW.cells)
    have k2 := h22.cell
    have k4 := h42.cell
    have f4 := h42.frozen
    obtain ⟨t0, t1, t2⟩ := hc3
    have hal1 := Lib.hid (show CSet.always lo hi (pre ++ [x]) = (CSet.always lo hi pre && decide (hi x.a - lo x.b ≤ x.by_)) by unfold CSet.always; rw [List.all_append]; simp)
    clear hal hcw hbw h2 h4 q hWW hbw2 h22 h42 hsp
    generalize x.a = xa at *
    generalize x.b = xb at *
    generalize x.by_ = xy at *
    generalize hla : lo xa = la at *
    generalize hha : hi xa = ha at *
    generalize hlb : lo xb = lb at *
    generalize hhb : hi xb = hb at *
    clear hla hha hlb hhb
    by_cases hle : ha - lb ≤ xy
    · have HR := Lib.hid (show CSet.always lo hi (pre ++ [x]) = true by rw [hal1.out, HAL.out]; simpa using hle)
      gi_wp2_with fail
      refine region_quiet_round (by kernel_rfl) (by kernel_rfl) (by kernel_rfl) ?_
      repeat (gi_big_quiet_step (fail))
      refine wpQuietIn_nil ?_
      intro _ hw'
      obtain ⟨nq, hw''⟩ := hw'
      subst hw''
      gi_wp2_with fail
      have hd := bel_drewN W2 nq
      exact ⟨HCW.out.trans hd.cells, hd.keep _, HW2.out.trans hd, hd.boxed H22.out, hd.boxed H42.out, HR.out⟩
    · have HR := Lib.hid (show CSet.always lo hi (pre ++ [x]) = false by rw [hal1.out, HAL.out]; simpa using hle)
      gi_wp2_with fail
      refine region_quiet_round (by kernel_rfl) (by kernel_rfl) (by kernel_rfl) ?_
      repeat (gi_big_quiet_step (fail))
      refine wpQuietIn_nil ?_
      intro _ hw'
      obtain ⟨nq, hw''⟩ := hw'
      subst hw''
      gi_wp2_with fail
      have hd := bel_drewN W2 nq
      have hbt := But.set (w.heap.size + 1) 0 (W2.drewN nq) (.bool false)
      have hbw3 := hbt.bel (HW2.out.trans hd) (by omega)
      exact ⟨hbw3.cells, (hd.keep _).trans (hbt.keep (by have := Z0.out; omega)), rfl, hbw3, (hd.boxed H42.out).set _, HR.out⟩

end Go.Proofs.Ytpkadofgmhninaa
