/- ColourBest returns true. -/
import Derived.Test.YtpkadofgmhninaaTruthKit
import Derived.Test.YtpkadofgmhninaaBestMath
import Derived.Test.YtpkadofgmhninaaBestKit
namespace Go.Proofs.Ytpkadofgmhninaa
open Go.RowKit
attribute [local go_sem] Oper.semAt_some

/-- Lists of bytes. -/
def BytsL (W : World) (v : Value) (bss : List (List Nat)) : Prop := ∃ a c, v = .slice a bss.length c ∧ bss.length ≤ c ∧ c ≤ maxLen ∧ ∀ j, j < bss.length → ∃ b off sv, a = some ⟨b, off, none⟩ ∧ W.cell? ⟨b, off + j, none⟩ = some sv ∧ Byts W sv (bss.getD j [])
theorem BytsL.bel {A B : World} (q : Bel A B) {v : Value} {bss : List (List Nat)} (h : BytsL A v bss) : BytsL B v bss := by
  obtain ⟨a, c, e, h1, h2, h3⟩ := h
  refine ⟨a, c, e, h1, h2, fun j hj => ?_⟩
  obtain ⟨b, off, sv, e', k0, k1⟩ := h3 j hj
  exact ⟨b, off, sv, e', q.cell k0, k1.bel q⟩

/-- What Plan has answered for all colours. -/
structure BestO (s : CSet) (l : List Nat) (q : Rounds) (v : Value) (er : Int) (W : World) : Prop where
  rnds : Rnds W v q
  how : (er = 0 ∧ s.planOf l = some q) ∨ (er = 7 ∧ s.planOf l = none ∧ q = [])
theorem BestO.bel {s : CSet} {l : List Nat} {q : Rounds} {v : Value} {er : Int} {A B : World} (h : BestO s l q v er A) (b : Bel A B) : BestO s l q v er B := ⟨h.rnds.bel b, h.how⟩
theorem bestO {n : Nat} {s : CSet} {l : List Nat} {v : Value} {er : Int} {W : World} (h : PlanV n (s.planOf l) v er W) : ∃ q, BestO s l q v er W := by
  cases hp : s.planOf l with
  | none => rw [hp] at h; obtain ⟨rfl, rfl⟩ := h; exact ⟨[], (rndsH_nil 0 W).rnds, .inr ⟨rfl, hp, rfl⟩⟩
  | some q => rw [hp] at h; obtain ⟨⟨hs, h1⟩, rfl⟩ := h; exact ⟨q, h1.rnds, .inl ⟨rfl, hp⟩⟩
theorem BestO.whole {s : CSet} (hs : s.Ok) {q : Rounds} {v : Value} {er : Int} {W : World} (h : BestO s (List.range s.paints.length) q v er W) : CSet.Whole s.paints.length q := by
  rcases h.how with ⟨-, h⟩ | ⟨-, -, rfl⟩
  · exact (CSet.best_some hs h).1
  · exact ⟨nofun, nofun, List.nodup_nil⟩
theorem whole_ok {n : Nat} {p : Rounds} (h : CSet.Whole n p) : PlanOk n p := ⟨h.some_, fun r hr => (h.asc r hr).cl, h.once⟩
theorem rnds_sl {W : World} {v : Value} {p : Rounds} (h : Rnds W v p) : ∃ a c, v = .slice a p.length c := by
  obtain ⟨a, c, e, -⟩ := h; exact ⟨a, c, e⟩
/-- How many colours the first rounds have. -/
def manyTo (p : Rounds) (k : Nat) : Nat := (p.take k).flatten.length
theorem manyTo_succ (p : Rounds) (k : Nat) (h : k < p.length) : manyTo p (k + 1) = manyTo p k + (p.getD k []).length := by
  unfold manyTo; rw [flat_take p k h, List.length_append]
theorem manyTo_all (p : Rounds) : manyTo p p.length = CSet.manyOf p := by unfold manyTo CSet.manyOf; rw [List.take_length]

set_option maxRecDepth 100000 in
set_option maxHeartbeats 16000000 in
theorem best_any (x : Shelf) (hx : x.Ok) (bss : List (List Nat)) (y : Nat) (hy : y < 256) (v bv : Value) (w : World) (hv : ShelfV w v x) (hbs : BytsL w bv bss) :
    Calls Try.prog 4 #[v, bv, .int .u8 (y : Int)] w fun e w' => e = .returned (.bool true) ∧ Bel w w' := by
  obtain ⟨i0, hi, hz0, hz1, hz2⟩ := info_parts Try.info3
  have HY := Lib.hid hbs
  obtain ⟨ba, bc, rfl, -, -, -⟩ := hbs
  obtain ⟨pv, ev, rfl, ⟨pa, pc, rfl, hpc⟩, ⟨ea, ec, rfl, hec⟩⟩ := hv
  have KM := Lib.hid (fun W (hW : Bel w W) => made_any x hx _ W ⟨_, _, rfl, B5s.bel hW ⟨pa, pc, rfl, hpc⟩, B2s.bel hW ⟨ea, ec, rfl, hec⟩⟩)
  have HS := Lib.hid (Shelf.set_ok hx)
  clear hpc hec hx
  generalize x.set = s at *
  obtain ⟨c0, c1, c2, c3⟩ := C4.new w (.int .u8 x.r0) (.int .u8 x.r1) (.slice pa x.paints.length pc) (.slice ea x.eats.length ec) 26
  refine (callsIn_wide (n := 0)).1 (callsIn_of_wp Try.func4 rfl trivial ?_ rfl)
  simp only [Try.ntmps4, List.size_toArray, List.length_cons, List.length_nil, Nat.reduceAdd, Nat.reduceSub, Array.replicate_succ, Array.replicate_zero, List.push_toArray, List.append_toArray, List.nil_append, List.cons_append]
  gi_wp2_with fail
  refine ⟨trivial, rfl, (callsW (KM.out _ ((Bel.refl w).alloc _))).mono ?_⟩
  rintro e w1 ⟨sv, hv, tv, rfl, hset, -, -, hb⟩
  obtain ⟨pv, ev, rfl, h1, h2⟩ := hset
  have HP := Lib.hid h1
  have HE := Lib.hid h2
  obtain ⟨qa, qc, rfl, -, -, -, -⟩ := h1
  obtain ⟨da, dc, rfl, -, -, -, -⟩ := h2
  have HB1 := Lib.hid (((Bel.refl w).alloc _).trans hb)
  clear hb c0 c1 c2 c3 KM
  gi_wp2_with fail
  have hw1 : C4 (w1.alloc (.cells #[.slice qa s.paints.length qc, .int .i64 s.near, .int .i64 s.give, .slice da s.eats.length dc] 31)) w1.heap.size (.slice qa s.paints.length qc) (.int .i64 s.near) (.int .i64 s.give) (.slice da s.eats.length dc) := C4.new _ _ _ _ _ _
  obtain ⟨W1, hW1⟩ : ∃ W1, w1.alloc (.cells #[.slice qa s.paints.length qc, .int .i64 s.near, .int .i64 s.give, .slice da s.eats.length dc] 31) = W1 := ⟨_, rfl⟩
  have hsz : W1.heap.size = w1.heap.size + 1 := by rw [← hW1]; simp
  have HB2 := Lib.hid (show Bel w1 W1 by rw [← hW1]; exact (Bel.refl _).alloc _)
  rw [hW1] at hw1 ⊢
  rw [← hsz]
  have HC := Lib.hid hw1
  have HSB := Lib.hid (show Bel w W1 from HB1.out.trans HB2.out)
  have HSV := Lib.hid (show SetV W1 (.agg #[.slice qa s.paints.length qc, .int .i64 s.near, .int .i64 s.give, .slice da s.eats.length dc]) s from ⟨_, _, rfl, HP.out.bel HB2.out, HE.out.bel HB2.out⟩)
  have HYW := Lib.hid (HY.out.bel HSB.out)
  clear hW1 hsz hw1 HP HE HB2 HB1 HY
  generalize w1.heap.size = B at *
  clear w1
  gi_loopw [10, 11] (fun lv i wr => ∃ c : Nat, c ≤ s.paints.length ∧ i = .int .i64 c ∧ wr.ownsRow W1.heap.size 3 1 lv c (valsOf (List.range c)) ∧ Bel W1 wr) (fun _ i _ => s.paints.length - (intOf i).toNat)
  case atStart =>
    exact ⟨0, Nat.zero_le _, rfl, World.ownsRow_made (base := W1.heap.size) (e := 3) (size := 1) W1 #[] 0 (Nat.le_refl _) (Nat.zero_le _) rfl, (Bel.refl _).alloc _⟩
  case round =>
    as_aux_lemma =>
      obtain ⟨c, hc, rfl, ho, hb⟩ := hrel
      have HO := Lib.hid ho
      have HB := Lib.hid hb
      obtain ⟨c0, c1, c2, c3⟩ := HC.out.bel hb
      have hn5 := HS.out.n5
      clear ho hb
      by_cases hlt : c < s.paints.length
      · have h0 : decide (c < s.paints.length) = true := decide_eq_true hlt
        have hm1 : c + 1 ≤ maxLen := by unfold maxLen; omega
        have hm2 : (c + 1) * 8 ≤ 140737488355328 := by omega
        have hm3 : W1.heap.size ≤ (wr.alloc (.cells #[.int .i64 (c : Int)] 3)).heap.size := by have := HB.out.size; simp; omega
        gi_wp2_with (gi_at_builtin; refine wpListIn_append_own _ rfl _ _ 32 rfl W1.heap.size 3 i0 (.int .i64 0) 1 8 Try.underlying32 hi hz0 hz1 hz2 rfl (by decide) _ _ _ rfl (ownsRow_bel HO.out ((Bel.refl _).alloc _)) ⟨wr.heap.size, 0, none⟩ 1 1 [.int .i64 (c : Int)] rfl rfl (one_new _ _ _) (by simp [Value.oneCell']) hm1 hm2 hm3 ?_; intro v' w3 hown2 hgrow _; have HO2 := Lib.hid hown2; have HB3 := Lib.hid ((HB.out.alloc _).grown hgrow (fun k hk => (HO.out.lt k hk).1)); clear hown2 hgrow hm3)
        go_roundw
        case rel =>
          refine ⟨c + 1, by omega, by go_num, ?_, HB3.out⟩
          rw [List.range_succ]
          simpa [valsOf] using HO2.out
        case measure => simp [intOf]; omega
      · obtain rfl : c = s.paints.length := by omega
        have hcol : Cols wr u10 (List.range s.paints.length) := own_cols (by rw [List.length_range]; exact HO.out)
        obtain ⟨L, hL⟩ : ∃ L, List.range s.paints.length = L := ⟨_, rfl⟩
        rw [hL] at hcol
        have HLR := Lib.hid hL
        have HLEN := Lib.hid (show L.length = s.paints.length by rw [← hL, List.length_range])
        have HA := Lib.hid (show Asc s.paints.length L by rw [← hL]; exact CSet.asc_of_sub (List.Sublist.refl _))
        obtain ⟨la, lc, rfl⟩ := cols_some' hcol
        have HL := Lib.hid hcol
        clear hcol hL HO hlt hc hn5 c0 c1 c2 c3
        have K1 := Lib.hid (own_any s _ wr (HSV.out.bel HB.out) (by have := HS.out.n5; omega) (by have := HS.out.eats; omega))
        obtain ⟨c0, c1, c2, c3⟩ := HC.out.bel HB.out
        gi_wp2_with fail
        refine ⟨trivial, rfl, (callsW K1.out).mono ?_⟩
        rintro e wa1 ⟨va1, rfl, hset, hb⟩
        have HBa1 := Lib.hid (HB.out.trans hb)
        have HLa1 := Lib.hid ((HL.out.bel hb).bel ((Bel.refl _).alloc (.cells #[] 3)))
        have HV1 := Lib.hid hset
        have HBx1 := Lib.hid (hb.alloc (.cells #[] 3))
        clear hset hb K1 c0 c1 c2 c3
        gi_wp2_with (gi_at_builtin; refine wpListIn_append_empty rfl _ _ 32 rfl 3 i0 _ 1 8 Try.underlying32 hi hz0 hz1 hz2 wa1.heap.size _ _ _ rfl rfl (valsOf L) (by simp [valsOf]) (cols_news HLa1.out).2.2 (cols_news HLa1.out).2.1 (by have := HLEN.out; have := HS.out.n5; omega) (by decide) ?_; intro gb1 cap1 wb1 hb h1 h2 h3; have HCb1 := Lib.hid (cols_new (l := L) rfl h1 h2 h3); have HBb1 := Lib.hid ((HBa1.out.alloc _).trans hb); have HVb1 := Lib.hid ((HV1.out.bel ((Bel.refl _).alloc _)).bel hb); have HLb1 := Lib.hid (HLa1.out.bel hb); have HBm1 := Lib.hid (HBx1.out.trans hb); clear hb h1 h2 h3)
        refine ⟨trivial, rfl, (callsW (plan_any s HS.out va1 _ L wb1 HVb1.out HCb1.out HA.out)).mono ?_⟩
        rintro e wc1 ⟨qv, er, rfl, hpl, hb⟩
        have HBc1 := Lib.hid (HBb1.out.trans hb)
        replace HL := Lib.hid (HLb1.out.bel hb)
        obtain ⟨q, hq⟩ := bestO hpl
        obtain ⟨ra, rc, rfl⟩ := rnds_sl hq.rnds
        have HW := Lib.hid (BestO.whole HS.out (show BestO s (List.range s.paints.length) q _ er wc1 by rw [HLR.out]; exact hq))
        have HQ := Lib.hid hq
        clear hpl hq HBa1 HLa1 HV1 HCb1 HBb1 HVb1 HLb1 HBx1 HBm1 hb HB
        gi_upto_region 8 with fail
        gi_cut [85] from 400 (fun z wx => z = .bool false ∧ wx = wc1)
        case first =>
          as_aux_lemma =>
            have hun : ∀ b, (undef = Value.bool b) = False := fun b => by unfold undef; simp
            rcases HQ.out.how with ⟨rfl, -⟩ | ⟨rfl, -, rfl⟩
            · gi_wp2_with fail
              gi_meet
              case rel => exact ⟨rfl, rfl⟩
            · simp only [List.length_nil]
              gi_wp2_with fail
              gi_meet
              case rel => exact ⟨rfl, rfl⟩
        case rest =>
          as_aux_lemma =>
            obtain ⟨rfl, rfl⟩ := hcut
            gi_wp2_with fail
            obtain ⟨W3, hW3⟩ : ∃ W3, wc.alloc (.cells #[.bool false, .bool false, .bool false, .bool false, .bool false] 62) = W3 := ⟨_, rfl⟩
            rw [hW3]
            have HU0 := Lib.hid (show Used W3 wc.heap.size [] by
              rw [← hW3]
              intro c hc
              have : c = 0 ∨ c = 1 ∨ c = 2 ∨ c = 3 ∨ c = 4 := by omega
              have h := World.alloc_heap_new wc (.cells #[.bool false, .bool false, .bool false, .bool false, .bool false] 62)
              rcases this with rfl | rfl | rfl | rfl | rfl <;> exact ⟨by simp only [World.cell?, h]; rfl, by simp only [World.frozen?, h]; rfl⟩)
            have HB3 := Lib.hid (show Bel wc W3 by rw [← hW3]; exact (Bel.refl _).alloc _)
            obtain ⟨S, hSz⟩ : ∃ S, wc.heap.size = S := ⟨_, rfl⟩
            rw [hSz] at HU0 ⊢
            have HSZ := Lib.hid (show wc.heap.size ≤ S by omega)
            clear hW3 hSz
            have HRL := Lib.hid (show ∀ k, k < q.length → (q.getD k []).length ≤ 5 ∧ q.getD k [] ≠ [] from fun k hk => by
              have h1 := (whole_ok HW.out).round hk
              have h2 := (HW.out.asc _ (show q.getD k [] ∈ q by rw [getD_lt _ _ _ hk]; exact List.getElem_mem hk)).len
              have := HS.out.n5
              exact ⟨by omega, h1.1⟩)
            have HQL := Lib.hid (show q.length ≤ 5 from Nat.le_trans HW.out.len HS.out.n5)
            gi_loopw [15] (fun i wr => ∃ k : Nat, k ≤ q.length ∧ i = .int .i64 k ∧ Used wr S (q.take k).flatten ∧ Bel wc wr) (fun i _ => q.length - (intOf i).toNat)
            case atStart => exact ⟨0, Nat.zero_le _, rfl, by simpa using HU0.out, HB3.out⟩
            case round =>
              as_aux_lemma =>
                obtain ⟨k, hk, rfl, hu, hb⟩ := hrel
                have HU := Lib.hid hu
                have HBK := Lib.hid hb
                clear hu hb
                by_cases hlt : k < q.length
                · have h0 : decide (k < q.length) = true := decide_eq_true hlt
                  obtain ⟨gb, goff, rv, rfl, rcell, rcol⟩ := HQ.out.rnds.elem hlt
                  have HRC := Lib.hid rcell
                  have HCOL := Lib.hid rcol
                  have HUN := Lib.hid (fun j (hj : j < (q.getD k []).length) => (whole_ok HW.out).unseen hlt hj)
                  have HASC := Lib.hid (HW.out.asc _ (show q.getD k [] ∈ q by rw [getD_lt _ _ _ hlt]; exact List.getElem_mem hlt))
                  have HRK := Lib.hid (HRL.out k hlt)
                  have HFT := Lib.hid (flat_take q k hlt)
                  clear rcell rcol
                  generalize q.getD k [] = round at *
                  generalize (q.take k).flatten = seen at *
                  obtain ⟨xa, xc, rfl⟩ := cols_some' HCOL.out
                  gi_wp2_with fail
                  gi_loopw [16] (fun i wr => ∃ j : Nat, j ≤ round.length ∧ i = .int .i64 j ∧ Used wr S (seen ++ round.take j) ∧ Bel wc wr) (fun i _ => round.length - (intOf i).toNat)
                  case atStart => exact ⟨0, Nat.zero_le _, rfl, by simpa using HU.out, HBK.out⟩
                  case round =>
                    as_aux_lemma =>
                      obtain ⟨j, hj, rfl, hu, hb⟩ := hrel
                      have HU2 := Lib.hid hu
                      have HB2 := Lib.hid hb
                      have rcell := hb.cell HRC.out
                      have hrk := HRK.out.1
                      have hql := HQL.out
                      clear hu hb
                      by_cases hjl : j < round.length
                      · have z1 : decide (j < round.length) = true := decide_eq_true hjl
                        obtain ⟨xb, xoff, rfl, xcell⟩ := HCOL.out.cellAt hjl
                        have qcell := HB2.out.cell xcell
                        have hx : round.getD j 0 < s.paints.length := asc_lt HASC.out hjl
                        have hn5 := HS.out.n5
                        obtain ⟨ucell, ufro⟩ := HU2.out (round.getD j 0) (by omega)
                        rw [HUN.out j hjl] at ucell
                        have HSET := Lib.hid (HU2.out.set (x := round.getD j 0) (by omega))
                        have HTS := Lib.hid (take_snocN round j hjl)
                        obtain ⟨c0, -⟩ := HC.out.bel (HBc1.out.trans HB2.out)
                        have hx5 : round.getD j 0 < 5 := by omega
                        have HPR := Lib.hid (show 0 < j → ∃ z : Nat, z < round.getD j 0 ∧ wr.cell? ⟨xb, xoff + (j - 1), none⟩ = some (.int .i64 z) from fun h0 => by
                          obtain ⟨b2, o2, e2, k2⟩ := HCOL.out.cellAt (j := j - 1) (by omega)
                          injection e2 with e2
                          injection e2 with e2 e3
                          subst e2 e3
                          refine ⟨round.getD (j - 1) 0, ?_, HB2.out.cell k2⟩
                          rw [getD_lt _ _ _ hjl, getD_lt _ _ _ (show j - 1 < round.length by omega)]
                          exact List.pairwise_iff_getElem.1 HASC.out.2 (j - 1) j (by omega) hjl (by omega))
                        clear xcell
                        generalize round.getD j 0 = z at *
                        have g1 : decide ((z : Int) < 0) = false := decide_eq_false (by omega)
                        have g2 : decide ((s.paints.length : Int) ≤ (z : Int)) = false := decide_eq_false (by omega)
                        have g3 : decide (s.paints.length ≤ z) = false := decide_eq_false (by omega)
                        have hun : ∀ b, (undef = Value.bool b) = False := fun b => by unfold undef; simp
                        by_cases hj0 : j = 0
                        · subst hj0
                          clear HPR
                          have qcell0 : wr.cell? ⟨xb, xoff, none⟩ = some (.int .i64 z) := qcell
                          simp only [Int.natCast_zero] 
                          gi_wp2_with fail
                          go_roundw
                          case rel =>
                            refine ⟨1, by omega, by go_num, ?_, (But.set _ _ _ _).bel HB2.out HSZ.out⟩
                            have h := HSET.out
                            rw [HTS.out, ← List.append_assoc]
                            exact h
                          case measure => simp [intOf]; omega
                        · obtain ⟨z2, hz2', pcell⟩ := HPR.out (by omega)
                          clear HPR
                          obtain ⟨j, rfl⟩ : ∃ i, j = i + 1 := ⟨j - 1, by omega⟩
                          simp only [Nat.add_sub_cancel] at pcell
                          have hlt2 : j < round.length := by omega
                          have g5 : decide (((j + 1 : Nat) : Int) > 0) = true := decide_eq_true (by omega)
                          have g6 : decide ((0 : Int) < ((j + 1 : Nat) : Int)) = true := decide_eq_true (by omega)
                          have g7 : ((j + 1 : Nat) : Int) - 1 = (j : Int) := by omega
                          have g8 : decide ((z : Int) ≤ (z2 : Int)) = false := decide_eq_false (by omega)
                          have g9 : decide (z ≤ z2) = false := decide_eq_false (by omega)
                          gi_wp2_with fail
                          go_roundw
                          case rel =>
                            refine ⟨j + 1 + 1, by omega, by go_num, ?_, (But.set _ _ _ _).bel HB2.out HSZ.out⟩
                            have h := HSET.out
                            rw [HTS.out, ← List.append_assoc]
                            exact h
                          case measure => simp [intOf]; omega
                      · obtain rfl : j = round.length := by omega
                        have hl0 : (round.length == 0) = false := by rw [beq_eq_false_iff_ne]; exact fun h => HRK.out.2 (List.length_eq_zero_iff.1 h)
                        have hl1 : ((round.length : Int) == 0) = false := by rw [beq_eq_false_iff_ne]; exact fun h => HRK.out.2 (List.length_eq_zero_iff.1 (by omega))
                        have hl2 : ¬ round.length = 0 := fun h => HRK.out.2 (List.length_eq_zero_iff.1 h)
                        have HU3 := Lib.hid (show Used wr S (seen ++ round) by have := HU2.out; rw [List.take_length] at this; exact this)
                        clear HU2
                        gi_wp2_with fail
                        go_roundw
                        case rel => exact ⟨k + 1, by omega, by go_num, by rw [HFT.out]; exact HU3.out, HB2.out⟩
                        case measure => simp [intOf]; omega
                · obtain rfl : k = q.length := by omega
                  have HUQ := Lib.hid (show Used wr S q.flatten by have := HU.out; rw [List.take_length] at this; exact this)
                  clear HU HU0 HB3 HSZ HRL hlt hk
                  gi_wp2_with fail
                  obtain ⟨w4, rfl⟩ : ∃ w4, w4 = wr := ⟨_, rfl⟩
                  gi_loopw [18] (fun i wr => ∃ c : Nat, c ≤ s.paints.length ∧ i = .int .i64 c ∧ Bel w4 wr) (fun i _ => s.paints.length - (intOf i).toNat)
                  case atStart => exact ⟨0, Nat.zero_le _, rfl, Bel.refl _⟩
                  case round =>
                    as_aux_lemma =>
                      obtain ⟨c, hc, rfl, hb⟩ := hrel
                      have HBC := Lib.hid hb
                      have hn5 := HS.out.n5
                      obtain ⟨c0, -⟩ := HC.out.bel ((HBc1.out.trans HBK.out).trans hb)
                      have hun : ∀ b, (undef = Value.bool b) = False := fun b => by unfold undef; simp
                      clear hb
                      by_cases hgo : c < s.paints.length ∧ er = 0
                      · obtain ⟨hlt, rfl⟩ := hgo
                        have h0 : decide (c < s.paints.length) = true := decide_eq_true hlt
                        have hin : q.flatten.contains c = true := by
                          rcases HQ.out.how with ⟨-, h⟩ | ⟨h, -⟩
                          · rw [← HLR.out] at h
                            rw [List.contains_eq_mem]; exact decide_eq_true ((CSet.best_some HS.out h).2.2 c hlt)
                          · cases h
                        obtain ⟨ucell, -⟩ := (HUQ.out.bel HBC.out) c (by omega)
                        rw [hin] at ucell
                        clear hin
                        gi_wp2_with fail
                        go_roundw
                        case rel => exact ⟨c + 1, by omega, by go_num, HBC.out⟩
                        case measure => simp [intOf]; omega
                      · gi_upto_region 24 with fail
                        gi_cut [155] from 400 (fun z wx => z = .bool false ∧ wx = wr)
                        case first =>
                          as_aux_lemma =>
                            by_cases hlt : c < s.paints.length
                            · have h0 : decide (c < s.paints.length) = true := decide_eq_true hlt
                              rcases HQ.out.how with ⟨h, -⟩ | ⟨rfl, -, -⟩
                              · exact absurd ⟨hlt, h⟩ hgo
                              · clear hgo
                                gi_wp2_with fail
                                gi_meet
                                case rel => exact ⟨rfl, rfl⟩
                            · obtain rfl : c = s.paints.length := by omega
                              clear hgo
                              gi_wp2_with fail
                              gi_meet
                              case rel => exact ⟨rfl, rfl⟩
                        case rest =>
                          as_aux_lemma =>
                            obtain ⟨rfl, rfl⟩ := hcut
                            have HB4 := Lib.hid (HBK.out.trans HBC.out)
                            have HBW := Lib.hid (HBc1.out.trans HB4.out)
                            have HLT := Lib.hid (show ∀ r, r ∈ q → ∀ c, c ∈ r → c < s.paints.length from fun r hr c hc => (HW.out.asc r hr).1 c hc)
                            have HRL := Lib.hid (show ∀ r, r ∈ q → r.length ≤ 1000 from fun r hr => by
                              have h1 := (HW.out.asc r hr).len
                              have := HS.out.n5
                              omega)
                            have HQ1 := Lib.hid (show q.length ≤ 1000 by have := HQL.out; omega)
                            have KA := Lib.hid (all_any s HS.out _ (.slice ra q.length rc) q wc (HSV.out.bel HBW.out) (HQ.out.rnds.bel HB4.out) HLT.out HQ1.out HRL.out)
                            obtain ⟨c0, c1, c2, c3⟩ := HC.out.bel HBW.out
                            clear hgo
                            gi_wp2_with fail
                            refine ⟨trivial, rfl, (callsW KA.out).mono ?_⟩
                            rintro e w7 ⟨rfl, hb7⟩
                            have HB7 := Lib.hid (HB4.out.trans hb7)
                            clear hb7 KA c0 c1 c2 c3
                            simp only [eachV]
                            gi_wp2_with fail
                            obtain ⟨W8, hW8⟩ : ∃ W8, w7.alloc (.cells #[.int .i64 ((s.fire q).1 0), .int .i64 ((s.fire q).1 1), .int .i64 ((s.fire q).1 2), .int .i64 ((s.fire q).1 3), .int .i64 ((s.fire q).1 4)] 50) = W8 := ⟨_, rfl⟩
                            rw [hW8]
                            have HB8 := Lib.hid (show Bel _ W8 by rw [← hW8]; exact HB7.out.alloc _)
                            have HBW8 := Lib.hid (HBc1.out.trans HB8.out)
                            clear hW8 HB7
                            generalize w7.heap.size = D at *
                            have HEN := Lib.hid (show er = 0 → ∀ z, z < 1024 → endR s q z = true from fun h0 z hz => by
                              rcases HQ.out.how with ⟨-, h⟩ | ⟨h, -⟩
                              · rw [← HLR.out] at h
                                obtain ⟨hw, hsu, -⟩ := CSet.best_some HS.out h
                                rw [surely_iff HS.out (whole_ok hw)] at hsu
                                unfold endsR at hsu
                                rw [List.all_eq_true] at hsu
                                exact hsu z (List.mem_range.2 hz)
                              · omega)
                            gi_loopw [21] (fun iv wr => ∃ z : Nat, z ≤ 1024 ∧ iv = .int .i64 z ∧ Bel W8 wr) (fun iv _ => 1024 - (intOf iv).toNat)
                            case atStart => exact ⟨0, Nat.zero_le _, rfl, Bel.refl _⟩
                            case round =>
                              as_aux_lemma =>
                                obtain ⟨z, hz, rfl, hb⟩ := hrel
                                have HBZ := Lib.hid hb
                                have HBZW := Lib.hid (HBW8.out.trans hb)
                                have HBZ8 := Lib.hid (HB8.out.trans hb)
                                obtain ⟨c0, c1, c2, c3⟩ := HC.out.bel HBZW.out
                                have hun : ∀ b, (undef = Value.bool b) = False := fun b => by unfold undef; simp
                                clear hb
                                by_cases hgo : z < 1024 ∧ er = 0
                                · obtain ⟨hlt, rfl⟩ := hgo
                                  have h0 : decide ((z : Int) < 1024) = true := decide_eq_true (by omega)
                                  have KE := Lib.hid (ends_any s HS.out _ z hlt wr (HSV.out.bel HBZW.out))
                                  have HER := Lib.hid (HEN.out rfl z hlt)
                                  gi_wp2_with fail
                                  refine ⟨trivial, rfl, (callsW KE.out).mono ?_⟩
                                  rintro e w5 ⟨hv5, tv5, rfl, hh5, ht5, hb5⟩
                                  have HB5 := Lib.hid (HBZW.out.trans hb5)
                                  have HBY5 := Lib.hid (HBZ.out.trans hb5)
                                  have HBQ5 := Lib.hid (HBZ8.out.trans hb5)
                                  have KR := Lib.hid (right_any s HS.out _ (.slice ra q.length rc) hv5 tv5 q (endsH s z s.paints.length) (endsT s z s.paints.length) w5 (HSV.out.bel HB5.out) (HQ.out.rnds.bel HBQ5.out) hh5 ht5 (endsH_len _ _ _) (endsT_len _ _ _) (fun c => (ends_bound HS.out z c).1) (fun c => (ends_bound HS.out z c).2) HLT.out HQ1.out HRL.out)
                                  obtain ⟨d0, d1, d2, d3⟩ := HC.out.bel HB5.out
                                  clear hh5 ht5 hb5 KE c0 c1 c2 c3
                                  gi_wp2_with fail
                                  refine ⟨trivial, rfl, (callsW KR.out).mono ?_⟩
                                  rintro e w6 ⟨rfl, hb6⟩
                                  have her := HER.out
                                  unfold endR at her
                                  simp only [her]
                                  have HBF := Lib.hid (HBY5.out.trans hb6)
                                  clear hb6 her
                                  gi_wp2_with fail
                                  go_roundw
                                  case rel => exact ⟨z + 1, by omega, by go_num, HBF.out⟩
                                  case measure => simp [intOf]; omega
                                · gi_upto_region 30 with fail
                                  gi_cut [173] from 400 (fun v wx => v = .bool false ∧ wx = wr)
                                  case first =>
                                    as_aux_lemma =>
                                      by_cases hlt : z < 1024
                                      · have h0 : decide ((z : Int) < 1024) = true := decide_eq_true (by omega)
                                        rcases HQ.out.how with ⟨h, -⟩ | ⟨rfl, -, -⟩
                                        · exact absurd ⟨hlt, h⟩ hgo
                                        · clear hgo
                                          gi_wp2_with fail
                                          gi_meet
                                          case rel => exact ⟨rfl, rfl⟩
                                      · obtain rfl : z = 1024 := by omega
                                        clear hgo
                                        gi_wp2_with fail
                                        gi_meet
                                        case rel => exact ⟨rfl, rfl⟩
                                  case rest =>
                                    as_aux_lemma =>
                                      obtain ⟨rfl, rfl⟩ := hcut
                                      clear hgo c0 c1 c2 c3 HEN HBZ HB8 HBW8 hz
                                      gi_wp2_with fail
                                      generalize (s.fire q).1 0 = f0
                                      generalize (s.fire q).1 1 = f1
                                      generalize (s.fire q).1 2 = f2
                                      generalize (s.fire q).1 3 = f3
                                      generalize (s.fire q).1 4 = f4
                                      gi_loopw [24] (fun iv wr => ∃ k : Nat, k ≤ bss.length ∧ k ≤ 12 ∧ iv = .int .i64 k ∧ Bel wc wr) (fun iv _ => 12 - (intOf iv).toNat)
                                      case atStart => exact ⟨0, Nat.zero_le _, Nat.zero_le _, rfl, Bel.refl _⟩
                                      case round =>
                                        as_aux_lemma =>
                                          obtain ⟨k, hk, hk2, rfl, hb⟩ := hrel
                                          have HBK6 := Lib.hid (HBZ8.out.trans hb)
                                          have HBKW := Lib.hid (HBZW.out.trans hb)
                                          have HBK0 := Lib.hid hb
                                          obtain ⟨c0, c1, c2, c3⟩ := HC.out.bel HBKW.out
                                          have hun : ∀ b, (undef = Value.bool b) = False := fun b => by unfold undef; simp
                                          clear hb
                                          by_cases hgo : k < bss.length ∧ k < 12
                                          · obtain ⟨hlt, hlt2⟩ := hgo
                                            have h0 : decide (k < bss.length) = true := decide_eq_true hlt
                                            have h1 : decide ((k : Int) < 12) = true := decide_eq_true (by omega)
                                            have h2 : decide (k < 12) = true := decide_eq_true hlt2
                                            obtain ⟨tb, toff, sk, rfl, qk, hyk⟩ : ∃ tb toff sk, ba = some ⟨tb, toff, none⟩ ∧ W1.cell? ⟨tb, toff + k, none⟩ = some sk ∧ Byts W1 sk (bss.getD k []) := by
                                              obtain ⟨a', c', e', -, -, h⟩ := HYW.out
                                              injection e' with e1 e2 e3
                                              subst e1
                                              exact h k hlt
                                            have hbl : bss.length ≤ bc ∧ bc ≤ maxLen := by
                                              obtain ⟨a', c', e', p1, p2, -⟩ := HYW.out
                                              injection e' with e1 e2 e3
                                              subst e3
                                              exact ⟨p1, p2⟩
                                            have HBL := Lib.hid hbl
                                            have HQK := Lib.hid (HBKW.out.cell qk)
                                            have HYK := Lib.hid (hyk.bel HBKW.out)
                                            clear qk hyk hbl
                                            have KL := Lib.hid (laid_any s.paints.length sk (bss.getD k []))
                                            have HDEF := Lib.hid (show laysUp (bss.getD k []) (min s.paints.length (bss.getD k []).length) 5 = planBy s.paints.length (bss.getD k []) from rfl)
                                            have HPO := Lib.hid (planBy_ok s.paints.length (bss.getD k []))
                                            have HPL := Lib.hid (planBy_len s.paints.length (bss.getD k []))
                                            generalize planBy s.paints.length (bss.getD k []) = other at *
                                            generalize bss.getD k [] = bk at *
                                            gi_wp2_with fail
                                            refine region_growF (fun i v W => match i with
                                              | 0 => v = .pointer (some ⟨B, 0, none⟩)
                                              | 1 => v = .slice qa s.paints.length qc
                                              | 2 => v = .int .i64 ((s.paints.length : Nat) : Int)
                                              | 3 => v = .slice (some ⟨tb, toff, none⟩) bss.length bc
                                              | 4 => v = .int .i64 ((k : Nat) : Int)
                                              | 5 => v = .pointer (some ⟨tb, toff + k, none⟩)
                                              | 6 => v = sk
                                              | 7 => RndN wr.heap.size W v other
                                              | 8 => RndN wr.heap.size W v other
                                              | _ => True) ?gfa38 ?gframe38 (by kernel_rfl) (by kernel_rfl) (by kernel_rfl) ?gstays38 ?gops38 ?gfin38
                                            case gframe38 =>
                                              intro vs
                                              simp only [putAll, Act.put, List.setIfInBounds_toArray, List.set_cons_succ, List.set_cons_zero, Nat.reduceAdd, Nat.zero_add]
                                              exact rfl
                                            case gstays38 =>
                                              intro i v W W' h hb
                                              split at h <;> first | exact h | exact h.bel hb | exact fun e => (h e).bel hb | exact ⟨h.1.bel hb, h.2⟩
                                            case gops38 =>
                                              refine ⟨?_, ?_, ?_, ?_, ?_, ?_, ?_, ?_, ?_, trivial⟩
                                              · refine growOpF_k ?_; intro vs W hW hd K HK
                                                clear hd
                                                gi_wp2_with fail
                                                refine HK.out _ _ ?_ ?_ ?_
                                                · kernel_rfl
                                                · rfl
                                                · exact Bel.refl _
                                              · refine growOpF_k ?_; intro vs W hW hd K HK
                                                have h0 : (vs 0) = .pointer (some ⟨B, 0, none⟩) := hd 0 (by decide)
                                                clear hd
                                                obtain ⟨c0, c1, c2, c3⟩ := HC.out.bel (HBKW.out.trans hW)
                                                simp only [h0]
                                                gi_wp2_with fail
                                                refine HK.out _ _ ?_ ?_ ?_
                                                · (try simp only [h0]) <;> kernel_rfl
                                                · rfl
                                                · exact Bel.refl _
                                              · refine growOpF_k ?_; intro vs W hW hd K HK
                                                have h1 : (vs 1) = .slice qa s.paints.length qc := hd 1 (by decide)
                                                clear hd
                                                simp only [h1]
                                                gi_wp2_with fail
                                                refine HK.out _ _ ?_ ?_ ?_
                                                · (try simp only [h1]) <;> kernel_rfl
                                                · rfl
                                                · exact Bel.refl _
                                              · refine growOpF_k ?_; intro vs W hW hd K HK
                                                clear hd
                                                gi_wp2_with fail
                                                refine HK.out _ _ ?_ ?_ ?_
                                                · kernel_rfl
                                                · rfl
                                                · exact Bel.refl _
                                              · refine growOpF_k ?_; intro vs W hW hd K HK
                                                clear hd
                                                gi_wp2_with fail
                                                refine HK.out _ _ ?_ ?_ ?_
                                                · kernel_rfl
                                                · rfl
                                                · exact Bel.refl _
                                              · refine growOpF_k ?_; intro vs W hW hd K HK
                                                have h3 : (vs 3) = .slice (some ⟨tb, toff, none⟩) bss.length bc := hd 3 (by decide)
                                                have h4 : (vs 4) = .int .i64 ((k : Nat) : Int) := hd 4 (by decide)
                                                clear hd
                                                simp only [h3, h4]
                                                gi_wp2_with fail
                                                refine HK.out _ _ ?_ ?_ ?_
                                                · (try simp only [h3, h4]) <;> kernel_rfl
                                                · rfl
                                                · exact Bel.refl _
                                              · refine growOpF_k ?_; intro vs W hW hd K HK
                                                have h5 : (vs 5) = .pointer (some ⟨tb, toff + k, none⟩) := hd 5 (by decide)
                                                clear hd
                                                have q0 := hW.cell HQK.out
                                                simp only [h5]
                                                gi_wp2_with fail
                                                refine HK.out _ _ ?_ ?_ ?_
                                                · (try simp only [h5]) <;> kernel_rfl
                                                · rfl
                                                · exact Bel.refl _
                                              · refine growOpF_k ?_; intro vs W hW hd K HK
                                                have h2 : (vs 2) = .int .i64 ((s.paints.length : Nat) : Int) := hd 2 (by decide)
                                                have h6 : (vs 6) = sk := hd 6 (by decide)
                                                clear hd
                                                have kl := KL.out W (HYK.out.bel hW) (by have := HS.out.n5; omega)
                                                simp only [h2, h6]
                                                gi_wp2_with fail
                                                refine ⟨trivial, rfl, (callsW kl).mono ?_⟩
                                                rintro e W' ⟨rv, rfl, hrn, hb⟩
                                                rw [HDEF.out] at hrn
                                                have hrn2 := hrn.le (base' := wr.heap.size) hW.size
                                                gi_wp2_with fail
                                                refine HK.out _ _ ?_ ?_ ?_
                                                · (try simp only [h2, h6]) <;> kernel_rfl
                                                · exact hrn2
                                                · exact hb
                                              · refine growOpF_k ?_; intro vs W hW hd K HK
                                                have h7 : RndN wr.heap.size W (vs 7) other := hd 7 (by decide)
                                                clear hd
                                                gi_wp2_with fail
                                                refine HK.out _ _ ?_ ?_ ?_
                                                · kernel_rfl
                                                · exact h7
                                                · exact Bel.refl _
                                            case gfin38 =>
                                              intro vs W hW hall
                                              have g8 : RndN wr.heap.size W (vs 8) other := hall 8 (by decide)
                                              clear hall
                                              generalize vs 8 = rv at *
                                              obtain ⟨oa, oc, rfl⟩ := rndN_sl' g8
                                              have HOR := Lib.hid g8.rnds
                                              have HBO := Lib.hid (HBK0.out.trans hW)
                                              have HBOW := Lib.hid (HBKW.out.trans hW)
                                              have HBO6 := Lib.hid (HBK6.out.trans hW)
                                              have HRL2 := Lib.hid (show ∀ r, r ∈ other → r.length ≤ 5 from fun r hr => by
                                                have h1 := (HPO.out.2 r hr).len
                                                have := HS.out.n5
                                                omega)
                                              have HPL5 := HPL.out
                                              clear g8 hW c0 c1 c2 c3 KL HYK HQK HDEF
                                              gi_wp2_with fail
                                              gi_loopw [26, 27] (fun mv iv wr => ∃ r : Nat, r ≤ other.length ∧ iv = .int .i64 r ∧ mv = .int .i64 (manyTo other r : Nat) ∧ manyTo other r ≤ 5 * r ∧ Bel W wr) (fun _ iv _ => other.length - (intOf iv).toNat)
                                              case atStart => exact ⟨0, Nat.zero_le _, rfl, by simp [manyTo], by simp [manyTo], Bel.refl _⟩
                                              case round =>
                                                as_aux_lemma =>
                                                  obtain ⟨r, hr, rfl, rfl, hm, hb⟩ := hrel
                                                  have HBR := Lib.hid hb
                                                  clear hb
                                                  by_cases hlt3 : r < other.length
                                                  · have h0 : decide (r < other.length) = true := decide_eq_true hlt3
                                                    obtain ⟨gb, goff, xv, rfl, xcell, hxc⟩ := HOR.out.elem hlt3
                                                    have xcell' := HBR.out.cell xcell
                                                    have HMS := Lib.hid (manyTo_succ other r hlt3)
                                                    have hx5 : (other.getD r []).length ≤ 5 := HRL2.out _ (by rw [getD_lt _ _ _ hlt3]; exact List.getElem_mem hlt3)
                                                    obtain ⟨xa, xc, rfl⟩ := cols_some' hxc
                                                    clear hxc xcell
                                                    generalize other.getD r [] = rr at *
                                                    generalize manyTo other r = m at *
                                                    gi_wp2_with fail
                                                    go_roundw
                                                    case rel => exact ⟨r + 1, by omega, by go_num, by rw [HMS.out]; go_num, by rw [HMS.out]; omega, HBR.out⟩
                                                    case measure => simp [intOf]; omega
                                                  · obtain rfl : r = other.length := by omega
                                                    rw [manyTo_all] at *
                                                    have HBR6 := Lib.hid (HBO6.out.trans HBR.out)
                                                    have HBRW := Lib.hid (HBOW.out.trans HBR.out)
                                                    have HBRO := Lib.hid (HBO.out.trans HBR.out)
                                                    have HORR := Lib.hid (HOR.out.bel HBR.out)
                                                    have HM5 := Lib.hid (show CSet.manyOf other ≤ 5 by
                                                      have h1 : other.flatten.length ≤ (List.range s.paints.length).length := List.Nodup.length_le_of_subset HPO.out.1.once (fun c hc => by
                                                        obtain ⟨r, hr, hc⟩ := List.mem_flatten.1 hc
                                                        exact List.mem_range.2 ((HPO.out.1.asc r hr).1 c hc))
                                                      rw [List.length_range] at h1
                                                      have := HS.out.n5
                                                      unfold CSet.manyOf; omega)
                                                    have HMY := Lib.hid (show s.surely other = true → CSet.manyOf other = s.paints.length → er = 0 ∧ (s.fire q).2 ≤ (s.fire other).2 from fun h1 h2 => by
                                                      obtain ⟨q', e1, e2⟩ := CSet.best_least HS.out (p := other) ⟨HPO.out.1.some_, HPO.out.2, HPO.out.1.once⟩ h1 h2
                                                      rw [HLR.out] at e1
                                                      rcases HQ.out.how with ⟨h, e3⟩ | ⟨-, e3, -⟩
                                                      · rw [e3] at e1; injection e1 with e1; subst e1; exact ⟨h, e2⟩
                                                      · rw [e3] at e1; cases e1)
                                                    generalize CSet.manyOf other = many at *
                                                    clear hm hr hlt3
                                                    have HLT2 := Lib.hid (show ∀ r, r ∈ other → ∀ c, c ∈ r → c < s.paints.length from fun r hr c hc => (HPO.out.1.asc r hr).1 c hc)
                                                    have HRL3 := Lib.hid (show ∀ r, r ∈ other → r.length ≤ 1000 from fun r hr => by have := HRL2.out r hr; omega)
                                                    have K1 := Lib.hid (own_any s _ wr (HSV.out.bel HBRW.out) (by have := HS.out.n5; omega) (by have := HS.out.eats; omega))
                                                    obtain ⟨c0, c1, c2, c3⟩ := HC.out.bel HBRW.out
                                                    gi_wp2_with fail
                                                    refine ⟨trivial, rfl, (callsW K1.out).mono ?_⟩
                                                    rintro e wa2 ⟨va2, rfl, hset, hb⟩
                                                    have HBa := Lib.hid hb
                                                    have HVa := Lib.hid hset
                                                    clear hset hb K1 c0 c1 c2 c3
                                                    gi_wp2_with fail
                                                    refine ⟨trivial, rfl, (callsW (copied_any _ other wa2 (HORR.out.bel HBa.out) HPL.out HRL3.out)).mono ?_⟩
                                                    rintro e wb2 ⟨cv2, rfl, hrn, hb⟩
                                                    have HCV := Lib.hid hrn.rnds
                                                    have HVb := Lib.hid (HVa.out.bel hb)
                                                    have HBb := Lib.hid (HBa.out.trans hb)
                                                    clear hrn hb HVa HBa
                                                    gi_wp2_with fail
                                                    refine ⟨trivial, rfl, (callsW (is_any s HS.out va2 cv2 other wb2 HVb.out HCV.out HPO.out.1 HPO.out.2)).mono ?_⟩
                                                    rintro e wc2 ⟨rfl, hb⟩
                                                    have HBc := Lib.hid (HBb.out.trans hb)
                                                    clear hb HBb HVb HCV
                                                    have KA := Lib.hid (all_any s HS.out _ (.slice oa other.length oc) other wc2 (HSV.out.bel (HBRW.out.trans HBc.out)) (HORR.out.bel HBc.out) HLT2.out HPL.out HRL3.out)
                                                    obtain ⟨c0, c1, c2, c3⟩ := HC.out.bel (HBRW.out.trans HBc.out)
                                                    gi_wp2_with fail
                                                    refine ⟨trivial, rfl, (callsW KA.out).mono ?_⟩
                                                    rintro e w7 ⟨rfl, hb7⟩
                                                    have HBE := Lib.hid (HBc.out.trans hb7)
                                                    obtain ⟨d0, d1, d2, d3⟩ := HC.out.bel ((HBRW.out.trans HBc.out).trans hb7)
                                                    clear hb7 KA c0 c1 c2 c3
                                                    simp only [eachV]
                                                    have HMY2 := HMY.out
                                                    have hm5 := HM5.out
                                                    have hn5 := HS.out.n5
                                                    have hun : ∀ b, (undef = Value.bool b) = False := fun b => by unfold undef; simp
                                                    have HFO := Lib.hid (CSet.fire_in s other 0)
                                                    generalize (s.fire other).2 = mo at *
                                                    generalize (s.fire other).1 = fo at *
                                                    generalize s.surely other = SU at *
                                                    clear HMY
                                                    gi_upto_region 48 with fail
                                                    gi_cut [252] from 400 (fun v wx => v = .bool false ∧ Bel wr wx)
                                                    case first =>
                                                      as_aux_lemma =>
                                                        have HFIN := Lib.hid (HBE.out.alloc (.cells #[.int .i64 (fo 0), .int .i64 (fo 1), .int .i64 (fo 2), .int .i64 (fo 3), .int .i64 (fo 4)] 50))
                                                        obtain ⟨a0, a1, a2, a3⟩ := HC.out.bel ((HBRW.out.trans HBE.out).alloc (.cells #[.int .i64 (fo 0), .int .i64 (fo 1), .int .i64 (fo 2), .int .i64 (fo 3), .int .i64 (fo 4)] 50))
                                                        cases SU with
                                                        | false =>
                                                          clear HMY2
                                                          gi_wp2_with fail
                                                          gi_meet
                                                          case rel => exact ⟨rfl, HFIN.out⟩
                                                        | true =>
                                                          by_cases hmn : many = s.paints.length
                                                          · obtain ⟨rfl, hle⟩ := HMY2 rfl hmn
                                                            have hlt1 : decide (mo < (s.fire q).2) = false := decide_eq_false (by omega)
                                                            subst hmn
                                                            clear HMY2
                                                            gi_wp2_with fail
                                                            gi_meet
                                                            case rel => exact ⟨rfl, HFIN.out⟩
                                                          · have e1 : (many == s.paints.length) = false := by rw [beq_eq_false_iff_ne]; exact hmn
                                                            have e2 : ((many : Int) == (s.paints.length : Int)) = false := by rw [beq_eq_false_iff_ne]; omega
                                                            clear HMY2
                                                            gi_wp2_with fail
                                                            gi_meet
                                                            case rel => exact ⟨rfl, HFIN.out⟩
                                                    case rest =>
                                                      as_aux_lemma =>
                                                        obtain ⟨rfl, hbw⟩ := hcut
                                                        have HBF := Lib.hid (HBRO.out.trans hbw)
                                                        clear hbw HMY2
                                                        gi_wp2_with fail
                                                        go_roundw
                                                        case rel => exact ⟨k + 1, by omega, by omega, by go_num, HBF.out⟩
                                                        case measure => simp [intOf]; omega
                                          · gi_upto_region 36 with fail
                                            gi_cut [195] from 400 (fun v wx => v = .bool false ∧ wx = wr)
                                            case first =>
                                              as_aux_lemma =>
                                                by_cases hlt : k < bss.length
                                                · have h0 : decide (k < bss.length) = true := decide_eq_true hlt
                                                  obtain rfl : k = 12 := by omega
                                                  clear hgo
                                                  gi_wp2_with fail
                                                  gi_meet
                                                  case rel => exact ⟨rfl, rfl⟩
                                                · obtain rfl : k = bss.length := by omega
                                                  clear hgo
                                                  gi_wp2_with fail
                                                  gi_meet
                                                  case rel => exact ⟨rfl, rfl⟩
                                            case rest =>
                                              as_aux_lemma =>
                                                obtain ⟨rfl, rfl⟩ := hcut
                                                have HBX := Lib.hid (HBK6.out)
                                                have HBXW := Lib.hid (HBKW.out)
                                                clear hgo hk hk2 HBK0 HBK6 HBKW
                                                rcases HQ.out.how with ⟨rfl, hpl⟩ | ⟨rfl, -, -⟩
                                                · have HPLN := Lib.hid (show s.planOf (List.range s.paints.length) = some q by rw [HLR.out]; exact hpl)
                                                  have hn1 : 0 < s.paints.length := by have := HS.out.n1; omega
                                                  have hn5 := HS.out.n5
                                                  obtain ⟨c, hc⟩ : ∃ c, y % s.paints.length = c := ⟨_, rfl⟩
                                                  have hcl : c < s.paints.length := by rw [← hc]; exact Nat.mod_lt _ hn1
                                                  have hmod : (y : Int) % (s.paints.length : Int) = (c : Int) := by rw [← hc]; rfl
                                                  have hmod2 : (y : Int).tmod (s.paints.length : Int) = (c : Int) := by rw [← hc]; rfl
                                                  clear hc hpl
                                                  obtain ⟨c0, c1, c2, c3⟩ := HC.out.bel HBXW.out
                                                  have hnp : (0 : Int) < (s.paints.length : Int) := by omega
                                                  gi_wp2_with fail
                                                  refine ⟨trivial, rfl, (callsW (drop_any c _ q wc (HQ.out.rnds.bel HBX.out) HQ1.out HRL.out)).mono ?_⟩
                                                  rintro e w5 ⟨lv, rfl, hln, hb⟩
                                                  have HBL5 := Lib.hid hb
                                                  have HLV := Lib.hid hln.rnds
                                                  obtain ⟨xa, xc, rfl⟩ := rndN_sl' hln
                                                  have HE := Lib.hid (fun he => CSet.best_less HS.out HPLN.out hcl he)
                                                  have HLE := Lib.hid (show (offP q c q.length).length ≤ 1000 from Nat.le_trans (offP_len q c q.length) HQ1.out)
                                                  clear hb hln hmod hmod2 c0 c1 c2 c3
                                                  generalize offP q c q.length = less at *
                                                  generalize offE q c q.length = gone at *
                                                  gi_upto_if 269 with fail
                                                  gi_cut [] from 400 (fun wx => Bel w5 wx)
                                                  case first =>
                                                    as_aux_lemma =>
                                                      cases gone with
                                                      | true =>
                                                        gi_wp2_with fail
                                                        gi_meet
                                                        case rel => exact Bel.refl _
                                                      | false =>
                                                        obtain ⟨hlw, hsu, few, hf, hfw, hff⟩ := HE.out rfl
                                                        have HLW := Lib.hid hlw
                                                        have HSU := Lib.hid hsu
                                                        have HF := Lib.hid hf
                                                        have HFW := Lib.hid hfw
                                                        have HFF := Lib.hid hff
                                                        clear hlw hsu hf hfw hff HE
                                                        have HRLL := Lib.hid (show ∀ r, r ∈ less → r.length ≤ 1000 from fun r hr => by
                                                          have h1 := (HLW.out.asc r hr).len
                                                          have := HS.out.n5
                                                          omega)
                                                        have HBXW5 := Lib.hid (HBXW.out.trans HBL5.out)
                                                        have HBX5 := Lib.hid (HBX.out.trans HBL5.out)
                                                        have K1 := Lib.hid (own_any s _ w5 (HSV.out.bel HBXW5.out) (by have := HS.out.n5; omega) (by have := HS.out.eats; omega))
                                                        obtain ⟨c0, c1, c2, c3⟩ := HC.out.bel HBXW5.out
                                                        gi_wp2_with fail
                                                        refine ⟨trivial, rfl, (callsW K1.out).mono ?_⟩
                                                        rintro e wa2 ⟨va2, rfl, hset, hb⟩
                                                        have HBa := Lib.hid hb
                                                        have HVa := Lib.hid hset
                                                        clear hset hb K1 c0 c1 c2 c3
                                                        gi_wp2_with fail
                                                        refine ⟨trivial, rfl, (callsW (copied_any _ less wa2 (HLV.out.bel HBa.out) HLE.out HRLL.out)).mono ?_⟩
                                                        rintro e wb2 ⟨cv2, rfl, hrn, hb⟩
                                                        have HCV := Lib.hid hrn.rnds
                                                        have HVb := Lib.hid (HVa.out.bel hb)
                                                        have HBb := Lib.hid (HBa.out.trans hb)
                                                        clear hrn hb HVa HBa
                                                        gi_wp2_with fail
                                                        refine ⟨trivial, rfl, (callsW (is_any s HS.out va2 cv2 less wb2 HVb.out HCV.out (whole_ok HLW.out) HLW.out.asc)).mono ?_⟩
                                                        rintro e w6 ⟨rfl, hb⟩
                                                        rw [HSU.out]
                                                        have HB6 := Lib.hid (HBb.out.trans hb)
                                                        clear hb HBb HVb HCV HSU HLV
                                                        have HBW6 := Lib.hid (HBXW5.out.trans HB6.out)
                                                        have HL6 := Lib.hid (HL.out.bel (HBX5.out.trans HB6.out))
                                                        obtain ⟨lb, lo, rfl, -⟩ := HL6.out.cellAt (j := 0) (by have := HLEN.out; omega)
                                                        have hlc : L.length ≤ lc ∧ lc ≤ maxLen := by
                                                          obtain ⟨a', c', e', p1, p2, -⟩ := HL6.out
                                                          rw [List.length_map] at e' p1
                                                          injection e' with e1 e2 e3
                                                          subst e3
                                                          exact ⟨p1, p2⟩
                                                        have HLC := Lib.hid hlc
                                                        clear hlc
                                                        gi_wp2_with fail
                                                        have HCL := Lib.hid (show c < L.length by rw [HLEN.out]; exact hcl)
                                                        refine region_growXF (ty3 w6.heap.size) 11 [2, 6] [11, 12, 13, 14, 15, 16, 17] (fun i v W => match i with
                                                          | 0 => v = .agg #[.slice qa s.paints.length qc, .int .i64 s.near, .int .i64 s.give, .slice da s.eats.length dc]
                                                          | 1 => SetT s v W
                                                          | 2 => ∃ g, v = .slice (some ⟨g, 0, none⟩) 0 0 ∧ W.ownsRow w6.heap.size 3 1 v 0 []
                                                          | 3 => v = .slice (some ⟨lb, lo, none⟩) L.length lc
                                                          | 4 => v = .int .i64 ((c : Nat) : Int)
                                                          | 5 => v = .slice (some ⟨lb, lo, none⟩) c lc
                                                          | 6 => W.ownsRow w6.heap.size 3 1 v c (valsOf (L.take c))
                                                          | 7 => v = .slice (some ⟨lb, lo, none⟩) L.length lc
                                                          | 8 => v = .int .i64 ((c : Nat) : Int)
                                                          | 9 => v = .int .i64 ((c + 1 : Nat) : Int)
                                                          | 10 => ∃ ad cap, v = .slice (some ad) (L.length - (c + 1)) cap ∧ ∀ j u, (valsOf (L.drop (c + 1)))[j]? = some u → w6.cell? (ad.add j) = some u
                                                          | 11 => Cols W v (CSet.butC s.paints.length c)
                                                          | 12 => ∃ r, v = .tuple #[r, .int .i64 0] ∧ Rnds W r few
                                                          | 13 => ∃ r, v = .tuple #[r, .int .i64 0] ∧ Rnds W r few
                                                          | 14 => Rnds W v few
                                                          | 15 => v = .int .i64 0
                                                          | 16 => Rnds W v few
                                                          | 17 => v = .int .i64 0
                                                          | _ => True) ?gfa56 ?gframe56 (by kernel_rfl) (by kernel_rfl) (by kernel_rfl) (by kernel_rfl) (by kernel_rfl) ?gstays56 ?gstaysx56 ?gops56 ?gfin56
                                                        case gframe56 =>
                                                          intro vs
                                                          simp only [putAll, Act.put, List.setIfInBounds_toArray, List.set_cons_succ, List.set_cons_zero, Nat.reduceAdd, Nat.zero_add]
                                                          exact rfl
                                                        case gstays56 =>
                                                          intro i v W W' h hb
                                                          split at h <;> first | exact h | exact h.bel hb | exact ownsRow_bel h hb | (obtain ⟨g, h1, h2⟩ := h; exact ⟨g, h1, ownsRow_bel h2 hb⟩) | (obtain ⟨r, h1, h2⟩ := h; exact ⟨r, h1, h2.bel hb⟩)
                                                        case gstaysx56 =>
                                                          intro i v W W' hi hj h hb
                                                          split at h <;> first | exact h | exact h.ty3 hb | exact absurd (by decide) hi | exact absurd (by decide) hj
                                                        case gops56 =>
                                                          refine ⟨?_, ?_, ?_, ?_, ?_, ?_, ?_, ?_, ?_, ?_, ?_, ?_, ?_, ?_, ?_, ?_, ?_, ?_, trivial⟩
                                                          · refine growOpXF_k (by decide) ?_; intro vs W hW hd K HK
                                                            clear hd
                                                            obtain ⟨c0, c1, c2, c3⟩ := HC.out.bel (HBW6.out.trans hW.bel)
                                                            gi_wp2_with fail
                                                            refine HK.out _ _ ?_ ?_ ?_
                                                            · kernel_rfl
                                                            · rfl
                                                            · exact Bel.refl _
                                                          · refine growOpXF_k (by decide) ?_; intro vs W hW hd K HK
                                                            have h0 : (vs 0) = .agg #[.slice qa s.paints.length qc, .int .i64 s.near, .int .i64 s.give, .slice da s.eats.length dc] := hd 0 (by decide) (by decide)
                                                            clear hd
                                                            have kl := own_setT s (.agg #[.slice qa s.paints.length qc, .int .i64 s.near, .int .i64 s.give, .slice da s.eats.length dc]) W (HSV.out.bel (HBW6.out.trans hW.bel)) (by have := HS.out.n5; omega) (by have := HS.out.eats; omega)
                                                            simp only [h0]
                                                            gi_wp2_with fail
                                                            refine ⟨trivial, rfl, (callsW kl).mono ?_⟩
                                                            rintro e W' ⟨v', rfl, hset, hb⟩
                                                            gi_wp2_with fail
                                                            refine HK.out _ _ ?_ ?_ ?_
                                                            · (try simp only [h0]) <;> kernel_rfl
                                                            · exact hset
                                                            · exact hb
                                                          · refine growOpXF_k (by decide) ?_; intro vs W hW hd K HK
                                                            clear hd
                                                            gi_wp2_with fail
                                                            refine HK.out _ _ ?_ ?_ ?_
                                                            · kernel_rfl
                                                            · exact ⟨_, rfl, World.ownsRow_made (base := w6.heap.size) (e := 3) (size := 1) W #[] 0 hW.size (Nat.zero_le _) rfl⟩
                                                            · exact (Bel.refl _).alloc _
                                                          · refine growOpXF_k (by decide) ?_; intro vs W hW hd K HK
                                                            clear hd
                                                            gi_wp2_with fail
                                                            refine HK.out _ _ ?_ ?_ ?_
                                                            · kernel_rfl
                                                            · rfl
                                                            · exact Bel.refl _
                                                          · refine growOpXF_k (by decide) ?_; intro vs W hW hd K HK
                                                            clear hd
                                                            gi_wp2_with fail
                                                            refine HK.out _ _ ?_ ?_ ?_
                                                            · kernel_rfl
                                                            · rfl
                                                            · exact Bel.refl _
                                                          · refine growOpXF_k (by decide) ?_; intro vs W hW hd K HK
                                                            have h3 : (vs 3) = .slice (some ⟨lb, lo, none⟩) L.length lc := hd 3 (by decide) (by decide)
                                                            have h4 : (vs 4) = .int .i64 ((c : Nat) : Int) := hd 4 (by decide) (by decide)
                                                            clear hd
                                                            have hlc := HLC.out
                                                            have hcL := HCL.out
                                                            unfold maxLen at hlc
                                                            simp only [h3, h4]
                                                            gi_wp2_with fail
                                                            refine HK.out _ _ ?_ ?_ ?_
                                                            · (try simp only [h3, h4]) <;> kernel_rfl
                                                            · rfl
                                                            · exact Bel.refl _
                                                          · refine growOpXF_k (by decide) ?_; intro vs W hW hd K HK
                                                            have h2 : ∃ g, (vs 2) = .slice (some ⟨g, 0, none⟩) 0 0 ∧ W.ownsRow w6.heap.size 3 1 (vs 2) 0 [] := hd 2 (by decide) (by decide)
                                                            have h5 : (vs 5) = .slice (some ⟨lb, lo, none⟩) c lc := hd 5 (by decide) (by decide)
                                                            clear hd
                                                            obtain ⟨g2, e2, how⟩ := h2
                                                            rw [e2] at how
                                                            have hl6 := cols_news (HL6.out.bel hW.bel)
                                                            have hm3 : w6.heap.size ≤ W.heap.size := hW.size
                                                            have hlen : (valsOf (L.take c)).length = c * 1 := by have := HCL.out; simp [valsOf]; omega
                                                            have hcells : ∀ a, some (⟨lb, lo, none⟩ : Addr) = some a → ∀ j u, (valsOf (L.take c))[j]? = some u → W.cell? (a.add j) = some u := fun a ha j u hju => hl6.2.2 a ha j u (by rw [← hju]; unfold valsOf; rw [List.map_take, List.getElem?_take]; rw [if_pos (by have := (List.getElem?_eq_some_iff.1 hju).1; rw [hlen] at this; omega)])
                                                            have hcb : c ≤ 5 := by have := HCL.out; have := HLEN.out; have := HS.out.n5; omega
                                                            simp only [e2, h5]
                                                            refine wpListIn_append_emptyO rfl _ _ 32 rfl 3 i0 _ 1 8 Try.underlying32 hi hz0 hz1 hz2 w6.heap.size g2 how hm3 rfl _ _ _ rfl rfl (valsOf (L.take c)) hlen hcells (fun _ => rfl) (by omega) (by decide) ?_
                                                            intro gb cap W' hb4 ho4
                                                            gi_wp2_with fail
                                                            refine HK.out _ _ ?_ ?_ ?_
                                                            · (try simp only [e2, h5]) <;> kernel_rfl
                                                            · exact ho4
                                                            · exact hb4
                                                          · refine growOpXF_k (by decide) ?_; intro vs W hW hd K HK
                                                            clear hd
                                                            gi_wp2_with fail
                                                            refine HK.out _ _ ?_ ?_ ?_
                                                            · kernel_rfl
                                                            · rfl
                                                            · exact Bel.refl _
                                                          · refine growOpXF_k (by decide) ?_; intro vs W hW hd K HK
                                                            clear hd
                                                            gi_wp2_with fail
                                                            refine HK.out _ _ ?_ ?_ ?_
                                                            · kernel_rfl
                                                            · rfl
                                                            · exact Bel.refl _
                                                          · refine growOpXF_k (by decide) ?_; intro vs W hW hd K HK
                                                            have h8 : (vs 8) = .int .i64 ((c : Nat) : Int) := hd 8 (by decide) (by decide)
                                                            clear hd
                                                            have hcb : c ≤ 5 := by have := HCL.out; have := HLEN.out; have := HS.out.n5; omega
                                                            simp only [h8]
                                                            gi_wp2_with fail
                                                            refine HK.out _ _ ?_ ?_ ?_
                                                            · (try simp only [h8]) <;> kernel_rfl
                                                            · rfl
                                                            · exact Bel.refl _
                                                          · refine growOpXF_k (by decide) ?_; intro vs W hW hd K HK
                                                            have h7 : (vs 7) = .slice (some ⟨lb, lo, none⟩) L.length lc := hd 7 (by decide) (by decide)
                                                            have h9 : (vs 9) = .int .i64 ((c + 1 : Nat) : Int) := hd 9 (by decide) (by decide)
                                                            clear hd
                                                            have hlc := HLC.out
                                                            have hcL := HCL.out
                                                            have hcb : c ≤ 5 := by have := HCL.out; have := HLEN.out; have := HS.out.n5; omega
                                                            have HCE := Lib.hid (cols_news HL6.out).2.2
                                                            unfold maxLen at hlc
                                                            rcases Decidable.em (lc = c + 1) with hcc | hcc
                                                            · simp only [h7, h9]
                                                              gi_wp2_with fail
                                                              refine HK.out _ _ ?_ ?_ ?_
                                                              · (try simp only [h7, h9]) <;> kernel_rfl
                                                              · refine ⟨⟨lb, lo, none⟩, _, rfl, fun j u hju => ?_⟩
                                                                have := (List.getElem?_eq_some_iff.1 hju).1
                                                                simp [valsOf] at this
                                                                omega
                                                              · exact Bel.refl _
                                                            · simp only [h7, h9]
                                                              gi_wp2_with fail
                                                              refine HK.out _ _ ?_ ?_ ?_
                                                              · (try simp only [h7, h9]) <;> kernel_rfl
                                                              · refine ⟨⟨lb, lo + (c + 1), none⟩, _, rfl, fun j u hju => ?_⟩
                                                                have h := HCE.out _ rfl (c + 1 + j) u (by rw [← hju]; unfold valsOf; rw [List.map_drop, List.getElem?_drop])
                                                                rw [addr_add] at h ⊢
                                                                rw [Nat.add_assoc]
                                                                exact h
                                                              · exact Bel.refl _
                                                          · refine growOpXF_x rfl ?_; intro vs W hW hd K HK
                                                            have h6 : W.ownsRow w6.heap.size 3 1 (vs 6) c (valsOf (L.take c)) := hd 6 (by decide) (by decide)
                                                            have h10 : ∃ ad cap, (vs 10) = .slice (some ad) (L.length - (c + 1)) cap ∧ ∀ j u, (valsOf (L.drop (c + 1)))[j]? = some u → w6.cell? (ad.add j) = some u := hd 10 (by decide) (by decide)
                                                            clear hd
                                                            obtain ⟨ad, cap, e10, hcells⟩ := h10
                                                            have hcL := HCL.out
                                                            have hcb : c ≤ 5 ∧ L.length ≤ 5 := by have := HLEN.out; have := HS.out.n5; omega
                                                            have hm3 : w6.heap.size ≤ W.heap.size := hW.size
                                                            have hlen : (valsOf (L.drop (c + 1))).length = (L.length - (c + 1)) * 1 := by simp [valsOf]
                                                            have hone : ∀ u ∈ valsOf (L.drop (c + 1)), u.oneCell' = true := fun u hu => by unfold valsOf at hu; obtain ⟨a, -, rfl⟩ := List.mem_map.1 hu; rfl
                                                            simp only [e10]
                                                            refine wpListIn_append_own2 rfl _ _ 32 rfl w6.heap.size 3 i0 (.int .i64 0) 1 8 Try.underlying32 hi hz0 hz1 hz2 rfl (by decide) _ _ _ rfl h6 ad (L.length - (c + 1)) cap (valsOf (L.drop (c + 1))) rfl hlen (fun j u hju => hW.bel.cell (hcells j u hju)) hone (by unfold maxLen; omega) (by omega) hm3 ?_
                                                            intro v' w4 ho4 hg4 _
                                                            rw [take_drop_but HLR.out hcL] at ho4
                                                            have hcol : Cols w4 v' (CSet.butC s.paints.length c) := own_cols (by rw [butC_len hcl]; have h := ho4; rw [HLEN.out] at h; exact h)
                                                            gi_wp2_with fail
                                                            refine HK.out _ _ ?_ ?_ ?_
                                                            · (try simp only [e10]) <;> kernel_rfl
                                                            · exact hcol
                                                            · exact Ty3.grown h6 hg4
                                                          · refine growOpXF_k (by decide) ?_; intro vs W hW hd K HK
                                                            have h1 : SetT s (vs 1) W := hd 1 (by decide) (by decide)
                                                            have h11 : Cols W (vs 11) (CSet.butC s.paints.length c) := hd 11 (by decide) (by decide)
                                                            clear hd
                                                            have hset : SetV W (vs 1) s := by obtain ⟨_, _, _, _, _, hset, -, -⟩ := h1; exact hset
                                                            have kl := plan_any s HS.out (vs 1) (vs 11) (CSet.butC s.paints.length c) W hset h11 (CSet.butC_asc _ _)
                                                            rw [HF.out] at kl
                                                            have KL := Lib.hid kl
                                                            clear kl h1 h11 hset
                                                            gi_wp2_with fail
                                                            refine ⟨trivial, rfl, (callsW KL.out).mono ?_⟩
                                                            rintro e W' ⟨r, er, rfl, ⟨⟨hs, hrn⟩, rfl⟩, hb⟩
                                                            gi_wp2_with fail
                                                            refine HK.out _ _ ?_ ?_ ?_
                                                            · kernel_rfl
                                                            · exact ⟨_, rfl, hrn.rnds⟩
                                                            · exact hb
                                                          · refine growOpXF_k (by decide) ?_; intro vs W hW hd K HK
                                                            have h12 : ∃ r, (vs 12) = .tuple #[r, .int .i64 0] ∧ Rnds W r few := hd 12 (by decide) (by decide)
                                                            clear hd
                                                            obtain ⟨r, e4, hr⟩ := h12
                                                            simp only [e4]
                                                            gi_wp2_with fail
                                                            refine HK.out _ _ ?_ ?_ ?_
                                                            · (try simp only [e4]) <;> kernel_rfl
                                                            · exact ⟨r, rfl, hr⟩
                                                            · exact Bel.refl _
                                                          · refine growOpXF_k (by decide) ?_; intro vs W hW hd K HK
                                                            have h13 : ∃ r, (vs 13) = .tuple #[r, .int .i64 0] ∧ Rnds W r few := hd 13 (by decide) (by decide)
                                                            clear hd
                                                            obtain ⟨r, e4, hr⟩ := h13
                                                            simp only [e4]
                                                            gi_wp2_with fail
                                                            refine HK.out _ _ ?_ ?_ ?_
                                                            · (try simp only [e4]) <;> kernel_rfl
                                                            · exact hr
                                                            · exact Bel.refl _
                                                          · refine growOpXF_k (by decide) ?_; intro vs W hW hd K HK
                                                            have h13 : ∃ r, (vs 13) = .tuple #[r, .int .i64 0] ∧ Rnds W r few := hd 13 (by decide) (by decide)
                                                            clear hd
                                                            obtain ⟨r, e4, hr⟩ := h13
                                                            simp only [e4]
                                                            gi_wp2_with fail
                                                            refine HK.out _ _ ?_ ?_ ?_
                                                            · (try simp only [e4]) <;> kernel_rfl
                                                            · rfl
                                                            · exact Bel.refl _
                                                          · refine growOpXF_k (by decide) ?_; intro vs W hW hd K HK
                                                            have h14 : Rnds W (vs 14) few := hd 14 (by decide) (by decide)
                                                            clear hd
                                                            gi_wp2_with fail
                                                            refine HK.out _ _ ?_ ?_ ?_
                                                            · kernel_rfl
                                                            · exact h14
                                                            · exact Bel.refl _
                                                          · refine growOpXF_k (by decide) ?_; intro vs W hW hd K HK
                                                            have h15 : (vs 15) = .int .i64 0 := hd 15 (by decide) (by decide)
                                                            clear hd
                                                            simp only [h15]
                                                            gi_wp2_with fail
                                                            refine HK.out _ _ ?_ ?_ ?_
                                                            · (try simp only [h15]) <;> kernel_rfl
                                                            · rfl
                                                            · exact Bel.refl _
                                                        case gfin56 =>
                                                          intro vs W hW hall
                                                          have g16 : Rnds W (vs 16) few := hall 16 (by decide) (by decide)
                                                          have g17 : vs 17 = .int .i64 0 := hall 17 (by decide) (by decide)
                                                          clear hall
                                                          simp only [g17]
                                                          generalize vs 16 = fv at *
                                                          obtain ⟨oa, oc, rfl⟩ := rnds_sl g16
                                                          have hWB := hW.bel
                                                          have HFR := Lib.hid g16
                                                          have HB7 := Lib.hid (HBW6.out.trans hWB)
                                                          have HB75 := Lib.hid (HB6.out.trans hWB)
                                                          have HTL := Lib.hid (show few.length ≤ 1000 by have := HFW.out.len; have := HS.out.n5; omega)
                                                          have HTRL := Lib.hid (show ∀ r, r ∈ few → r.length ≤ 1000 from fun r hr => by
                                                            have h1 := (HFW.out.asc r hr).len
                                                            have := HS.out.n5
                                                            omega)
                                                          have HTLT := Lib.hid (show ∀ r, r ∈ few → ∀ c, c ∈ r → c < s.paints.length from fun r hr c hc => (HFW.out.asc r hr).1 c hc)
                                                          have KS := Lib.hid (sane_any s.paints.length qa qc (.slice da s.eats.length dc) (.slice oa few.length oc) s.near s.give few W g16 HTL.out HTRL.out)
                                                          have HSN := Lib.hid HFW.out.sane
                                                          clear g16 g17 hW hWB HL6
                                                          obtain ⟨c0, c1, c2, c3⟩ := HC.out.bel HB7.out
                                                          have hun : ∀ b, (undef = Value.bool b) = False := fun b => by unfold undef; simp
                                                          gi_wp2_with fail
                                                          refine ⟨trivial, rfl, (callsW KS.out).mono ?_⟩
                                                          rintro e w8 ⟨rfl, hb⟩
                                                          rw [HSN.out]
                                                          have HB10 := Lib.hid (HB7.out.trans hb)
                                                          have HB105 := Lib.hid (HB75.out.trans hb)
                                                          have HTR10 := Lib.hid (HFR.out.bel hb)
                                                          clear hb KS HSN c0 c1 c2 c3
                                                          obtain ⟨c0, c1, c2, c3⟩ := HC.out.bel HB10.out
                                                          have KA := Lib.hid (all_any s HS.out _ (.slice oa few.length oc) few w8 (HSV.out.bel HB10.out) HTR10.out HTLT.out HTL.out HTRL.out)
                                                          gi_wp2_with fail
                                                          refine ⟨trivial, rfl, (callsW KA.out).mono ?_⟩
                                                          rintro e w11 ⟨rfl, hb⟩
                                                          have HB11 := Lib.hid (HB105.out.trans hb)
                                                          clear hb KA c0 c1 c2 c3
                                                          simp only [eachV]
                                                          have hle := HFF.out
                                                          have hle1 : decide ((s.fire few).2 > (s.fire q).2) = false := decide_eq_false (by omega)
                                                          have hle2 : decide ((s.fire q).2 < (s.fire few).2) = false := decide_eq_false (by omega)
                                                          gi_wp2_with fail
                                                          gi_meet
                                                          case rel => exact HB11.out.alloc _
                                                  case rest =>
                                                    as_aux_lemma =>
                                                      have HBY := Lib.hid (HBL5.out.trans hcut)
                                                      have HBYW := Lib.hid (HBXW.out.trans HBY.out)
                                                      have HBY1 := Lib.hid (HBX.out.trans HBY.out)
                                                      clear hcut HE HLE HLV HBL5
                                                      have K1 := Lib.hid (own_any s _ _ (HSV.out.bel HBYW.out) (by have := HS.out.n5; omega) (by have := HS.out.eats; omega))
                                                      obtain ⟨c0, c1, c2, c3⟩ := HC.out.bel HBYW.out
                                                      gi_wp2_with fail
                                                      refine ⟨trivial, rfl, (callsW K1.out).mono ?_⟩
                                                      rintro e wa7 ⟨va7, rfl, hset, hb⟩
                                                      obtain ⟨pv7, ev7, rfl, h1, h2⟩ := hset
                                                      have HP7 := Lib.hid h1
                                                      have HE7 := Lib.hid h2
                                                      obtain ⟨ga, gc, rfl, -, -, -, -⟩ := h1
                                                      obtain ⟨ja, jc, rfl, -, -, -, -⟩ := h2
                                                      have HBa7 := Lib.hid hb
                                                      clear hb K1 c0 c1 c2 c3
                                                      have hb1 := HS.out.near0
                                                      have hb2 := HS.out.near1
                                                      have hb3 := HS.out.give0
                                                      have hb4 := HS.out.give1
                                                      obtain ⟨z, hz⟩ : ∃ z, y % 20 = z := ⟨_, rfl⟩
                                                      have hzl : z < 20 := by omega
                                                      have hz0' : (0 : Int) ≤ (z : Int) := by omega
                                                      have hmod : (y : Int) % 20 = (z : Int) := by rw [← hz]; rfl
                                                      clear hz
                                                      gi_wp2_with fail
                                                      clear hmod
                                                      obtain ⟨N, hN⟩ : ∃ N, min 100 (s.near + 10) = N := ⟨_, rfl⟩
                                                      obtain ⟨G, hG⟩ : ∃ G, min 100 (s.give + (z : Int)) = G := ⟨_, rfl⟩
                                                      rw [hN, hG]
                                                      have HNG := Lib.hid (show (s.near ≤ N ∧ N ≤ 100) ∧ s.give ≤ G ∧ G ≤ 100 by omega)
                                                      clear hN hG hzl hb1 hb2 hb3 hb4
                                                      obtain ⟨W9, hW9⟩ : ∃ W9, wa7.alloc (.cells #[.slice ga s.paints.length gc, .int .i64 N, .int .i64 G, .slice ja s.eats.length jc] 31) = W9 := ⟨_, rfl⟩
                                                      rw [hW9]
                                                      have HC9 := Lib.hid (show C4 W9 wa7.heap.size (.slice ga s.paints.length gc) (.int .i64 N) (.int .i64 G) (.slice ja s.eats.length jc) by rw [← hW9]; exact C4.new _ _ _ _ _ _)
                                                      have HB9 := Lib.hid (show Bel _ W9 by rw [← hW9]; exact HBa7.out.alloc _)
                                                      have HSV9 := Lib.hid (show SetV W9 (.agg #[.slice ga s.paints.length gc, .int .i64 N, .int .i64 G, .slice ja s.eats.length jc]) (s.wider N G) from ⟨_, _, rfl, by rw [← hW9]; exact HP7.out.bel ((Bel.refl _).alloc _), by rw [← hW9]; exact HE7.out.bel ((Bel.refl _).alloc _)⟩)
                                                      clear hW9 HP7 HE7 HBa7
                                                      generalize wa7.heap.size = E at *
                                                      obtain ⟨t, ht, htw, htf⟩ := CSet.best_wide HS.out HPLN.out HNG.out.1 HNG.out.2
                                                      rw [HLR.out] at ht
                                                      have HT := Lib.hid ht
                                                      have HTW := Lib.hid htw
                                                      have HTF := Lib.hid htf
                                                      have HSO := Lib.hid (show (s.wider N G).Ok from CSet.wider_ok HS.out (by have := HNG.out; have := HS.out.near0; omega) (by have := HNG.out; have := HS.out.give0; omega))
                                                      clear ht htw htf
                                                      have HL9 := Lib.hid (HL.out.bel (HBY1.out.trans HB9.out))
                                                      refine region_growF (fun i v W => match i with
                                                        | 0 => v = .agg #[.slice ga s.paints.length gc, .int .i64 N, .int .i64 G, .slice ja s.eats.length jc]
                                                        | 1 => ∃ g, v = .slice (some ⟨g, 0, none⟩) 0 0
                                                        | 2 => v = .slice la L.length lc
                                                        | 3 => ∃ g c, v = .slice (some ⟨g, 0, none⟩) L.length c ∧ Cols W v L
                                                        | 4 => ∃ r, v = .tuple #[r, .int .i64 0] ∧ Rnds W r t
                                                        | 5 => ∃ r, v = .tuple #[r, .int .i64 0] ∧ Rnds W r t
                                                        | 6 => Rnds W v t
                                                        | 7 => v = .int .i64 0
                                                        | 8 => Rnds W v t
                                                        | 9 => v = .int .i64 0
                                                        | _ => True) ?gfa64 ?gframe64 (by kernel_rfl) (by kernel_rfl) (by kernel_rfl) ?gstays64 ?gops64 ?gfin64
                                                      case gframe64 =>
                                                        intro vs
                                                        simp only [putAll, Act.put, List.setIfInBounds_toArray, List.set_cons_succ, List.set_cons_zero, Nat.reduceAdd, Nat.zero_add]
                                                        exact rfl
                                                      case gstays64 =>
                                                        intro i v W W' h hb
                                                        split at h <;> first | exact h | exact h.bel hb | exact fun e => (h e).bel hb | exact ⟨h.1.bel hb, h.2⟩ | (obtain ⟨g, c, h1, h2⟩ := h; exact ⟨g, c, h1, h2.bel hb⟩) | (obtain ⟨r, h1, h2⟩ := h; exact ⟨r, h1, h2.bel hb⟩)
                                                      case gops64 =>
                                                        refine ⟨?_, ?_, ?_, ?_, ?_, ?_, ?_, ?_, ?_, ?_, trivial⟩
                                                        · refine growOpF_k ?_; intro vs W hW hd K HK
                                                          clear hd
                                                          obtain ⟨c0, c1, c2, c3⟩ := HC9.out.bel hW
                                                          gi_wp2_with fail
                                                          refine HK.out _ _ ?_ ?_ ?_
                                                          · kernel_rfl
                                                          · rfl
                                                          · exact Bel.refl _
                                                        · refine growOpF_k ?_; intro vs W hW hd K HK
                                                          clear hd
                                                          gi_wp2_with fail
                                                          refine HK.out _ _ ?_ ?_ ?_
                                                          · kernel_rfl
                                                          · exact ⟨_, rfl⟩
                                                          · exact (Bel.refl _).alloc _
                                                        · refine growOpF_k ?_; intro vs W hW hd K HK
                                                          clear hd
                                                          gi_wp2_with fail
                                                          refine HK.out _ _ ?_ ?_ ?_
                                                          · kernel_rfl
                                                          · rfl
                                                          · exact Bel.refl _
                                                        · refine growOpF_k ?_; intro vs W hW hd K HK
                                                          have h1 : ∃ g, (vs 1) = .slice (some ⟨g, 0, none⟩) 0 0 := hd 1 (by decide)
                                                          have h2 : (vs 2) = .slice la L.length lc := hd 2 (by decide)
                                                          clear hd
                                                          obtain ⟨g, e1⟩ := h1
                                                          have hl := HL9.out.bel hW
                                                          simp only [e1, h2]
                                                          refine wpListIn_append_empty rfl _ _ 32 rfl 3 i0 _ 1 8 Try.underlying32 hi hz0 hz1 hz2 g _ _ _ rfl rfl (valsOf L) (by simp [valsOf]) (cols_news hl).2.2 (cols_news hl).2.1 (by have := HLEN.out; have := HS.out.n5; omega) (by decide) ?_
                                                          intro gb cap W' hb1 hb2 hb3 hb4
                                                          gi_wp2_with fail
                                                          refine HK.out _ _ ?_ ?_ ?_
                                                          · (try simp only [e1, h2]) <;> kernel_rfl
                                                          · exact ⟨_, _, rfl, cols_new (l := L) rfl hb2 hb3 hb4⟩
                                                          · exact hb1
                                                        · refine growOpF_k ?_; intro vs W hW hd K HK
                                                          have h0 : (vs 0) = .agg #[.slice ga s.paints.length gc, .int .i64 N, .int .i64 G, .slice ja s.eats.length jc] := hd 0 (by decide)
                                                          have h3 : ∃ g c, (vs 3) = .slice (some ⟨g, 0, none⟩) L.length c ∧ Cols W (vs 3) L := hd 3 (by decide)
                                                          clear hd
                                                          obtain ⟨g, cc, e3, hcol⟩ := h3
                                                          have kl := plan_any (s.wider N G) HSO.out (.agg #[.slice ga s.paints.length gc, .int .i64 N, .int .i64 G, .slice ja s.eats.length jc]) (vs 3) L W (HSV9.out.bel hW) hcol (HA.out : Asc (s.wider N G).paints.length L)
                                                          rw [HT.out, e3] at kl
                                                          simp only [h0, e3]
                                                          gi_wp2_with fail
                                                          refine ⟨trivial, rfl, (callsW kl).mono ?_⟩
                                                          rintro e W' ⟨r, er, rfl, ⟨⟨hs, hrn⟩, rfl⟩, hb⟩
                                                          gi_wp2_with fail
                                                          refine HK.out _ _ ?_ ?_ ?_
                                                          · (try simp only [h0, e3]) <;> kernel_rfl
                                                          · exact ⟨_, rfl, hrn.rnds⟩
                                                          · exact hb
                                                        · refine growOpF_k ?_; intro vs W hW hd K HK
                                                          have h4 : ∃ r, (vs 4) = .tuple #[r, .int .i64 0] ∧ Rnds W r t := hd 4 (by decide)
                                                          clear hd
                                                          obtain ⟨r, e4, hr⟩ := h4
                                                          simp only [e4]
                                                          gi_wp2_with fail
                                                          refine HK.out _ _ ?_ ?_ ?_
                                                          · (try simp only [e4]) <;> kernel_rfl
                                                          · exact ⟨r, rfl, hr⟩
                                                          · exact Bel.refl _
                                                        · refine growOpF_k ?_; intro vs W hW hd K HK
                                                          have h5 : ∃ r, (vs 5) = .tuple #[r, .int .i64 0] ∧ Rnds W r t := hd 5 (by decide)
                                                          clear hd
                                                          obtain ⟨r, e4, hr⟩ := h5
                                                          simp only [e4]
                                                          gi_wp2_with fail
                                                          refine HK.out _ _ ?_ ?_ ?_
                                                          · (try simp only [e4]) <;> kernel_rfl
                                                          · exact hr
                                                          · exact Bel.refl _
                                                        · refine growOpF_k ?_; intro vs W hW hd K HK
                                                          have h5 : ∃ r, (vs 5) = .tuple #[r, .int .i64 0] ∧ Rnds W r t := hd 5 (by decide)
                                                          clear hd
                                                          obtain ⟨r, e4, hr⟩ := h5
                                                          simp only [e4]
                                                          gi_wp2_with fail
                                                          refine HK.out _ _ ?_ ?_ ?_
                                                          · (try simp only [e4]) <;> kernel_rfl
                                                          · rfl
                                                          · exact Bel.refl _
                                                        · refine growOpF_k ?_; intro vs W hW hd K HK
                                                          have h6 : Rnds W (vs 6) t := hd 6 (by decide)
                                                          clear hd
                                                          gi_wp2_with fail
                                                          refine HK.out _ _ ?_ ?_ ?_
                                                          · kernel_rfl
                                                          · exact h6
                                                          · exact Bel.refl _
                                                        · refine growOpF_k ?_; intro vs W hW hd K HK
                                                          have h7 : (vs 7) = .int .i64 0 := hd 7 (by decide)
                                                          clear hd
                                                          simp only [h7]
                                                          gi_wp2_with fail
                                                          refine HK.out _ _ ?_ ?_ ?_
                                                          · (try simp only [h7]) <;> kernel_rfl
                                                          · rfl
                                                          · exact Bel.refl _
                                                      case gfin64 =>
                                                        intro vs W hW hall
                                                        have g8 : Rnds W (vs 8) t := hall 8 (by decide)
                                                        have g9 : vs 9 = .int .i64 0 := hall 9 (by decide)
                                                        clear hall
                                                        simp only [g9]
                                                        generalize vs 8 = tv2 at *
                                                        obtain ⟨oa, oc, rfl⟩ := rnds_sl g8
                                                        have HTR := Lib.hid g8
                                                        have HBZ9 := Lib.hid (HB9.out.trans hW)
                                                        have HBZW2 := Lib.hid (HBYW.out.trans HBZ9.out)
                                                        have HTL := Lib.hid (show t.length ≤ 1000 by have := HTW.out.len; have := HS.out.n5; omega)
                                                        have HTRL := Lib.hid (show ∀ r, r ∈ t → r.length ≤ 1000 from fun r hr => by
                                                          have h1 := (HTW.out.asc r hr).len
                                                          have := HS.out.n5
                                                          omega)
                                                        have HTLT := Lib.hid (show ∀ r, r ∈ t → ∀ c, c ∈ r → c < s.paints.length from fun r hr c hc => (HTW.out.asc r hr).1 c hc)
                                                        have KS := Lib.hid (sane_any s.paints.length qa qc (.slice da s.eats.length dc) (.slice oa t.length oc) s.near s.give t W g8 HTL.out HTRL.out)
                                                        have HSN := Lib.hid HTW.out.sane
                                                        clear g8 g9 hW HL9 HC9 HSV9
                                                        obtain ⟨c0, c1, c2, c3⟩ := HC.out.bel HBZW2.out
                                                        have hun : ∀ b, (undef = Value.bool b) = False := fun b => by unfold undef; simp
                                                        gi_wp2_with fail
                                                        refine ⟨trivial, rfl, (callsW KS.out).mono ?_⟩
                                                        rintro e w8 ⟨rfl, hb⟩
                                                        rw [HSN.out]
                                                        have HB10 := Lib.hid (HBZW2.out.trans hb)
                                                        have HTR10 := Lib.hid (HTR.out.bel hb)
                                                        clear hb KS HSN c0 c1 c2 c3
                                                        obtain ⟨c0, c1, c2, c3⟩ := HC.out.bel HB10.out
                                                        have KA := Lib.hid (all_any s HS.out _ (.slice oa t.length oc) t w8 (HSV.out.bel HB10.out) HTR10.out HTLT.out HTL.out HTRL.out)
                                                        gi_wp2_with fail
                                                        refine ⟨trivial, rfl, (callsW KA.out).mono ?_⟩
                                                        rintro e w11 ⟨rfl, hb⟩
                                                        have HB11 := Lib.hid (HB10.out.trans hb)
                                                        clear hb KA c0 c1 c2 c3
                                                        simp only [eachV]
                                                        have hle := HTF.out
                                                        have hle1 : decide ((s.fire t).2 ≤ (s.fire q).2) = true := decide_eq_true hle
                                                        gi_wp2_with fail
                                                        refine ⟨trivial, rfl, (callsW (known_any _)).mono ?_⟩
                                                        rintro e wz ⟨rfl, hb⟩
                                                        have hfin := ((HSB.out.trans HB11.out).alloc _).trans hb
                                                        gi_wp2_with fail
                                                        exact bodyPost_ret (v := .bool true) (by simp [results, Try.results4, go_sem]) rfl ⟨rfl, hfin⟩
                                                · gi_wp2_with fail
                                                  refine ⟨trivial, rfl, (callsW (known_any _)).mono ?_⟩
                                                  rintro e wz ⟨rfl, hb⟩
                                                  have hfin := (HSB.out.trans HBXW.out).trans hb
                                                  gi_wp2_with fail
                                                  exact bodyPost_ret (v := .bool true) (by simp [results, Try.results4, go_sem]) rfl ⟨rfl, hfin⟩

end Go.Proofs.Ytpkadofgmhninaa
