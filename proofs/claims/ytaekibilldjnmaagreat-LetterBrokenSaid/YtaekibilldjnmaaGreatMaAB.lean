/- All that an operation can yield without a turn of the objects: one function of the operation. Regions: their operations one after another; and in any order, where none of them turns an object. Calls: a function's contract, out of its body; a call of it; what it hands back. Operations that turn the objects: new variables, stores, appends; and what may be given up at any time. -/
import Derived.Test.YtaekibilldjnmaaGreatMaAA
import Derived.RangeFuncLeaves
import Derived.Shelf.Abstract
import Derived.Deep.AppendSrc
import Derived.Laws.BitsLemmas
set_option linter.unusedVariables false
set_option linter.unusedSimpArgs false
set_option linter.unusedSectionVars false
namespace Go.Proofs.YtaekibilldjnmaaGreat
variable {P : Program} {ρ : Own} {W : World} {H : Hp}

/-! ### Values laid -/
def zeroT (P : Program) (t : TypeId) : Option (List AV) := match P.info? t with
  | some i => match i.zero with
    | some z => AV.leaves z.cells.toList
    | none => none
  | none => none
theorem zeroT_spec {t : TypeId} {cs : List AV} (h : zeroT P t = some cs) : ∃ z, (zeroValue t).run P W = .ok z W ∧ z.cells.size = cs.length ∧ DenL ρ W cs (fun i => z.cells[i]?) := by
  unfold zeroT at h
  split at h
  · rename_i i hi
    split at h
    · rename_i z hz
      obtain ⟨h1, h2⟩ := AV.leaves_den (ρ := ρ) (W := W) h
      exact ⟨z, by simp [zeroValue, typeInfo, hi, hz], by simpa using h1, by simpa using h2⟩
    · cases h
  · cases h

def fillA (place : Nat → Option (Nat × Nat)) (cells : List AV) : List (Nat × AV) → Option (List AV)
  | [] => some cells
  | (i, x) :: rest => match place i, x.cells with
    | some (off, size), some xs => if xs.length = size ∧ off + xs.length ≤ cells.length then fillA place (putC cells off xs) rest else none
    | _, _ => none

theorem foldl_arrPut : ∀ (vs : List Value) (cs : Array Value) (off : Nat), vs.zipIdx.foldl (fun cs (c, j) => cs.setIfInBounds (off + j) c) cs = arrPut cs off vs := by
  have key : ∀ (vs : List Value) (cs : Array Value) (off k : Nat), (vs.zipIdx k).foldl (fun cs (c, j) => cs.setIfInBounds (off + j) c) cs = arrPut cs (off + k) vs := by
    intro vs
    induction vs with
    | nil => intro cs off k; rfl
    | cons v vs ih =>
      intro cs off k
      simp only [List.zipIdx_cons, List.foldl_cons, arrPut]
      rw [ih, show off + (k + 1) = off + k + 1 by omega]
  intro vs cs off
  exact key vs cs off 0

theorem fill_den {place : Nat → Option (Nat × Nat)} : ∀ (ps : List (Nat × AV)) (vs : List (Nat × Value)) (cells : List AV) (arr : Array Value) (out : List AV), ps.length = vs.length →
    (∀ (i : Nat) (p : Nat × AV) (q : Nat × Value), ps[i]? = some p → vs[i]? = some q → p.1 = q.1 ∧ Den ρ W p.2 q.2) → arr.size = cells.length → DenL ρ W cells (fun i => arr[i]?) → fillA place cells ps = some out →
    ∃ arr', Instr.fill place arr vs = some arr' ∧ arr'.size = out.length ∧ DenL ρ W out (fun i => arr'[i]?)
  | [], vs, cells, arr, out, hl, _, hs, hd, h => by
    cases vs with
    | cons _ _ => simp at hl
    | nil => cases h; exact ⟨arr, rfl, hs, hd⟩
  | (i, x) :: ps, vs, cells, arr, out, hl, hp, hs, hd, h => by
    cases vs with
    | nil => simp at hl
    | cons q vs =>
      obtain ⟨j, v⟩ := q
      obtain ⟨e, hx⟩ := hp 0 _ _ rfl rfl
      simp only at e hx
      subst e
      unfold fillA at h
      split at h
      · rename_i off size xs h1 h2
        split at h
        · rename_i hc
          obtain ⟨k1, k2, k3⟩ := hx.cells h2
          have hcells : v.cells.zipIdx.foldl (fun cs (c, j) => cs.setIfInBounds (off + j) c) arr = arrPut arr off v.cells.toList := by
            rw [← foldl_arrPut, ← Array.foldl_toList, Array.toList_zipIdx]
          have hput := putC_den (ρ := ρ) (W := W) hd (vs := v.cells.toList) (by simpa using k2) (by simpa using k1) hc.2 (by omega)
          obtain ⟨arr', e1, e2, e3⟩ := fill_den ps vs (putC cells off xs) (arrPut arr off v.cells.toList) out (by simpa using hl)
            (fun i p q hp' hq' => hp (i + 1) p q (by simpa using hp') (by simpa using hq')) (by rw [arrPut_size]; simp only [putC, List.length_append, List.length_take, List.length_drop]; omega) hput h
          refine ⟨arr', ?_, e2, e3⟩
          simp only [Instr.fill, h1]
          rw [if_neg (by simp; omega), hcells]
          exact e1
        · cases h
      · cases h

def mapEv (ev : Operand → Option AV) : List Operand → Option (List AV)
  | [] => some []
  | o :: os => match ev o, mapEv ev os with
    | some x, some xs => some (x :: xs)
    | _, _ => none
theorem mapEv_den {ev : Operand → Option AV} {σ : Operand → Value} : ∀ {os : List Operand} {xs : List AV}, (∀ o ∈ os, ∀ z, ev o = some z → Den ρ W z (σ o)) → mapEv ev os = some xs → os.length = xs.length ∧ DenL ρ W xs (fun i => (os.map σ)[i]?)
  | [], xs, _, h => by cases h; exact ⟨rfl, by rw [DenL]; trivial⟩
  | o :: os, xs, hd, h => by
    unfold mapEv at h
    split at h
    · rename_i x ys h1 h2
      cases h
      obtain ⟨h3, h4⟩ := mapEv_den (fun o ho => hd o (List.mem_cons_of_mem _ ho)) h2
      refine ⟨by simp [h3], ?_⟩
      rw [DenL]
      exact ⟨⟨_, rfl, hd o (List.mem_cons_self ..) x h1⟩, h4⟩
    · cases h
def mapParts (ev : Operand → Option AV) : List (Nat × Operand) → Option (List (Nat × AV))
  | [] => some []
  | (i, o) :: os => match ev o, mapParts ev os with
    | some x, some xs => some ((i, x) :: xs)
    | _, _ => none
theorem mapParts_den {ev : Operand → Option AV} {σ : Operand → Value} : ∀ {os : List (Nat × Operand)} {xs : List (Nat × AV)}, (∀ p ∈ os, ∀ z, ev p.2 = some z → Den ρ W z (σ p.2)) → mapParts ev os = some xs →
    xs.length = os.length ∧ ∀ (i : Nat) (p : Nat × AV) (q : Nat × Value), xs[i]? = some p → (os.map fun y => (y.1, σ y.2))[i]? = some q → p.1 = q.1 ∧ Den ρ W p.2 q.2
  | [], xs, _, h => by cases h; exact ⟨rfl, fun i p q hp => by simp at hp⟩
  | (k, o) :: os, xs, hd, h => by
    unfold mapParts at h
    split at h
    · rename_i x ys h1 h2
      cases h
      obtain ⟨h3, h4⟩ := mapParts_den (fun p hp => hd p (List.mem_cons_of_mem _ hp)) h2
      refine ⟨by simp [h3], fun i p q hp hq => ?_⟩
      cases i with
      | zero =>
        simp only [List.getElem?_cons_zero, Option.some.injEq, List.map_cons] at hp hq
        subst hp hq
        exact ⟨rfl, hd (k, o) (List.mem_cons_self ..) x h1⟩
      | succ i => exact h4 i p q (by simpa using hp) (by simpa using hq)
    · cases h

def placesT (P : Program) : List Field → Option (List (Nat × Nat))
  | [] => some []
  | f :: fs => match sizeT P f.type, placesT P fs with
    | some n, some ps => some ((f.offset, n) :: ps)
    | _, _ => none
theorem run_places {P : Program} {W : World} : ∀ {fs : List Field} {ps : List (Nat × Nat)}, placesT P fs = some ps → (fs.mapM fun f => do pure (f.offset, ← sizeOf f.type) : Sem (List (Nat × Nat))).run P W = .ok ps W
  | [], ps, h => by cases h; rfl
  | f :: fs, ps, h => by
    unfold placesT at h
    split at h
    · rename_i n qs h1 h2
      cases h
      have := run_places (P := P) (W := W) h2
      rw [List.mapM_cons]
      simp only [Sem.run_bind, run_sizeOf h1, Result.andThen_ok, Sem.run_pure]
      rw [this]; rfl
    · cases h

def evBuild (P : Program) (t : TypeId) (ps : Option (List (Nat × AV))) : Option AV :=
  match ps, zeroT P t, P.underlying t with
  | some ps, some z, some (.struct fields) => match placesT P fields.toList with
    | some pl => (fillA (fun i => pl[i]?) z ps).map .agg
    | none => none
  | some ps, some z, some (.array _ elem) => match sizeT P elem with
    | some s => (fillA (fun i => some (i * s, s)) z ps).map .agg
    | none => none
  | _, _, _ => none
theorem run_build {t : TypeId} {ev : Operand → Option AV} {σ : Operand → Value} {parts : Array (Nat × Operand)} {z : AV} (hd : ∀ p ∈ parts.toList, ∀ z, ev p.2 = some z → Den ρ W z (σ p.2))
    (h : evBuild P t (mapParts ev parts.toList) = some z) : ∃ r, (Instr.build t (parts.map fun (i, x) => (i, σ x))).run P W = .ok r W ∧ Den ρ W z r := by
  unfold evBuild at h
  split at h
  · rename_i ps zs fields h1 h2 h3
    split at h
    · rename_i pl h4
      obtain ⟨k1, k2⟩ := mapParts_den hd h1
      obtain ⟨zv, e1, e2, e3⟩ := zeroT_spec (ρ := ρ) (W := W) h2
      cases h5 : fillA (fun i => pl[i]?) zs ps with
      | none => rw [h5] at h; cases h
      | some out =>
        rw [h5] at h; cases h
        obtain ⟨arr, g1, g2, g3⟩ := fill_den (place := fun i => pl.toArray[i]?) ps (parts.toList.map fun y => (y.1, σ y.2)) zs zv.cells out (by simp [k1]) k2 e2 e3 (by simpa using h5)
        have hpl := run_places (P := P) (W := W) h4
        have hpl' : (fields.mapM fun f => do pure (f.offset, ← sizeOf f.type) : Sem (Array (Nat × Nat))).run P W = .ok pl.toArray W := by
          rw [Array.mapM_eq_mapM_toList, Sem.run_map, hpl]; rfl
        refine ⟨.agg arr, ?_, ?_⟩
        · simp only [Instr.build, Sem.run_bind, e1, Result.andThen_ok, run_underlying h3]
          rw [hpl']
          simp only [Result.andThen_ok, Array.toList_map, g1]
          rfl
        · rw [Den]; exact ⟨arr, rfl, g2, g3⟩
    · cases h
  · rename_i ps zs n elem h1 h2 h3
    split at h
    · rename_i s h4
      obtain ⟨k1, k2⟩ := mapParts_den hd h1
      obtain ⟨zv, e1, e2, e3⟩ := zeroT_spec (ρ := ρ) (W := W) h2
      cases h5 : fillA (fun i => some (i * s, s)) zs ps with
      | none => rw [h5] at h; cases h
      | some out =>
        rw [h5] at h; cases h
        obtain ⟨arr, g1, g2, g3⟩ := fill_den (place := fun i => some (i * s, s)) ps (parts.toList.map fun y => (y.1, σ y.2)) zs zv.cells out (by simp [k1]) k2 e2 e3 h5
        refine ⟨.agg arr, ?_, ?_⟩
        · simp only [Instr.build, Sem.run_bind, e1, Result.andThen_ok, run_underlying h3, run_sizeOf h4, Array.toList_map, g1]
          rfl
        · rw [Den]; exact ⟨arr, rfl, g2, g3⟩
    · cases h
  · cases h

/-! ### Memory that is written no more -/
theorem cells_new (h : HD ρ W H) {arr : Array Value} {ty : TypeId} {cs : List AV} (hd : DenL ρ W cs (fun i => arr[i]?)) :
    DenL ρ (W.alloc (.cells arr ty)) cs (fun i => (W.alloc (.cells arr ty)).cell? ⟨W.heap.size, 0 + i, none⟩) :=
  (DenL.ext (Ext.alloc h _) h.live _ _ hd).congr fun i _ => by rw [Nat.zero_add]; exact World.cell?_alloc_new W arr ty i

theorem run_box (h : HD ρ W H) {t : TypeId} {x : AV} {v : Value} {xs : List AV} (hv : Den ρ W x v) (hx : x.cells = some xs) :
    (Instr.box t v).run P W = .ok (.pointer (some ⟨W.heap.size, 0, none⟩)) (W.alloc (.cells v.cells t)) ∧ Den ρ (W.alloc (.cells v.cells t)) (.cp xs 0) (.pointer (some ⟨W.heap.size, 0, none⟩)) := by
  refine ⟨rfl, ?_⟩
  exact cp_of (o := 0) (fun _ => ⟨by simp, h.new_free⟩) (cells_new h (hv.cells hx).2.1)

def evBuildSlice (P : Program) (t : TypeId) (len : Nat) (ps : Option (List (Nat × AV))) : Option (TypeId × List AV) :=
  match ps, P.underlying t with
  | some ps, some (.slice elem) => match sizeT P elem with
    | some s => if len * s = 0 then (if ps.length = 0 then some (elem, []) else none) else if len * s ≤ 2 ^ 24 then
      match zeroT P elem with
      | some z => if z.length = s then (fillA (fun i => some (i * s, s)) (List.replicate len z).flatten ps).map fun out => (elem, out) else none
      | none => none
      else none
    | none => none
  | _, _ => none
theorem flat_den {z : List AV} {zv : Array Value} (hz : zv.size = z.length) (h0 : 0 < z.length) (hd : DenL ρ W z (fun i => zv[i]?)) : ∀ (len : Nat), DenL ρ W (List.replicate len z).flatten (fun i => ((Array.range (len * z.length)).map (zv[· % zv.size]!))[i]?) ∧ (List.replicate len z).flatten.length = len * z.length := by
  intro len
  have hlen : (List.replicate len z).flatten.length = len * z.length := by simp
  refine ⟨DenL.of fun i x hx => ?_, hlen⟩
  have hi : i < len * z.length := by rw [← hlen]; exact (List.getElem?_eq_some_iff.1 hx).1
  have hmod : i % z.length < z.length := Nat.mod_lt _ h0
  have hxz : z[i % z.length]? = some x := by
    clear hi hlen
    induction len generalizing i with
    | zero => simp at hx
    | succ n ih =>
      rw [List.replicate_succ, List.flatten_cons] at hx
      by_cases hlt : i < z.length
      · rw [List.getElem?_append_left hlt] at hx
        rw [Nat.mod_eq_of_lt hlt]; exact hx
      · rw [List.getElem?_append_right (by omega)] at hx
        have := ih (i - z.length) hx (Nat.mod_lt _ h0)
        rwa [Nat.mod_eq_sub_mod (by omega)]
  obtain ⟨v, hv, hd'⟩ := hd.at hxz
  refine ⟨v, ?_, hd'⟩
  simp only [Array.getElem?_map]
  rw [Array.getElem?_range, if_pos hi, Option.map_some]
  congr 1
  rw [hz, getElem!_def, hv]
theorem run_buildSlice (h : HD ρ W H) {t elem : TypeId} {len : Nat} {ev : Operand → Option AV} {σ : Operand → Value} {parts : Array (Nat × Operand)} {out : List AV} (hd : ∀ p ∈ parts.toList, ∀ z, ev p.2 = some z → Den ρ W z (σ p.2))
    (he : evBuildSlice P t len (mapParts ev parts.toList) = some (elem, out)) :
    ∃ arr, (Instr.buildSlice t len (parts.map fun (i, x) => (i, σ x))).run P W = .ok (.slice (some ⟨W.heap.size, 0, none⟩) len len) (W.alloc (.cells arr elem)) ∧ arr.size = out.length ∧ DenL ρ W out (fun i => arr[i]?) := by
  unfold evBuildSlice at he
  split at he
  · rename_i ps el h1 h2
    obtain ⟨k1, k2⟩ := mapParts_den hd h1
    split at he
    · rename_i s h3
      split at he
      · rename_i h0
        split at he
        · rename_i hp
          cases he
          refine ⟨#[], ?_, rfl, by rw [DenL]; trivial⟩
          have hpn : parts = #[] := by
            have : parts.toList.length = 0 := by rw [← k1]; exact hp
            have := List.eq_nil_of_length_eq_zero this
            cases parts; simp_all
          subst hpn
          simp only [Instr.buildSlice, Sem.run_bind, run_underlying h2, Result.andThen_ok, run_sizeOf h3, h0]
          rw [if_neg (by decide), if_pos trivial]
          have e1 : (Array.map (fun x : Nat × Operand => (x.1, σ x.2)) #[]).toList = [] := by simp
          have e2 : ∀ z : Array Value, (Array.map (fun x => z[x % z.size]!) (Array.range 0)) = #[] := by intro z; simp
          simp only [Sem.run_bind, Sem.run_pure, Result.andThen_ok, e1, e2, Instr.fill]
          rfl
        · cases he
      · rename_i h0
        split at he
        · rename_i hle
          split at he
          · rename_i z hz
            split at he
            · rename_i hzs
              obtain ⟨zv, e1, e2, e3⟩ := zeroT_spec (ρ := ρ) (W := W) hz
              have hspos : 0 < s := Nat.pos_of_ne_zero (fun e => h0 (by rw [e]; simp))
              obtain ⟨f1, f2⟩ := flat_den e2 (by omega) e3 len
              cases h5 : fillA (fun i => some (i * s, s)) (List.replicate len z).flatten ps with
              | none => rw [h5] at he; cases he
              | some o2 =>
                rw [h5] at he; cases he
                obtain ⟨arr, g1, g2, g3⟩ := fill_den (place := fun i => some (i * s, s)) ps (parts.toList.map fun y => (y.1, σ y.2)) (List.replicate len z).flatten ((Array.range (len * z.length)).map (zv.cells[· % zv.cells.size]!)) _ (by simp [k1]) k2 (by simp [f2]) f1 h5
                refine ⟨arr, ?_, g2, g3⟩
                simp only [Instr.buildSlice, Sem.run_bind, run_underlying h2, Result.andThen_ok, run_sizeOf h3]
                rw [if_neg (by omega), if_neg h0]
                simp only [Sem.run_pure, Result.andThen_ok, Sem.run_bind, e1, Array.toList_map]
                rw [hzs] at g1
                rw [g1]
                rfl
            · cases he
          · cases he
        · cases he
    · cases he
  · cases he

theorem sl_new (h : HD ρ W H) {arr : Array Value} {ty : TypeId} {cs : List AV} {len : Nat} (hd : DenL ρ W cs (fun i => arr[i]?)) :
    Den ρ (W.alloc (.cells arr ty)) (.sl false true len cs) (.slice (some ⟨W.heap.size, 0, none⟩) len len) := by
  rw [Den]
  exact ⟨_, len, rfl, Nat.le_refl _, fun _ => rfl, nofun, fun _ => ⟨W.heap.size, 0, rfl, fun _ => ⟨by simp, h.new_free⟩, cells_new h hd⟩⟩

/-! ### The function of the operation -/
def evCall (P : Program) (H : Hp) (b : Builtin) (ts : Array TypeId) (xs : List AV) : Option AV :=
  match b, xs with
  | .len, [x] => match ts.toList with | [t] => evLen P H t x | _ => none
  | .cap, [.sl _ true len _] => match ts.toList with | [t] => (match P.underlying t with | some (.slice _) => some (.int .i64 len) | _ => none) | _ => none
  | .max, x :: rest => evMaxF true x rest
  | .min, x :: rest => evMaxF false x rest
  | _, _ => none

def evP (P : Program) (H : Hp) (ev : Operand → Option AV) : Op → Option AV
  | .move x | .assign x => ev x
  | .pick c a b => match ev c, ev a, ev b with
    | some (.bool c), some x, some y => some (if c then x else y)
    | _, _, _ => none
  | .binOp op t x y _ => match ev x, ev y with
    | some a, some b => evBin P op t a b
    | _, _ => none
  | .unOp op _ x => (ev x).bind (evUn op)
  | .convert s d x => (ev x).bind (evConv P s d)
  | .field t x f => (ev x).bind fun a => evField P t a f
  | .extract x i => (ev x).bind fun a => evExtract a i
  | .fieldAddr s x f => (ev x).bind fun a => evFieldAddr P H s a f
  | .indexAddr t x i => match ev x, ev i with
    | some a, some b => evIndexAddr P H t a b
    | _, _ => none
  | .load t x => (ev x).bind (evLoad P H t)
  | .slice t x lo hi mx => if (lo.bind ev).isSome = lo.isSome ∧ (hi.bind ev).isSome = hi.isSome ∧ (mx.bind ev).isSome = mx.isSome then
      (ev x).bind fun a => evSlice P H t a (lo.bind ev) (hi.bind ev) (mx.bind ev) else none
  | .sliceToArrayPointer t x => (ev x).bind (evArr P t)
  | .makeFunc f first captured => match mapEv ev first.toList, mapEv ev captured.toList with
    | some xs, some ys => some (.fn f xs ys)
    | _, _ => none
  | .build t ps => evBuild P t (mapParts ev ps.toList)
  | .buildSlice t len ps => (evBuildSlice P t len (mapParts ev ps.toList)).map fun p => .sl false true len p.2
  | .box _ x => ((ev x).bind AV.cells).map fun cs => .cp cs 0
  | .call { callee := .builtin b, args, argTypes } => (mapEv ev args.toList).bind (evCall P H b argTypes)
  | _ => none

theorem isNone_of {y : Option Operand} {ev : Operand → Option AV} (h : (y.bind ev).isSome = y.isSome) : y.bind ev = none → y = none := by
  intro e; rw [e] at h; cases y <;> simp_all

theorem evP_calm {o : Oper} {ev : Operand → Option AV} {x : AV} (h : evP P H ev o.op = some x) : Oper.calm o = true := by
  unfold Oper.calm
  cases ho : o.op <;> first | rfl | (rw [ho] at h; cases h)

theorem evP_sound {o : Oper} {ev : Operand → Option AV} {σ : Operand → Value} {x : AV} (h : evP P H ev o.op = some x) (hd : Evs o ev ρ W σ) (hH : HD ρ W H) : Ok P o σ ρ W H x := by
  have lift : ∀ {s : Sem Value}, (∃ r, s.run P W = .ok r W ∧ Den ρ W x r) → execOp σ o = (do pure (.value (← s))) → Ok P o σ ρ W H x := by
    rintro s ⟨r, hr, hx⟩ he
    exact Ok.pure hH (v := r) (by rw [he]; simp [hr]) hx
  unfold Evs at hd
  cases ho : o.op <;> rw [ho] at h hd <;> simp only [evP] at h <;> try (cases h; done)
  case move y => exact Ok.pure hH (by simp [execOp, ho]) (hd y (by simp [Op.operands]) x h)
  case assign y => exact Ok.pure hH (by simp [execOp, ho]) (hd y (by simp [Op.operands]) x h)
  case pick c a b =>
    split at h
    · rename_i cb xa xb h1 h2 h3
      have d1 := hd c (by simp [Op.operands]) _ h1
      have d2 := hd a (by simp [Op.operands]) _ h2
      have d3 := hd b (by simp [Op.operands]) _ h3
      rw [Den] at d1
      cases h
      cases cb
      · exact Ok.pure hH (v := σ b) (by simp [execOp, ho, d1, asBool]) d3
      · exact Ok.pure hH (v := σ a) (by simp [execOp, ho, d1, asBool]) d2
    · cases h
  case binOp op t a b yt =>
    split at h
    · rename_i xa xb h1 h2
      have d1 := hd a (by simp [Op.operands]) _ h1
      have d2 := hd b (by simp [Op.operands]) _ h2
      exact lift (run_binOp (x := a) (y := b) d1 d2 h) (by simp only [execOp, ho])
    · cases h
  case unOp op t a =>
    obtain ⟨xa, h1, h2⟩ := Option.bind_eq_some_iff.1 h
    exact lift (run_unOp (hd a (by simp [Op.operands]) _ h1) h2) (by simp only [execOp, ho])
  case convert s d a =>
    obtain ⟨xa, h1, h2⟩ := Option.bind_eq_some_iff.1 h
    exact lift (run_convert (hd a (by simp [Op.operands]) _ h1) h2) (by simp only [execOp, ho])
  case field t a f =>
    obtain ⟨xa, h1, h2⟩ := Option.bind_eq_some_iff.1 h
    exact lift (run_field (hd a (by simp [Op.operands]) _ h1) h2) (by simp only [execOp, ho])
  case extract a i =>
    obtain ⟨xa, h1, h2⟩ := Option.bind_eq_some_iff.1 h
    exact lift (run_extract (hd a (by simp [Op.operands]) _ h1) h2) (by simp only [execOp, ho])
  case fieldAddr s a f =>
    obtain ⟨xa, h1, h2⟩ := Option.bind_eq_some_iff.1 h
    exact lift (run_fieldAddr hH (hd a (by simp [Op.operands]) _ h1) h2) (by simp only [execOp, ho])
  case indexAddr t a b =>
    split at h
    · rename_i xa xb h1 h2
      exact lift (run_indexAddr hH (hd a (by simp [Op.operands]) _ h1) (hd b (by simp [Op.operands]) _ h2) h) (by simp only [execOp, ho])
    · cases h
  case load t a =>
    obtain ⟨xa, h1, h2⟩ := Option.bind_eq_some_iff.1 h
    exact lift (run_load_ev hH (hd a (by simp [Op.operands]) _ h1) h2) (by simp only [execOp, ho])
  case slice t a lo hi mx =>
    split at h
    · rename_i hs
      obtain ⟨xa, h1, h2⟩ := Option.bind_eq_some_iff.1 h
      refine lift (run_slice_ev hH (ev := ev) (σ := σ) (lo := lo) (hi := hi) (mx := mx) (hd a (by simp [Op.operands]) _ h1) ?_ ?_ ?_ (isNone_of hs.1) (isNone_of hs.2.1) (isNone_of hs.2.2) h2) (by simp only [execOp, ho])
      · rintro y rfl; exact hd y (by simp [Op.operands])
      · rintro y rfl; exact hd y (by simp [Op.operands])
      · rintro y rfl; exact hd y (by simp [Op.operands])
    · cases h
  case sliceToArrayPointer t a =>
    obtain ⟨xa, h1, h2⟩ := Option.bind_eq_some_iff.1 h
    exact lift (run_arr (hd a (by simp [Op.operands]) _ h1) h2) (by simp only [execOp, ho])
  case makeFunc f first captured =>
    split at h
    · rename_i xs ys h1 h2
      cases h
      obtain ⟨k1, k2⟩ := mapEv_den (ρ := ρ) (W := W) (σ := σ) (fun y hy => hd y (by simp [Op.operands]; exact .inl (Array.mem_toList_iff.1 hy))) h1
      obtain ⟨k3, k4⟩ := mapEv_den (ρ := ρ) (W := W) (σ := σ) (fun y hy => hd y (by simp [Op.operands]; exact .inr (Array.mem_toList_iff.1 hy))) h2
      refine lift ⟨_, rfl, ?_⟩ (by simp only [execOp, ho]; rfl)
      rw [Den]
      exact ⟨_, _, rfl, by simpa using k1, by simpa using k3, by simpa using k2, by simpa using k4⟩
    · cases h
  case build t ps =>
    exact lift (run_build (ev := ev) (σ := σ) (fun p hp => hd p.2 (by simp [Op.operands]; exact ⟨p.1, Array.mem_toList_iff.1 hp⟩)) h) (by simp only [execOp, ho])
  case buildSlice t len ps =>
    cases h1 : evBuildSlice P t len (mapParts ev ps.toList) with
    | none => rw [h1] at h; cases h
    | some p =>
      rw [h1] at h; cases h
      obtain ⟨elem, out⟩ := p
      obtain ⟨arr, e1, e2, e3⟩ := run_buildSlice hH (σ := σ) (fun p hp => hd p.2 (by simp [Op.operands]; exact ⟨p.1, Array.mem_toList_iff.1 hp⟩)) h1
      exact ⟨_, _, by simp only [execOp, ho, Sem.run_bind, e1]; rfl, Ext.alloc hH _, hH.alloc _, sl_new hH e3⟩
  case box t a =>
    cases h1 : (ev a).bind AV.cells with
    | none => rw [h1] at h; cases h
    | some cs =>
      rw [h1] at h; cases h
      obtain ⟨xa, h2, h3⟩ := Option.bind_eq_some_iff.1 h1
      obtain ⟨e1, e2⟩ := run_box (P := P) (t := t) hH (hd a (by simp [Op.operands]) _ h2) h3
      exact ⟨_, _, by simp only [execOp, ho, Sem.run_bind, e1]; rfl, Ext.alloc hH _, hH.alloc _, e2⟩
  case call c =>
    obtain ⟨callee, args, argTypes⟩ := c
    cases callee <;> simp only at h <;> try (cases h; done)
    rename_i b
    obtain ⟨xs, h1, h2⟩ := Option.bind_eq_some_iff.1 h
    obtain ⟨k1, k2⟩ := mapEv_den (ρ := ρ) (W := W) (σ := σ) (fun y hy => hd y (by simp [Op.operands, Call.operands]; exact Array.mem_toList_iff.1 hy)) h1
    have run : ∀ s : Sem Value, (∃ r, s.run P W = .ok r W ∧ Den ρ W x r) → (∀ cs, builtin b argTypes o.type cs (args.map σ) = (do pure (.value (← s)))) → Ok P o σ ρ W H x := by
      rintro s ⟨r, hr, hx⟩ he
      refine Ok.pure hH (v := r) ?_ hx
      simp only [execOp, ho, resolve, Sem.run_bind, Sem.run_pure, Result.andThen_ok, invoke, he, hr]
    unfold evCall at h2
    split at h2
    · rename_i y
      split at h2
      · rename_i t ht
        have ht' : argTypes = #[t] := by cases argTypes; simp_all
        subst ht'
        have hargs : args.map σ = #[(args.toList.map σ).getD 0 undef] := by
          cases args with | mk l => match l, k1 with | [a], _ => simp
        rw [DenL] at k2
        obtain ⟨⟨v, hv, hy⟩, -⟩ := k2
        have hv' : (args.toList.map σ).getD 0 undef = v := by simp [List.getD, hv]
        refine run _ (run_len hH (ty := o.type) hy h2) ?_
        intro cs; rw [hargs, hv']; rfl
      · cases h2
    · rename_i nl len cells
      split at h2
      · rename_i t ht
        have ht' : argTypes = #[t] := by cases argTypes; simp_all
        subst ht'
        split at h2
        · rename_i e hu
          cases h2
          have hargs : args.map σ = #[(args.toList.map σ).getD 0 undef] := by
            cases args with | mk l => match l, k1 with | [a], _ => simp
          rw [DenL] at k2
          obtain ⟨⟨v, hv, hy⟩, -⟩ := k2
          have hv' : (args.toList.map σ).getD 0 undef = v := by simp [List.getD, hv]
          rw [Den] at hy
          obtain ⟨a, cap, rfl, -, h3, -⟩ := hy
          refine run (Builtin.cap_ #[t] o.type #[.slice a len cap]) ⟨_, by simp [Builtin.cap_, run_underlying hu, goInt, h3 rfl], Den.int_iff.2 rfl⟩ ?_
          intro cs; rw [hargs, hv']; rfl
        · cases h2
      · cases h2
    · rename_i y rest
      rw [DenL] at k2
      obtain ⟨⟨v, hv, hy⟩, ht⟩ := k2
      have e1 : (args.map σ).toList = v :: (args.toList.map σ).tail := by
        rw [Array.toList_map]
        cases hm : args.toList.map σ with
        | nil => rw [hm] at hv; cases hv
        | cons u us => rw [hm] at hv; cases hv; rfl
      obtain ⟨r, hr, hz⟩ := run_maxF (P := P) rest (args.toList.map σ).tail y v x (by simp [k1]) hy (ht.congr fun i _ => by simp) h2
      refine run (Builtin.max_ argTypes o.type (args.map σ)) ⟨r, ?_, hz⟩ (fun _ => rfl)
      simp only [Builtin.max_, e1]; exact hr
    · rename_i y rest
      rw [DenL] at k2
      obtain ⟨⟨v, hv, hy⟩, ht⟩ := k2
      have e1 : (args.map σ).toList = v :: (args.toList.map σ).tail := by
        rw [Array.toList_map]
        cases hm : args.toList.map σ with
        | nil => rw [hm] at hv; cases hv
        | cons u us => rw [hm] at hv; cases hv; rfl
      obtain ⟨r, hr, hz⟩ := run_minF (P := P) rest (args.toList.map σ).tail y v x (by simp [k1]) hy (ht.congr fun i _ => by simp) h2
      refine run (Builtin.min_ argTypes o.type (args.map σ)) ⟨r, ?_, hz⟩ (fun _ => rfl)
      simp only [Builtin.min_, e1]; exact hr
    · cases h2

theorem OpW.ev {o : Oper} {ev : Operand → Option AV} {x : AV} {K : AV → Hp → Prop} (h : evP P H ev o.op = some x) (hk : K x H) : OpW P o ev H K :=
  ⟨evP_calm h, fun ρ W σ hd hH => by
    obtain ⟨v, W', hr, q, hH', hx⟩ := evP_sound h hd hH
    unfold Runs
    rw [hr]
    exact ⟨ρ, x, H, q, hx, hH', hk⟩⟩
end Go.Proofs.YtaekibilldjnmaaGreat
namespace Go.Proofs.YtaekibilldjnmaaGreat
variable {P : Program} {H : Hp}

def dstAt (l : List Oper) (j : Nat) : Option Tmp := (l[j]?).bind (·.dst)
/-- What an operation hangs on: what it reads, and its guard's answer. -/
def readsOf (l : List Oper) (o : Oper) : List Tmp :=
  (o.op.operands.toList.filterMap fun | .tmp t => some t | _ => none) ++ (match o.guard with | some (g, _) => (dstAt l g).toList | none => [])
def orderB (l : List Oper) : Bool :=
  (List.range l.length).all fun i => (List.range l.length).all fun j =>
    (i == j || dstAt l i == none || dstAt l i != dstAt l j) &&
    (match l[i]? with
     | some o => (readsOf l o).all (fun t => dstAt l j != some t || o.after.toList.any (fun e => Region.binds .any e && e.on == j)) && (match o.op with | .defer _ => false | .select .. => false | _ => true)
     | none => true)
theorem orderB_dst {l : List Oper} (h : orderB l = true) {i j : Nat} {d : Tmp} (hi : dstAt l i = some d) (hj : dstAt l j = some d) : i = j := by
  have hil : i < l.length := by
    by_cases e : i < l.length
    · exact e
    · simp [dstAt, List.getElem?_eq_none (Nat.le_of_not_lt e)] at hi
  have hjl : j < l.length := by
    by_cases e : j < l.length
    · exact e
    · simp [dstAt, List.getElem?_eq_none (Nat.le_of_not_lt e)] at hj
  unfold orderB at h
  rw [List.all_eq_true] at h
  have h1 := h i (by simpa using hil)
  rw [List.all_eq_true] at h1
  have h2 := h1 j (by simpa using hjl)
  rw [Bool.and_eq_true] at h2
  have h3 := h2.1
  rw [hi, hj] at h3
  simpa using h3
theorem orderB_at {l : List Oper} (h : orderB l = true) {i : Nat} {o : Oper} (hi : l[i]? = some o) :
    (∀ j t, t ∈ readsOf l o → dstAt l j = some t → ∃ e ∈ o.after, Region.binds .any e = true ∧ e.on = j) ∧ (∀ c, o.op ≠ .defer c) ∧ (∀ cs b, o.op ≠ .select cs b) := by
  have hil : i < l.length := (List.getElem?_eq_some_iff.1 hi).1
  unfold orderB at h
  rw [List.all_eq_true] at h
  have h1 := h i (by simpa using hil)
  rw [List.all_eq_true] at h1
  refine ⟨fun j t ht hj => ?_, fun c hc => ?_, fun cs b hc => ?_⟩
  · have hjl : j < l.length := by
      by_cases e : j < l.length
      · exact e
      · simp [dstAt, List.getElem?_eq_none (Nat.le_of_not_lt e)] at hj
    have h2 := h1 j (by simpa using hjl)
    rw [Bool.and_eq_true, hi] at h2
    have h3 := h2.2
    simp only [Bool.and_eq_true] at h3
    have h4 := List.all_eq_true.1 h3.1 t ht
    rw [hj] at h4
    simp only [bne_self_eq_false, Bool.false_or] at h4
    obtain ⟨e, he, h5⟩ := List.any_eq_true.1 h4
    simp only [Bool.and_eq_true, beq_iff_eq] at h5
    exact ⟨e, Array.mem_toList_iff.1 he, h5⟩
  · have h2 := h1 i (by simpa using hil)
    rw [Bool.and_eq_true, hi] at h2
    have h3 := h2.2
    simp only [Bool.and_eq_true] at h3
    rw [hc] at h3
    exact absurd h3.2 (by simp)
  · have h2 := h1 i (by simpa using hil)
    rw [Bool.and_eq_true, hi] at h2
    have h3 := h2.2
    simp only [Bool.and_eq_true] at h3
    rw [hc] at h3
    exact absurd h3.2 (by simp)

/-- Every operation waits only for earlier ones. -/
def backB (l : List Oper) : Bool := (List.range l.length).all fun i => match l[i]? with | some o => o.after.toList.all (fun e => !Region.binds .any e || decide (e.on < i)) | none => true
theorem backB_at {l : List Oper} (h : backB l = true) {i : Nat} {o : Oper} (hi : l[i]? = some o) : ∀ e ∈ o.after, Region.binds .any e = true → e.on < i := by
  have hil : i < l.length := (List.getElem?_eq_some_iff.1 hi).1
  unfold backB at h
  rw [List.all_eq_true] at h
  have h1 := h i (by simpa using hil)
  rw [hi] at h1
  intro e he hb
  have h2 := List.all_eq_true.1 h1 e (Array.mem_toList_iff.2 he)
  rw [hb] at h2
  simpa using h2

theorem count_set_false {xs : Array Bool} {i : Nat} (h : xs[i]? = some false) : (xs.setIfInBounds i true).toList.count false + 1 = xs.toList.count false := by
  cases xs with
  | mk l =>
    simp only [List.getElem?_toArray] at h
    simp only [List.setIfInBounds_toArray]
    induction l generalizing i with
    | nil => simp at h
    | cons x l ih =>
      cases i with
      | zero => simp at h; subst h; simp
      | succ i =>
        simp only [List.getElem?_cons_succ] at h
        have := ih h
        simp only [List.set_cons_succ, List.count_cons]
        omega

theorem getD_false {xs : Array Bool} {i : Nat} (h : xs.getD i true = false) : xs[i]? = some false := by
  rw [Array.getD_eq_getD_getElem?] at h
  cases e : xs[i]? with
  | none => rw [e] at h; simp at h
  | some b => rw [e] at h; simp at h; rw [h]
theorem getD_true {xs : Array Bool} {i : Nat} (h : xs.getD i false = true) : xs[i]? = some true := by
  rw [Array.getD_eq_getD_getElem?] at h
  cases e : xs[i]? with
  | none => rw [e] at h; simp at h
  | some b => rw [e] at h; simp at h; rw [h]


/-! ### One after another -/
def evOps (P : Program) (H : Hp) (N : Nat) (ops : Array Oper) : List Oper → Fr → Option Fr
  | [], fr => some fr
  | o :: l, fr => match guardOf ops fr o, o.dst.all (· < N) with
    | some true, true => match evP P H fr.ev o.op with
      | some x => evOps P H N ops l (fr.put o.dst x)
      | none => none
    | some false, true => evOps P H N ops l (fr.put o.dst (.tup []))
    | _, _ => none

theorem WpOps.evs {r : Option Nat} {N : Nat} {ops : Array Oper} {Q : Fr → Hp → Prop} {fr' : Fr} {l2 : List Oper} (h2 : WpOps P r N ops l2 Q fr' H) : ∀ (l1 : List Oper) (fr : Fr), evOps P H N ops l1 fr = some fr' → WpOps P r N ops (l1 ++ l2) Q fr H
  | [], fr, h => by cases h; exact h2
  | o :: l, fr, h => by
    unfold evOps at h
    split at h
    · rename_i hg hN
      split at h
      · rename_i x hx
        exact WpOps.step hg hN (OpW.ev hx (WpOps.evs h2 l _ h))
      · cases h
    · rename_i hg hN
      exact WpOps.skip hg hN (WpOps.evs h2 l _ h)
    · cases h

def Marks (D : List Nat) (H : Hp) : Prop := ∀ id ∈ D, H id = some .mark
theorem Marks.nil (H : Hp) : Marks [] H := fun _ h => by cases h

theorem Defs.of_marks {ρ ρ' : Own} {W W' : World} {H' : Hp} (q : Ext ρ W ρ' W') (hd : HD ρ' W' H') : ∀ {D : List Nat} {ds : List Deferred}, Marks D H' → Defs ρ D ds → Defs ρ' D ds
  | [], _, _, h => h
  | id :: D, _, hm, ⟨b, ds', e, h1, h2⟩ => by
    obtain ⟨e', b', h3, -, h4⟩ := hd.obs id _ (hm id (List.mem_cons_self ..))
    obtain ⟨rfl, -⟩ := h4
    obtain ⟨-, h5⟩ := q.up _ _ _ _ _ h1 h3
    obtain ⟨rfl, -⟩ := h5 rfl
    exact ⟨b', ds', e, h3, Defs.of_marks q hd (fun k hk => hm k (List.mem_cons_of_mem _ hk)) h2⟩

theorem WpV.region {r : Option Nat} {N id : Nat} {l : List Oper} {Q : Exit → Fr → List Nat → Hp → Prop} {fr : Fr} {D : List Nat} (h : WpOps P r N l.toArray l (fun fr' H' => Marks D H' ∧ Q .normal fr' D H') fr H) : WpV P r N (.region id l.toArray false) Q fr D H := by
  intro r ρ W a hr hs hf hd
  refine wpIn_region_lit (wpListIn_mono (fun a' W' => ?_) ?_ ?_ _ _ _ (h r ρ W a hs hd))
  · rintro ⟨-, ρ', fr', H', q, e, hs', hd', hm, hq⟩
    exact ⟨ρ', fr', D, H', q, hs', by rw [e]; exact Defs.of_marks q hd' hm hf, hd', hq⟩
  · rintro c _ _ ⟨h, -⟩; cases h
  · rintro ⟨_, _, h, -⟩; cases h

/-! ### In any order -/
def putsA : List Oper → List AV → Fr → Fr
  | o :: l, x :: xs, fr => putsA l xs (fr.put o.dst x)
  | _, _, fr => fr

/-- Each operation yields one value, and leaves the objects as they are. -/
def LexD (P : Program) (N : Nat) (ops : Array Oper) (H : Hp) (Q : Fr → Prop) : List Oper → Fr → Prop
  | [], fr => Q fr
  | o :: l, fr => (o.dst.all (· < N)) = true ∧ ((guardOf ops fr o = some true ∧ ∃ x, OpW P o fr.ev H (fun x' H' => x' = x ∧ H' = H) ∧ LexD P N ops H Q l (fr.put o.dst x)) ∨ (guardOf ops fr o = some false ∧ Oper.calm o = true ∧ LexD P N ops H Q l (fr.put o.dst (.tup []))))

theorem LexD.evs {N : Nat} {ops : Array Oper} {Q : Fr → Prop} {fr' : Fr} {l2 : List Oper} (h2 : LexD P N ops H Q l2 fr') : ∀ (l1 : List Oper) (fr : Fr), (l1.all Oper.calm) = true → evOps P H N ops l1 fr = some fr' → LexD P N ops H Q (l1 ++ l2) fr
  | [], fr, _, h => by cases h; exact h2
  | o :: l, fr, hc, h => by
    simp only [List.all_cons, Bool.and_eq_true] at hc
    unfold evOps at h
    split at h
    · rename_i hg hN
      split at h
      · rename_i x hx
        exact ⟨hN, .inl ⟨hg, x, OpW.ev hx ⟨rfl, rfl⟩, LexD.evs h2 l _ hc.2 h⟩⟩
      · cases h
    · rename_i hg hN
      exact ⟨hN, .inr ⟨hg, hc.1, LexD.evs h2 l _ hc.2 h⟩⟩
    · cases h

structure LexAt (P : Program) (N : Nat) (ops : Array Oper) (H : Hp) (o : Oper) (fr : Fr) (x : AV) : Prop where
  lt : (o.dst.all (· < N)) = true
  calm : Oper.calm o = true
  does : (guardOf ops fr o = some true ∧ OpW P o fr.ev H (fun x' H' => x' = x ∧ H' = H)) ∨ (guardOf ops fr o = some false ∧ x = .tup [])

theorem LexD.out {N : Nat} {ops : Array Oper} {Q : Fr → Prop} : ∀ (l : List Oper) (fr : Fr), LexD P N ops H Q l fr → ∃ xs : List AV, xs.length = l.length ∧ Q (putsA l xs fr) ∧
    ∀ (i : Nat) (o : Oper) (x : AV), l[i]? = some o → xs[i]? = some x → LexAt P N ops H o (putsA (l.take i) (xs.take i) fr) x
  | [], fr, h => ⟨[], rfl, h, fun i o x h => by simp at h⟩
  | o :: l, fr, ⟨hN, h⟩ => by
    rcases h with ⟨hg, x, hx, h⟩ | ⟨hg, hc, h⟩
    · obtain ⟨xs, h1, h2, h3⟩ := LexD.out l _ h
      refine ⟨x :: xs, by simp [h1], h2, fun i o' y ho hy => ?_⟩
      cases i with
      | zero =>
        simp only [List.getElem?_cons_zero, Option.some.injEq] at ho hy
        subst ho hy
        exact ⟨hN, hx.calm, .inl ⟨hg, hx⟩⟩
      | succ i => exact h3 i o' y (by simpa using ho) (by simpa using hy)
    · obtain ⟨xs, h1, h2, h3⟩ := LexD.out l _ h
      refine ⟨.tup [] :: xs, by simp [h1], h2, fun i o' y ho hy => ?_⟩
      cases i with
      | zero =>
        simp only [List.getElem?_cons_zero, Option.some.injEq] at ho hy
        subst ho hy
        exact ⟨hN, hc, .inr ⟨hg, rfl⟩⟩
      | succ i => exact h3 i o' y (by simpa using ho) (by simpa using hy)

theorem get_put (fr : Fr) (d : Option Tmp) (x : AV) (t : Nat) : (fr.put d x).get t = if d = some t then some x else fr.get t := by
  cases d with
  | none => simp [Fr.put]
  | some d => simp only [Fr.put, Fr.get, Option.some.injEq]
theorem putsA_old : ∀ (l : List Oper) (xs : List AV) (fr : Fr) (t : Nat), (∀ j, dstAt l j ≠ some t) → (putsA l xs fr).get t = fr.get t
  | [], xs, fr, t, _ => by unfold putsA; rfl
  | o :: l, [], fr, t, _ => by unfold putsA; rfl
  | o :: l, x :: xs, fr, t, h => by
    rw [putsA, putsA_old l xs _ t (fun j => by have := h (j + 1); simpa [dstAt] using this), get_put, if_neg (by have := h 0; simpa [dstAt] using this)]
theorem putsA_new : ∀ (l : List Oper) (xs : List AV) (fr : Fr) (t j : Nat) (x : AV), dstAt l j = some t → (∀ k, dstAt l k = some t → k = j) → xs[j]? = some x → (putsA l xs fr).get t = some x
  | [], xs, fr, t, j, x, h, _, _ => by simp [dstAt] at h
  | o :: l, [], fr, t, j, x, _, _, h => by simp at h
  | o :: l, y :: xs, fr, t, 0, x, h, hu, hx => by
    simp only [List.getElem?_cons_zero, Option.some.injEq] at hx
    subst hx
    rw [putsA, putsA_old l xs _ t (fun j hj => by have := hu (j + 1) (by simpa [dstAt] using hj); omega), get_put, if_pos (by simpa [dstAt] using h)]
  | o :: l, y :: xs, fr, t, j + 1, x, h, hu, hx => by
    rw [putsA]
    exact putsA_new l xs _ t j x (by simpa [dstAt] using h) (fun k hk => by have := hu (k + 1) (by simpa [dstAt] using hk); omega) (by simpa using hx)

theorem dstAt_take (l : List Oper) (i j : Nat) : dstAt (l.take i) j = if j < i then dstAt l j else none := by
  unfold dstAt
  rw [List.getElem?_take]
  split <;> rfl

structure AnyInv (l : List Oper) (N : Nat) (xs : List AV) (fr : Fr) (ρ0 : Own) (W0 : World) (H : Hp) (ds : List Deferred) (listed : Array Bool) (b : Act) (W : World) : Prop where
  size : listed.size = l.length
  tmps : b.tmps.size = N
  defs : b.defers = ds
  st : ∃ ρ, Ext ρ0 W0 ρ W ∧ HD ρ W H ∧ (∀ t x, fr.get t = some x → (∀ j, dstAt l j = some t → listed[j]? ≠ some true) → ∃ v, b.tmps[t]? = some v ∧ Den ρ W x v) ∧
    (∀ j x d, listed[j]? = some true → xs[j]? = some x → dstAt l j = some d → ∃ v, b.tmps[d]? = some v ∧ Den ρ W x v)

theorem WpV.regionD {r : Option Nat} {N id : Nat} {l : List Oper} {Q : Exit → Fr → List Nat → Hp → Prop} {fr : Fr} {D : List Nat} (hm : P.follows .mixedOrders = true) (hB : orderB l = true) (hK : backB l = true)
    (h : LexD P N l.toArray H (fun fr' => Marks D H ∧ Q .normal fr' D H) l fr) : WpV P r N (.region id l.toArray true) Q fr D H := by
  intro r ρ0 W0 a hr0 hs0 hf0 hd0
  obtain ⟨xs, hxl, ⟨hmk, hQ⟩, hat⟩ := LexD.out l fr h
  refine wpIn_region_any hm ?_
  have inv : ∀ (fuel : Nat) (listed : Array Bool) (b : Act) (W : World), listed.toList.count false = fuel → AnyInv l N xs fr ρ0 W0 H a.defers listed b W →
      wpAnyIn (Fw r) 0 P .any l.toArray (fun e a' W' => ∃ ρ' fr' D' H', Ext ρ0 W0 ρ' W' ∧ Sim N fr' ρ' W' a' ∧ Defs ρ' D' a'.defers ∧ HD ρ' W' H' ∧ Q e fr' D' H') fuel listed b W := by
    intro fuel
    induction fuel with
    | zero =>
      intro listed b W hc hi
      have hall : ∀ j, j < l.length → listed[j]? = some true := by
        intro j hj
        rw [← hi.size] at hj
        cases e : listed[j] with
        | true => rw [Array.getElem?_eq_getElem hj, e]
        | false =>
          have : false ∈ listed.toList := by rw [← e]; exact Array.getElem_mem_toList hj
          have := List.count_pos_iff.2 this
          omega
      refine ⟨?_, ?_⟩
      · cases hr : Region.ready .any l.toArray listed with
        | nil => rfl
        | cons x xs =>
          have hx : x ∈ Region.ready .any l.toArray listed := by rw [hr]; simp
          obtain ⟨h1, o, ho, -⟩ := mem_ready.1 hx
          have h2 := getD_false h1
          rw [hall x (by rw [← hi.size]; exact (Array.getElem?_eq_some_iff.1 h2).1)] at h2
          cases h2
      · obtain ⟨ρ, q, hd, hold, hnew⟩ := hi.st
        refine ⟨ρ, _, D, H, q, ⟨hi.tmps, fun t x hx => ?_⟩, by rw [hi.defs]; exact Defs.of_marks q hd hmk hf0, hd, hQ⟩
        by_cases e : ∃ j, dstAt l j = some t
        · obtain ⟨j, hj⟩ := e
          have hjl : j < l.length := by
            by_cases e : j < l.length
            · exact e
            · simp [dstAt, List.getElem?_eq_none (Nat.le_of_not_lt e)] at hj
          have hxj : xs[j]? = some xs[j] := List.getElem?_eq_getElem (by omega)
          rw [putsA_new l xs fr t j _ hj (fun k hk => orderB_dst hB hk hj) hxj] at hx
          cases hx
          exact hnew j _ t (hall j hjl) hxj hj
        · have e' : ∀ j, dstAt l j ≠ some t := fun j hj => e ⟨j, hj⟩
          rw [putsA_old l xs fr t e'] at hx
          exact hold t x hx (fun j hj => absurd hj (e' j))
    | succ fuel ih =>
      intro listed b W hc hi
      refine ⟨fun hr => ?_, fun i hir => ?_⟩
      · exfalso
        have hmem : false ∈ listed.toList := List.count_pos_iff.1 (by omega)
        obtain ⟨k, hk, hke⟩ := List.getElem_of_mem hmem
        have hk' : k < listed.size := by simpa using hk
        have hex : ∃ k, k < listed.size ∧ listed[k]? = some false := ⟨k, hk', by rw [Array.getElem?_eq_getElem hk']; simpa using hke⟩
        obtain ⟨m, ⟨hm1, hm2⟩, hmin⟩ : ∃ m, (m < listed.size ∧ listed[m]? = some false) ∧ ∀ j, j < m → ¬ (j < listed.size ∧ listed[j]? = some false) := by
          obtain ⟨k, hk⟩ := hex
          induction k using Nat.strongRecOn with
          | _ k ihk =>
            by_cases e : ∃ j, j < k ∧ (j < listed.size ∧ listed[j]? = some false)
            · obtain ⟨j, hj, hj2⟩ := e; exact ihk j hj hj2
            · exact ⟨k, hk, fun j hj hj2 => e ⟨j, hj, hj2⟩⟩
        have hml : m < l.length := by rw [← hi.size]; exact hm1
        have : m ∈ Region.ready .any l.toArray listed := by
          refine mem_ready.2 ⟨by rw [Array.getD_eq_getD_getElem?, hm2]; rfl, l[m], by simp [hml], fun e he hb => ?_⟩
          have h1 := backB_at hK (List.getElem?_eq_getElem hml) e he hb
          have h2 := hmin _ h1
          have h3 : e.on < listed.size := by omega
          cases h4 : listed[e.on] with
          | true => rw [Array.getD_eq_getD_getElem?, Array.getElem?_eq_getElem h3, h4]; rfl
          | false => exact absurd ⟨h3, by rw [Array.getElem?_eq_getElem h3, h4]⟩ h2
        rw [hr] at this
        cases this
      · obtain ⟨hun, o, ho, hall⟩ := mem_ready.1 hir
        have hun' := getD_false hun
        have ho' : l[i]? = some o := by simpa using ho
        have hil : i < l.length := (List.getElem?_eq_some_iff.1 ho').1
        have hxi : xs[i]? = some xs[i] := List.getElem?_eq_getElem (by omega)
        have hA := hat i o _ ho' hxi
        obtain ⟨hr1, hr2, hr3⟩ := orderB_at hB ho'
        obtain ⟨ρ, q, hd, hold, hnew⟩ := hi.st
        -- what the operation reads is there
        have slot : ∀ t, t ∈ readsOf l o → ∀ z, (putsA (l.take i) (xs.take i) fr).get t = some z → ∃ v, b.tmps[t]? = some v ∧ Den ρ W z v := by
          intro t ht z hz
          by_cases e : ∃ j, dstAt l j = some t
          · obtain ⟨j, hj⟩ := e
            obtain ⟨e, he, hb, rfl⟩ := hr1 j t ht hj
            have hlt := backB_at hK ho' e he hb
            have hlis := getD_true (hall e he hb)
            have hxj : xs[e.on]? = some xs[e.on] := List.getElem?_eq_getElem (by omega)
            rw [putsA_new (l.take i) (xs.take i) fr t e.on xs[e.on] (by rw [dstAt_take, if_pos hlt]; exact hj) (fun k hk => by
              rw [dstAt_take] at hk; split at hk
              · exact orderB_dst hB hk hj
              · cases hk) (by rw [List.getElem?_take, if_pos hlt]; exact hxj)] at hz
            cases hz
            exact hnew _ _ t hlis hxj hj
          · have e' : ∀ j, dstAt l j ≠ some t := fun j hj => e ⟨j, hj⟩
            rw [putsA_old (l.take i) (xs.take i) fr t (fun j hj => by
              rw [dstAt_take] at hj; split at hj
              · exact e' j hj
              · cases hj)] at hz
            exact hold t z hz (fun j hj => absurd hj (e' j))
        have hcnt : (listed.setIfInBounds i true).toList.count false = fuel := by have := count_set_false hun'; omega
        have hS : ∀ j, ((listed.setIfInBounds i true)[j]? = some true) ↔ (listed[j]? = some true ∨ j = i) := by
          intro j
          rw [Array.getElem?_setIfInBounds]
          by_cases e : i = j
          · subst e
            have := (Array.getElem?_eq_some_iff.1 hun').1
            simp [this]
          · simp [e, Ne.symm e]
        have hdst : dstAt l i = o.dst := by simp [dstAt, ho']
        have hnext : ∀ v W' ρ', Ext ρ W ρ' W' → HD ρ' W' H → Den ρ' W' xs[i] v → wpAnyIn (Fw r) 0 P .any l.toArray (fun e a' W' => ∃ ρ' fr' D' H', Ext ρ0 W0 ρ' W' ∧ Sim N fr' ρ' W' a' ∧ Defs ρ' D' a'.defers ∧ HD ρ' W' H' ∧ Q e fr' D' H') fuel (listed.setIfInBounds i true) (b.put o.dst v) W' := by
          intro v W' ρ' q' hd' hv
          refine ih _ _ _ hcnt ⟨by rw [Array.size_setIfInBounds]; exact hi.size, ?_, ?_, ρ', q.trans hd0.live q', hd', ?_, ?_⟩
          · cases o.dst <;> simp [Act.put, hi.tmps]
          · rw [put_defs]; exact hi.defs
          · intro t x hx hno
            have hne : o.dst ≠ some t := fun e => hno i (by rw [hdst, e]) ((hS i).2 (.inr rfl))
            obtain ⟨u, hu, hdu⟩ := hold t x hx (fun j hj hl => hno j hj ((hS j).2 (.inl hl)))
            refine ⟨u, ?_, Den.ext q' hd.live _ _ hdu⟩
            cases hd2 : o.dst with
            | none => simpa [Act.put] using hu
            | some d =>
              simp only [Act.put]
              rw [Array.getElem?_setIfInBounds_ne (fun e => hne (by rw [hd2, e]))]
              exact hu
          · intro j x d hj hx hjd
            by_cases e : j = i
            · subst e
              rw [hxi] at hx; cases hx
              rw [hdst] at hjd
              have hlt : d < N := by have := hA.lt; rw [hjd] at this; simpa using this
              exact ⟨v, by simp [hjd, Act.put, hi.tmps, hlt], hv⟩
            · have hl := ((hS j).1 hj).resolve_right e
              obtain ⟨u, hu, hdu⟩ := hnew j x d hl hx hjd
              refine ⟨u, ?_, Den.ext q' hd.live _ _ hdu⟩
              cases hd2 : o.dst with
              | none => simpa [Act.put] using hu
              | some d' =>
                simp only [Act.put]
                rw [Array.getElem?_setIfInBounds_ne (fun e' => e (orderB_dst hB hjd (by rw [hdst, hd2, e'])))]
                exact hu
        have hguard : ∀ g, guardOf l.toArray (putsA (l.take i) (xs.take i) fr) o = some g → Region.wanted o (yielded l.toArray b.tmps) = g := by
          intro g hg
          unfold guardOf at hg
          unfold Region.wanted
          cases hgo : o.guard with
          | none => rw [hgo] at hg; simpa using hg
          | some gw =>
            obtain ⟨j, want⟩ := gw
            rw [hgo] at hg
            simp only at hg ⊢
            split at hg
            · rename_i c hc2
              cases hg
              obtain ⟨d, hd2, hx⟩ := Option.bind_eq_some_iff.1 hc2
              have hdj : dstAt l j = some d := by simpa [dstAt] using hd2
              obtain ⟨v, hv, hden⟩ := slot d (List.mem_append_right _ (by rw [hgo]; simp [hdj])) _ hx
              rw [Den] at hden
              subst hden
              unfold yielded
              rw [hd2, Option.bind_some, hv]
              cases c <;> cases want <;> rfl
            · rename_i hc2
              cases hg
              obtain ⟨d, hd2, hx⟩ := Option.bind_eq_some_iff.1 hc2
              have hdj : dstAt l j = some d := by simpa [dstAt] using hd2
              obtain ⟨v, hv, hden⟩ := slot d (List.mem_append_right _ (by rw [hgo]; simp [hdj])) _ hx
              have := wanted_undef hgo hd2 hv hden
              unfold Region.wanted at this
              rw [hgo] at this
              exact this
            · cases hg
        unfold wpOpIn
        simp only [ho]
        rcases hA.does with ⟨hg, hop⟩ | ⟨hg, hany⟩
        · rw [hguard _ hg, if_pos rfl]
          refine Runs.wpIn hA.calm (hop.runs ρ W b.eval (fun y hy z hz => ?_) hd) ?_
          · cases y with
            | tmp t =>
              obtain ⟨v, hv, hden⟩ := slot t (List.mem_append_left _ (List.mem_filterMap.2 ⟨.tmp t, by simpa using hy, rfl⟩)) z hz
              simp only [Act.eval, Array.getD_eq_getD_getElem?, hv, Option.getD_some]
              exact hden
            | const v => exact AV.ofV_den hz
            | global g => cases hz
            | func f =>
              simp only [Fr.ev, Option.some.injEq] at hz
              subst hz
              rw [Den]
              exact ⟨#[], #[], rfl, rfl, rfl, by rw [DenL]; trivial, by rw [DenL]; trivial⟩
          · rintro v W' ⟨ρ', x, H', q', hv, hd', rfl, rfl⟩
            exact hnext v W' ρ' q' hd' hv
        · rw [hguard _ hg]
          exact ⟨fun _ _ => trivial, hnext _ _ ρ hd.refl hd (by rw [hany]; exact Den.undef)⟩
  refine inv _ _ _ _ (by simp) ⟨by simp, hs0.size, rfl, ρ0, Ext.drew hd0, hd0.drew, fun t x hx _ => ?_, fun j x d hj => ?_⟩
  · obtain ⟨v, hv, hden⟩ := hs0.fr t x hx
    exact ⟨v, hv, Den.ext (Ext.drew hd0) hd0.live _ _ hden⟩
  · rw [Array.getElem?_replicate] at hj; split at hj <;> cases hj
end Go.Proofs.YtaekibilldjnmaaGreat
namespace Go.Proofs.YtaekibilldjnmaaGreat
variable {P : Program} {ρ : Own} {W : World} {H : Hp}

/-- A function's contract: on these values and objects it returns, and what was not owned stays. -/
def CallV (P : Program) (f : FuncId) (xs : List AV) (H : Hp) (Q : AV → Hp → Prop) : Prop :=
  ∀ ρ W (args : Array Value), args.size = xs.length → DenL ρ W xs (fun i => args[i]?) → HD ρ W H →
    Calls P f args W fun e W' => ∃ v ρ' x H', e = .returned v ∧ Ext ρ W ρ' W' ∧ Den ρ' W' x v ∧ HD ρ' W' H' ∧ Q x H'

theorem CallV.mono {f : FuncId} {xs : List AV} {Q Q' : AV → Hp → Prop} (h : CallV P f xs H Q) (hq : ∀ x H, Q x H → Q' x H) : CallV P f xs H Q' :=
  fun ρ W args h1 h2 h3 => Calls.mono (h ρ W args h1 h2 h3) fun _ _ ⟨v, ρ', x, H', e1, e2, e3, e4, e5⟩ => ⟨v, ρ', x, H', e1, e2, e3, e4, hq _ _ e5⟩

theorem denL_append {xs ys : List AV} {a b : Array Value} (ha : a.size = xs.length) (h1 : DenL ρ W xs (fun i => a[i]?)) (h2 : DenL ρ W ys (fun i => b[i]?)) : DenL ρ W (xs ++ ys) (fun i => (a ++ b)[i]?) := by
  refine DenL.of fun i x hx => ?_
  by_cases hi : i < xs.length
  · rw [List.getElem?_append_left hi] at hx
    obtain ⟨v, hv, hd⟩ := h1.at hx
    exact ⟨v, by rw [Array.getElem?_append_left (by omega)]; exact hv, hd⟩
  · rw [List.getElem?_append_right (by omega)] at hx
    obtain ⟨v, hv, hd⟩ := h2.at hx
    exact ⟨v, by rw [Array.getElem?_append_right (by omega), ha]; exact hv, hd⟩

abbrev EntersF (P : Program) (f : FuncId) : Prop := ∀ args w, (callFunc f args).run P w = .ok (.enter f args) w

theorem OpW.call {o : Oper} {ev : Operand → Option AV} {K : AV → Hp → Prop} {y : Operand} {args : Array Operand} {ts : Array TypeId} {f : FuncId} {fs cs xs : List AV}
    (ho : o.op = .call { callee := .value y, args := args, argTypes := ts }) (hy : ev y = some (.fn (.func f) fs cs)) (hx : mapEv ev args.toList = some xs) (eg : EntersF P f)
    (h : CallV P f (fs ++ xs ++ cs) H K) : OpW P o ev H K := by
  refine ⟨by simp [Oper.calm, ho], fun ρ W σ hd hH => ?_⟩
  have hyd := hd y (by simp [ho, Op.operands, Call.operands]) _ hy
  rw [Den] at hyd
  obtain ⟨a, b, e, h1, h2, h3, h4⟩ := hyd
  obtain ⟨k1, k2⟩ := mapEv_den (ρ := ρ) (W := W) (σ := σ) (fun z hz => hd z (by simp [ho, Op.operands, Call.operands]; exact .inr (Array.mem_toList_iff.1 hz))) hx
  have hrun : (execOp σ o).run P W = .ok (.enter f (a ++ args.map σ ++ b)) W := by
    simp only [execOp, ho, resolve, e, Deferred.ofValue, Sem.run_bind, Sem.run_pure, Result.andThen_ok, invoke]
    exact eg _ _
  unfold Runs
  rw [hrun]
  have hargs : DenL ρ W (fs ++ xs ++ cs) (fun i => (a ++ args.map σ ++ b)[i]?) :=
    denL_append (by simp [h1]; simpa using k1) (denL_append h1 h3 (by simpa using k2)) h4
  refine Calls.mono (h ρ W (a ++ args.map σ ++ b) (by simp [h1, h2]; simpa using k1) hargs hH) ?_
  rintro e' W' ⟨v, ρ', x, H', rfl, q, hv, hH', hk⟩
  exact ⟨v, rfl, ρ', x, H', q, hv, hH', hk⟩

/-! ### A function's body -/
def paramsFr : Nat → List AV → Fr
  | _, [] => []
  | k, x :: xs => (k, x) :: paramsFr (k + 1) xs
theorem paramsFr_get : ∀ (xs : List AV) (k t : Nat), (paramsFr k xs).get t = if k ≤ t then xs[t - k]? else none
  | [], k, t => by simp [paramsFr, Fr.get]
  | x :: xs, k, t => by
    rw [paramsFr, Fr.get, paramsFr_get xs]
    by_cases h : k = t
    · subst h; simp
    · rw [if_neg h]
      by_cases h2 : k ≤ t
      · rw [if_pos (by omega), if_pos h2, show t - k = (t - (k + 1)) + 1 by omega, List.getElem?_cons_succ]
      · rw [if_neg (by omega), if_neg h2]

def loadA (P : Program) (H : Hp) (fr : Fr) : ResultVar → Option AV
  | .tmp t => fr.get t
  | .cell a t => (fr.get a).bind (evLoad P H t)
def loadsA (P : Program) (H : Hp) (fr : Fr) : List ResultVar → Option (List AV)
  | [] => some []
  | r :: rs => match loadA P H fr r, loadsA P H fr rs with
    | some x, some xs => some (x :: xs)
    | _, _ => none
def resA (P : Program) (H : Hp) (fr : Fr) (rs : List ResultVar) : Option AV :=
  match loadsA P H fr rs with
  | some [x] => some x
  | some xs => some (.tup xs)
  | none => none
def killA (H : Hp) : List Nat → Hp
  | [] => H
  | id :: D => killA (H.set id none) D

def rvSem (tmps : Array Value) : ResultVar → Sem Value
  | .tmp t => pure (tmps.getD t undef)
  | .cell b t => do loadVar t (← asAddr (tmps.getD b undef))
theorem results_eq (fn : Func) (tmps : Array Value) : results fn tmps = (do let vs ← fn.results.mapM (rvSem tmps); pure (if h : vs.size = 1 then vs[0] else .tuple vs)) := by
  unfold results
  congr 1

theorem run_loads (hH : HD ρ W H) {N : Nat} {fr : Fr} {a : Act} (hs : Sim N fr ρ W a) : ∀ {rs : List ResultVar} {xs : List AV}, loadsA P H fr rs = some xs →
    ∃ vs : List Value, (rs.mapM (rvSem a.tmps)).run P W = .ok vs W ∧ vs.length = xs.length ∧ DenL ρ W xs (fun i => vs[i]?)
  | [], xs, h => by cases h; exact ⟨[], rfl, rfl, by rw [DenL]; trivial⟩
  | r :: rs, xs, h => by
    unfold loadsA at h
    split at h
    · rename_i x ys h1 h2
      cases h
      obtain ⟨vs, e1, e2, e3⟩ := run_loads hH hs h2
      have hone : ∃ v, (rvSem a.tmps r).run P W = .ok v W ∧ Den ρ W x v := by
        cases r with
        | tmp t =>
          obtain ⟨v, hv, hd⟩ := hs.fr t x h1
          exact ⟨v, by simp [rvSem, Array.getD_eq_getD_getElem?, hv], hd⟩
        | cell b t =>
          obtain ⟨y, hy, hl⟩ := Option.bind_eq_some_iff.1 h1
          obtain ⟨u, hu, hd⟩ := hs.fr b y hy
          obtain ⟨v, hv, hx⟩ := run_load_ev (P := P) hH hd hl
          refine ⟨v, ?_, hx⟩
          simp only [rvSem, Array.getD_eq_getD_getElem?, hu, Option.getD_some, Sem.run_bind]
          simp only [Instr.loadAt, Sem.run_bind] at hv
          cases u with
          | pointer p => cases p with
            | some p => simpa [asAddr, Instr.sureAddr] using hv
            | none => simp [Instr.sureAddr] at hv
          | _ => simp [Instr.sureAddr] at hv
      obtain ⟨v, hv, hx⟩ := hone
      refine ⟨v :: vs, ?_, by simp [e2], ?_⟩
      · rw [List.mapM_cons]
        simp only [Sem.run_bind]
        rw [hv]
        simp only [Result.andThen_ok]
        rw [e1]; rfl
      · rw [DenL]; exact ⟨⟨v, rfl, hx⟩, e3⟩
    · cases h

theorem run_results (hH : HD ρ W H) {N : Nat} {fr : Fr} {a : Act} (hs : Sim N fr ρ W a) {fn : Func} {x : AV} (h : resA P H fr fn.results.toList = some x) :
    ∃ v, (results fn a.tmps).run P W = .ok v W ∧ Den ρ W x v := by
  unfold resA at h
  cases hl : loadsA P H fr fn.results.toList with
  | none => rw [hl] at h; cases h
  | some xs =>
    rw [hl] at h
    obtain ⟨vs, e1, e2, e3⟩ := run_loads (P := P) hH hs hl
    have hm : (fn.results.mapM (rvSem a.tmps)).run P W = .ok vs.toArray W := by
      rw [Array.mapM_eq_mapM_toList, Sem.run_map]
      rw [e1]; rfl
    have hrun : (results fn a.tmps).run P W = .ok (if h : vs.toArray.size = 1 then vs.toArray[0] else .tuple vs.toArray) W := by
      rw [results_eq, Sem.run_bind, hm]; rfl
    refine ⟨_, hrun, ?_⟩
    match xs, h, e2, e3 with
    | [y], h, e2, e3 =>
      cases h
      have h1 : vs.toArray.size = 1 := by simpa using e2
      rw [dif_pos h1]
      rw [DenL] at e3
      obtain ⟨⟨v, hv, hd⟩, -⟩ := e3
      have : vs.toArray[0] = v := by
        have : vs[0]? = some v := hv
        rw [List.getElem?_eq_getElem (by simp at e2; omega)] at this
        cases this; rfl
      rw [this]; exact hd
    | [], h, e2, e3 =>
      cases h
      rw [dif_neg (by simp at e2; simp [e2])]
      rw [Den]; exact ⟨_, rfl, by simpa using e2, by simpa using e3⟩
    | y :: z :: r, h, e2, e3 =>
      cases h
      rw [dif_neg (by simp at e2; simp [e2])]
      rw [Den]; exact ⟨_, rfl, by simpa using e2, by simpa using e3⟩

def RetV (P : Program) (fn : Func) (Q : AV → Hp → Prop) : Exit → Fr → List Nat → Hp → Prop
  | .normal, fr, D, H | .ret, fr, D, H => Marks D H ∧ D.Nodup ∧ ∃ x, resA P (killA H D) fr fn.results.toList = some x ∧ Q x (killA H D)
  | _, _, _, _ => False

theorem HD.kill (h : HD ρ W H) {id e b : Nat} {W' : World} (hb : ρ.obj id = some (e, b)) (hs : W'.heap.size = W.heap.size) (ho : ∀ k, k ≠ b → W'.heap[k]? = W.heap[k]?) (hio : W'.os = W.os ∧ W'.output = W.output ∧ W'.tape = W.tape := by exact ⟨rfl, rfl, rfl⟩) : Ext ρ W (ρ.drop id) W' ∧ HD (ρ.drop id) W' (H.set id none) := by
  have q : Ext ρ W (ρ.drop id) W' := by
    have q0 := Ext.drop h id
    refine ⟨q0.nx, by omega, q0.dead, fun k e1 b1 e2 b2 g1 g2 => ?_, fun c hc hfree => ⟨(q0.free c hc hfree).1, ho c (fun e' => hfree id e (by rw [e']; exact hb))⟩, q0.live, hio⟩
    obtain ⟨p1, p2⟩ := q0.up _ _ _ _ _ g1 g2
    refine ⟨p1, fun he => ⟨(p2 he).1, fun cs ty fz hc => ⟨cs, ?_, rfl⟩⟩⟩
    rw [ho b1 (fun e' => ?_)]; · exact hc
    subst e'
    have : k = id := h.inj _ _ _ _ _ g1 hb
    subst this
    simp [Own.drop] at g2
  refine ⟨q, fun k o' hk => ?_, fun k hk => ?_, q.live, fun k k' e e' b h1 h2 => (h.drop id).inj _ _ _ _ _ h1 h2⟩
  · simp only [Hp.set] at hk
    split at hk
    · cases hk
    · rename_i hne
      obtain ⟨e1, b1, h1, h2, h3⟩ := h.obs k o' hk
      exact ⟨e1, b1, by simp only [Own.drop]; rw [if_neg hne]; exact h1, by omega, h.of_ext (id := k) q h3 (ho b1 (fun e' => hne (h.inj _ _ _ _ _ (e' ▸ h1) hb)))⟩
  · exact (h.drop id).non k hk

theorem Defs.drop {ρ : Own} {W W' : World} {id : Nat} {H' : Hp} (q : Ext ρ W (ρ.drop id) W') (hd : HD (ρ.drop id) W' H') : ∀ {D : List Nat} {ds : List Deferred}, id ∉ D → Defs ρ D ds → Defs (ρ.drop id) D ds
  | [], _, _, h => h
  | k :: D, _, hn, ⟨b, ds', e, h1, h2⟩ => by
    simp only [List.mem_cons, not_or] at hn
    exact ⟨b, ds', e, by simp only [Own.drop]; rw [if_neg (Ne.symm hn.1)]; exact h1, Defs.drop q hd hn.2 h2⟩

/-- The marks are taken at the return. -/
theorem leaves_marks {N : Nat} {fn : Func} {fr : Fr} {x : AV} {R : Ending → World → Prop} {a : Act} : ∀ (D : List Nat) (ds : List Deferred) (H : Hp) (ρ : Own) (W : World), Defs ρ D ds → HD ρ W H → Marks D H → D.Nodup → Sim N fr ρ W a →
    resA P (killA H D) fr fn.results.toList = some x →
    (∀ v ρ' W', Ext ρ W ρ' W' → Den ρ' W' x v → HD ρ' W' (killA H D) → R (.returned v) W') → LeavesInM Fence.wide 0 P fn a.tmps R ds .returning W
  | [], ds, H, ρ, W, hf, hd, _, _, hs, hx, hr => by
    have : ds = [] := hf
    subst this
    obtain ⟨v, hv, hden⟩ := run_results (P := P) hd hs hx
    exact ⟨v, hv, hr v ρ W hd.refl hden hd⟩
  | id :: D, _, H, ρ, W, ⟨b, ds', rfl, hb, hf⟩, hd, hm, hn, hs, hx, hr => by
    obtain ⟨e, b', h1, h2, h3⟩ := hd.obs id _ (hm id (List.mem_cons_self ..))
    rw [hb] at h1; cases h1
    obtain ⟨-, h4⟩ := h3
    refine ⟨by simp, .inl ⟨b, _, rfl, run_takeDeferred h4, ?_⟩⟩
    have hot : ∀ k, k ≠ b → (W.putObj b (.deferred none)).heap[k]? = W.heap[k]? := by
      intro k hk; simp only [World.putObj]; rw [Array.getElem?_setIfInBounds_ne (Ne.symm hk)]
    obtain ⟨q1, d1⟩ := hd.kill hb (by simp [World.putObj]) hot
    simp only [List.nodup_cons] at hn
    refine leaves_marks D ds' (H.set id none) _ _ (Defs.drop q1 d1 ?_ hf) d1 ?_ hn.2 (hs.ext q1 hd.live) hx (fun v ρ' W' q2 hv hd' => hr v ρ' W' (q1.trans hd.live q2) hv hd')
    · exact hn.1
    · intro k hk
      rw [Hp.set_ne _ _ (fun e : k = id => hn.1 (by rw [← e]; exact hk))]
      exact hm k (List.mem_cons_of_mem _ hk)

theorem CallV.body {f : FuncId} {fn : Func} {c : Code} {xs : List AV} {Q : AV → Hp → Prop} (hf : P.funcs[f]? = some fn) (hb : fn.body = some c) {N : Nat} (hN : fn.ntmps = N) (hl : decide (xs.length ≤ N) = true)
    (h : WpV P none N c (RetV P fn Q) (paramsFr 0 xs) [] H) : CallV P f xs H Q := by
  intro ρ W args ha hd hH
  have hl' : xs.length ≤ N := by simpa using hl
  refine (callsIn_wide (n := 0)).1 (callsIn_of_wp_marks hf hb trivial ?_ rfl)
  refine wpIn_mono (h none ρ W _ trivial ⟨by simp; omega, fun t x hx => ?_⟩ (show _ = _ from rfl) hH) ?_
  · rw [paramsFr_get, if_pos (Nat.zero_le _), Nat.sub_zero] at hx
    obtain ⟨v, hv, hden⟩ := hd.at hx
    refine ⟨v, ?_, hden⟩
    have : t < args.size := by rw [ha]; exact (List.getElem?_eq_some_iff.1 hx).1
    rw [Array.getElem?_append_left this]; exact hv
  · intro e a' W' he
    obtain ⟨ρ', fr', D', H', q, hs, hdf, hd', hq⟩ := he
    cases e with
    | normal =>
      obtain ⟨hm, hn, x, hx, hQ⟩ := hq
      exact leaves_marks D' _ H' ρ' W' hdf hd' hm hn hs hx (fun v ρ'' W'' q2 hv hd2 => ⟨v, ρ'', x, _, rfl, q.trans hH.live q2, hv, hd2, hQ⟩)
    | ret =>
      obtain ⟨hm, hn, x, hx, hQ⟩ := hq
      exact leaves_marks D' _ H' ρ' W' hdf hd' hm hn hs hx (fun v ρ'' W'' q2 hv hd2 => ⟨v, ρ'', x, _, rfl, q.trans hH.live q2, hv, hd2, hQ⟩)
    | _ => exact hq.elim
end Go.Proofs.YtaekibilldjnmaaGreat
namespace Go.Proofs.YtaekibilldjnmaaGreat
variable {P : Program} {ρ : Own} {W : World} {H : Hp}

theorem Runs.value {o : Oper} {σ : Operand → Value} {W' : World} {v : Value} {R : Value → World → Prop} (h : (execOp σ o).run P W = .ok (.value v) W') (hr : R v W') : Runs P o σ W R := by
  unfold Runs; rw [h]; exact hr
theorem Runs.skip {o : Oper} {σ : Operand → Value} {W' : World} {R : Value → World → Prop} (h : (execOp σ o).run P W = .ok .skip W') (hr : R undef W') : Runs P o σ W R := by
  unfold Runs; rw [h]; exact hr

theorem own_den (h : HD ρ W H) {cs : List AV} {arr : Array Value} {ty : TypeId} (hs : cs.length ≤ arr.size) (hd : DenL ρ W cs (fun i => arr[i]?)) :
    Ext ρ W (ρ.add ρ.nx W.heap.size) (W.alloc (.cells arr ty)) ∧ HD (ρ.add ρ.nx W.heap.size) (W.alloc (.cells arr ty)) (H.set ρ.nx (some (.cells ty 0 cs))) ∧ H ρ.nx = none ∧
      (ρ.add ρ.nx W.heap.size).obj ρ.nx = some (0, W.heap.size) := by
  have q := Ext.own h (.cells arr ty) (Nat.le_refl ρ.nx)
  refine ⟨q, h.own (Nat.le_refl _) ⟨rfl, arr, World.alloc_heap_new _ _, hs, DenL.ext q h.live _ _ hd⟩, h.fresh (Nat.le_refl _), by simp [Own.add]⟩

theorem OpW.alloc {o : Oper} {ev : Operand → Option AV} {t : TypeId} {zs : List AV} {K : AV → Hp → Prop} (ho : o.op = .alloc t) (hz : zeroT P t = some zs)
    (hk : ∀ id, H id = none → K (.rp id 0 0) (H.set id (some (.cells t 0 zs)))) : OpW P o ev H K := by
  refine ⟨by simp [Oper.calm, ho], fun ρ W σ hd hH => ?_⟩
  obtain ⟨z, e1, e2, e3⟩ := zeroT_spec (ρ := ρ) (W := W) hz
  obtain ⟨q, hd', hn, hb⟩ := own_den hH (ty := t) (by omega) e3
  refine Runs.value (v := .pointer (some ⟨W.heap.size, 0, none⟩)) (W' := W.alloc (.cells z.cells t)) ?_ ⟨_, _, _, q, rp_of hd' hb, hd', hk _ hn⟩
  simp only [execOp, ho, Instr.alloc, Sem.run_bind, e1, Result.andThen_ok]
  rfl

theorem OpW.box {o : Oper} {ev : Operand → Option AV} {t : TypeId} {y : Operand} {x : AV} {xs : List AV} {K : AV → Hp → Prop} (ho : o.op = .box t y) (hy : ev y = some x) (hx : x.cells = some xs)
    (hk : ∀ id, H id = none → K (.rp id 0 0) (H.set id (some (.cells t 0 xs)))) : OpW P o ev H K := by
  refine ⟨by simp [Oper.calm, ho], fun ρ W σ hd hH => ?_⟩
  have hv := hd y (by simp [ho, Op.operands]) _ hy
  obtain ⟨k1, k2, -⟩ := hv.cells hx
  obtain ⟨q, hd', hn, hb⟩ := own_den hH (ty := t) (by omega) k2
  refine Runs.value (v := .pointer (some ⟨W.heap.size, 0, none⟩)) (W' := W.alloc (.cells (σ y).cells t)) ?_ ⟨_, _, _, q, rp_of hd' hb, hd', hk _ hn⟩
  simp only [execOp, ho, Instr.box, Sem.run_bind]
  rfl

theorem OpW.store {o : Oper} {ev : Operand → Option AV} {t ty : TypeId} {a y : Operand} {id ver off : Nat} {cs xs : List AV} {x : AV} {K : AV → Hp → Prop} (ho : o.op = .store t a y) (ha : ev a = some (.rp id ver off)) (hy : ev y = some x)
    (hH0 : H id = some (.cells ty ver cs)) (hx : x.cells = some xs) (hs : sizeT P t = some xs.length) (hle : off + xs.length ≤ cs.length)
    (hk : K .any (H.set id (some (.cells ty ver (putC cs off xs))))) : OpW P o ev H K := by
  refine ⟨by simp [Oper.calm, ho], fun ρ W σ hd hH => ?_⟩
  have hva := hd a (by simp [ho, Op.operands]) _ ha
  have hvy := hd y (by simp [ho, Op.operands]) _ hy
  obtain ⟨b, ty', cs', h1, h2⟩ := turnOf_spec hH (id := id) (ver := ver) (by simp [turnOf, hH0])
  rw [Den] at hva
  have hva' := (hva.2.2 _ _ h2).2 rfl
  obtain ⟨W', e1, q, hd'⟩ := run_storeVar (P := P) hH hH0 h2 hvy hx hs hle
  refine Runs.skip (W' := W') ?_ ⟨ρ, .any, _, q, Den.anyv _, hd', hk⟩
  simp only [execOp, ho, Instr.storeAt, hva', Instr.sureAddr, Sem.run_bind, Sem.run_pure, Result.andThen_ok, e1]

/-! ### Appends -/
def viewS (H : Hp) : AV → Option (Nat × List AV)
  | .sl _ _ m ys => some (m, ys)
  | .rs id ver sz off m _ => match H id with
    | some (.cells _ ver' cs) => if ver' = ver ∧ off + m * sz ≤ cs.length then some (m, (cs.drop off).take (m * sz)) else none
    | _ => none
  | _ => none

theorem DenL.list : ∀ {xs : List AV} {f : Nat → Option Value}, DenL ρ W xs f → ∃ vs : List Value, vs.length = xs.length ∧ (∀ (i : Nat) v, vs[i]? = some v → f i = some v) ∧ DenL ρ W xs (fun i => vs[i]?)
  | [], _, _ => ⟨[], rfl, fun _ _ h => by simp at h, by rw [DenL]; trivial⟩
  | x :: xs, f, h => by
    rw [DenL] at h
    obtain ⟨⟨v, hv, hd⟩, ht⟩ := h
    obtain ⟨vs, h1, h2, h3⟩ := ht.list
    refine ⟨v :: vs, by simp [h1], fun i u hu => ?_, ?_⟩
    · cases i with
      | zero => simp only [List.getElem?_cons_zero, Option.some.injEq] at hu; subst hu; exact hv
      | succ i => exact h2 i u (by simpa using hu)
    · rw [DenL]; exact ⟨⟨v, rfl, hd⟩, h3⟩

theorem src_of (hH : HD ρ W H) {y : AV} {v : Value} {m s : Nat} {ys : List AV} {t e : TypeId} (hu : P.underlying t = some (.slice e)) (hv : Den ρ W y v) (h : viewS H y = some (m, ys)) (hl : ys.length = m * s) (h1 : ys.all AV.one = true) :
    ∃ news, Src P s t v m news W ∧ DenL ρ W ys (fun i => news[i]?) ∧ news.length = ys.length := by
  have mk : ∀ (a : Addr) (c : Nat), v = .slice (some a) m c → DenL ρ W ys (fun i => W.cell? (a.add i)) → ∃ news, Src P s t v m news W ∧ DenL ρ W ys (fun i => news[i]?) ∧ news.length = ys.length := by
    intro a c e hd
    obtain ⟨vs, k1, k2, k3⟩ := hd.list
    refine ⟨vs, ?_, k3, k1⟩
    rw [e]
    refine Src.ofSlice W hu a m c vs (by rw [k1, hl]) k2 (fun u hu' => ?_)
    obtain ⟨i, hi, rfl⟩ := List.getElem_of_mem hu'
    obtain ⟨w, hw, hd'⟩ := k3.at (List.getElem?_eq_getElem (show i < ys.length by omega))
    rw [List.getElem?_eq_getElem hi] at hw
    cases hw
    exact (hd'.one (List.all_eq_true.1 h1 _ (List.getElem_mem _))).1
  unfold viewS at h
  split at h
  · rename_i nl clip m' ys'
    cases h
    rw [Den] at hv
    obtain ⟨a, cap, e, g1, -, g2, g3⟩ := hv
    cases nl with
    | true =>
      obtain ⟨rfl, rfl, rfl⟩ := g2 rfl
      have : m = 0 := by omega
      subst this
      subst e
      exact ⟨[], Src.ofNil W hu 0, by rw [DenL]; trivial, rfl⟩
    | false =>
      obtain ⟨b, off, rfl, -, hd⟩ := g3 rfl
      exact mk ⟨b, off, none⟩ cap e (hd.congr fun i _ => by rw [add_addr])
  · rename_i id ver sz off m' clip
    split at h
    · rename_i ty ver' cs ho
      split at h
      · rename_i hc
        cases h
        obtain ⟨rfl, hle⟩ := hc
        obtain ⟨b, cap, arr, ty', cs', k1, k2, e, -, -, k3, -, k4, k5⟩ := rs_at hH hv (by simp [turnOf, ho])
        rw [ho] at k2; cases k2
        refine mk ⟨b, off, none⟩ cap e ?_
        refine (DenL.take (k := m * sz) (DenL.drop (k := off) k5)).congr fun i _ => ?_
        rw [add_addr]
        simp only [World.cell?, k3]
        rfl
      · cases h
    · cases h
  · cases h

structure Elem (P : Program) (t e : TypeId) (s : Nat) (n : Nat) : Prop where
  slice : P.underlying t = some (.slice e)
  info : ∃ i z, P.info? e = some i ∧ i.size = s ∧ i.zero = some z ∧ z.cells.size = s ∧ n * i.bytes ≤ 140737488355328
  small : n ≤ 9223372036854775807

theorem Elem.of {P : Program} {t e : TypeId} {z : Value} {s bytes n : Nat} (hu : P.underlying t = some (.slice e)) (h : (P.info? e).map (fun i => (i.zero, i.size, i.bytes)) = some (some z, s, bytes)) (hz : z.cells.size = s) (hb : n * bytes ≤ 140737488355328) (hn : n ≤ 9223372036854775807) : Elem P t e s n := by
  obtain ⟨i, hi, he⟩ := Option.map_eq_some_iff.1 h
  simp only [Prod.mk.injEq] at he
  exact ⟨hu, ⟨i, z, hi, he.2.1, he.1, hz, by rw [he.2.2]; exact hb⟩, hn⟩
theorem zeroCells_size (z : Array Value) (n : Nat) : (Builtin.zeroCells z n).size = n * z.size := by simp [Builtin.zeroCells]
theorem grownCap_le (w : World) (need old : Nat) (e : TypeId) : need ≤ grownCap w need old e := by simp [grownCap, Question.cut]

/-- Onto a slice without room to spare. -/
theorem OpW.append {o : Oper} {ev : Operand → Option AV} {t t2 e : TypeId} {a y : Operand} {nl : Bool} {len m s : Nat} {cells ys : List AV} {y' : AV} {K : AV → Hp → Prop}
    (ho : o.op = .call { callee := .builtin .append, args := #[a, y], argTypes := #[t, t2] }) (ha : ev a = some (.sl nl true len cells)) (hy : ev y = some y') (hv : viewS H y' = some (m, ys))
    (hE : Elem P t e s (len + m)) (hu2 : P.underlying t2 = some (.slice e)) (hl1 : cells.length = len * s) (hl2 : ys.length = m * s) (h1 : ys.all AV.one = true) (hm : 0 < m)
    (hk : ∀ id, H id = none → K (.rs id 0 s 0 (len + m) false) (H.set id (some (.cells e 0 (cells ++ ys))))) : OpW P o ev H K := by
  refine ⟨by simp [Oper.calm, ho], fun ρ W σ hd hH => ?_⟩
  have hva := hd a (by simp [ho, Op.operands, Call.operands]) _ ha
  have hvy := hd y (by simp [ho, Op.operands, Call.operands]) _ hy
  obtain ⟨i, z, hi, his, hz, hzs, hb⟩ := hE.info
  obtain ⟨news, hsrc, hdn, hln⟩ := src_of (P := P) hH hu2 hvy hv hl2 h1
  rw [Den] at hva
  obtain ⟨base, cap, ea, g1, g2, g3, g4⟩ := hva
  obtain rfl := g2 rfl
  obtain ⟨olds, hold, hdo, hlo⟩ : ∃ olds : List Value, (Builtin.firstCells i.size cap (.slice base cap cap)).run P W.drew = .ok olds.toArray W.drew ∧ DenL ρ W cells (fun i => olds[i]?) ∧ olds.length = cells.length := by
    cases nl with
    | true =>
      obtain ⟨rfl, rfl, rfl⟩ := g3 rfl
      exact ⟨[], run_firstCells_none W.drew i.size 0 0 0, by rw [DenL]; trivial, rfl⟩
    | false =>
      obtain ⟨b, off, rfl, -, hdc⟩ := g4 rfl
      obtain ⟨vs, k1, k2, k3⟩ := hdc.list
      exact ⟨vs, run_firstCells_some W.drew i.size cap ⟨b, off, none⟩ cap cap vs (by rw [k1, hl1, his]) (fun j v hj => by rw [add_addr]; exact k2 j v hj), k3, k1⟩
  have hrun := run_append_grow_src (P := P) W t t2 o.type e i z hE.slice hi hz base cap cap olds hold (σ y) m news (his ▸ hsrc) (by omega) (by have := hE.small; omega) (growslice_fits (by omega) hb)
  have hden : DenL ρ W (cells ++ ys) (fun j => ((olds ++ news).toArray ++ Builtin.zeroCells z.cells (grownCap W (cap + m) cap e - (cap + m)))[j]?) := by
    refine DenL.of fun j x hj => ?_
    have hjl := (List.getElem?_eq_some_iff.1 hj).1
    simp only [List.length_append] at hjl
    rw [Array.getElem?_append_left (by simp; omega)]
    simp only [List.getElem?_toArray]
    by_cases hjc : j < cells.length
    · rw [List.getElem?_append_left hjc] at hj
      rw [List.getElem?_append_left (by omega)]
      exact hdo.at hj
    · rw [List.getElem?_append_right (by omega)] at hj
      rw [List.getElem?_append_right (by omega), hlo]
      exact hdn.at hj
  have hH1 := hH.drew
  obtain ⟨q, hd', hn, hbk⟩ := own_den hH1 (ty := e) (arr := ((olds ++ news).toArray ++ Builtin.zeroCells z.cells (grownCap W (cap + m) cap e - (cap + m)))) (by simp; omega) (DenL.ext (Ext.drew hH) hH.live _ _ hden)
  have hle := grownCap_le W (cap + m) cap e
  have hdv : Den (ρ.add ρ.nx W.drew.heap.size) (W.drew.alloc (.cells ((olds ++ news).toArray ++ Builtin.zeroCells z.cells (grownCap W (cap + m) cap e - (cap + m))) e)) (.rs ρ.nx 0 s 0 (cap + m) false) (.slice (some ⟨W.heap.size, 0, none⟩) (cap + m) (grownCap W (cap + m) cap e)) := by
    rw [Den]
    refine ⟨q.live _ _ _ hbk, rfl, fun e' b' hb' => ?_⟩
    rw [hbk] at hb'; cases hb'
    refine ⟨Nat.le_refl _, fun _ => ⟨_, rfl, hle, nofun, _, e, (0, 0), World.alloc_heap_new _ _, ?_⟩⟩
    simp only [Array.size_append, List.size_toArray, List.length_append, zeroCells_size, hzs]
    rw [hlo, hln, hl1, hl2, Nat.zero_add, ← Nat.add_mul, ← Nat.add_mul]
    exact Nat.mul_le_mul_right _ (by omega)
  refine Runs.value (v := .slice (some ⟨W.heap.size, 0, none⟩) (cap + m) (grownCap W (cap + m) cap e)) (W' := W.drew.alloc (.cells ((olds ++ news).toArray ++ Builtin.zeroCells z.cells (grownCap W (cap + m) cap e - (cap + m))) e)) ?_
    ⟨_, _, _, (Ext.drew hH).trans hH.live q, hdv, hd', hk _ hn⟩
  simp only [execOp, ho, resolve, Sem.run_bind, Sem.run_pure, Result.andThen_ok, invoke, builtin]
  rw [show (#[a, y].map σ) = #[.slice base cap cap, σ y] by simp [ea], hrun]
  rfl

/-- An object's turn goes on: in its block, or in a new one. -/
def Own.turn (ρ : Own) (id e b : Nat) : Own := { ρ with obj := fun k => if k = id then some (e, b) else ρ.obj k }
theorem HD.turn (h : HD ρ W H) {W' : World} {id e b e' b' : Nat} {ob : Ob} (hb : ρ.obj id = some (e, b)) (he : e < e') (hs : W.heap.size ≤ W'.heap.size) (ho : ∀ k, k < W.heap.size → k ≠ b → W'.heap[k]? = W.heap[k]?)
    (hb' : b' = b ∨ (W.heap.size ≤ b' ∧ b' < W'.heap.size)) (hd : Ext ρ W (ρ.turn id e' b') W' → ObDen (ρ.turn id e' b') W' e' b' ob) (hio : W'.os = W.os ∧ W'.output = W.output ∧ W'.tape = W.tape := by exact ⟨rfl, rfl, rfl⟩) : Ext ρ W (ρ.turn id e' b') W' ∧ HD (ρ.turn id e' b') W' (H.set id (some ob)) := by
  have hlb := h.lt hb
  have q : Ext ρ W (ρ.turn id e' b') W' := by
    refine ⟨Nat.le_refl _, hs, fun k _ hn => ?_, fun k e1 b1 e2 b2 h1 h2 => ?_, fun c hc hf => ⟨fun k e1 hk => ?_, ho c hc (fun e' => hf id e (by rw [e']; exact hb))⟩, fun k e1 b1 hk => ?_, hio⟩
    · simp only [Own.turn]
      by_cases hk : k = id
      · subst hk; rw [hb] at hn; cases hn
      · rw [if_neg hk]; exact hn
    · simp only [Own.turn] at h2
      by_cases hk : k = id
      · subst hk
        rw [if_pos rfl] at h2; cases h2
        rw [hb] at h1; cases h1
        exact ⟨by omega, fun e => by omega⟩
      · rw [if_neg hk, h1] at h2; cases h2
        refine ⟨Nat.le_refl _, fun _ => ⟨rfl, fun cs ty fz hx => ⟨cs, ?_, rfl⟩⟩⟩
        rw [ho b1 (h.lt h1) (fun e => hk (h.inj _ _ _ _ _ (e ▸ h1) hb))]; exact hx
    · simp only [Own.turn] at hk
      split at hk
      · cases hk
        rcases hb' with rfl | h2
        · exact hf _ _ hb
        · omega
      · exact hf _ _ hk
    · simp only [Own.turn] at hk ⊢
      split at hk
      · rename_i e; subst e; exact h.live _ _ _ hb
      · exact h.live _ _ _ hk
  refine ⟨q, fun k o' hk => ?_, fun k hk => ?_, q.live, fun k k' e1 e2 c h1 h2 => ?_⟩
  · simp only [Hp.set] at hk
    split at hk
    · rename_i e; subst e; cases hk
      exact ⟨e', b', by simp [Own.turn], by rcases hb' with rfl | h2 <;> omega, hd q⟩
    · rename_i hne
      obtain ⟨e1, b1, h1, h2, h3⟩ := h.obs k o' hk
      exact ⟨e1, b1, by simp only [Own.turn]; rw [if_neg hne]; exact h1, by omega, h.of_ext (id := k) q h3 (ho b1 h2 (fun e' => hne (h.inj _ _ _ _ _ (e' ▸ h1) hb)))⟩
  · simp only [Hp.set] at hk
    simp only [Own.turn]
    split at hk
    · cases hk
    · rename_i hne; rw [if_neg hne]; exact h.non k hk
  · simp only [Own.turn] at h1 h2
    split at h1 <;> split at h2
    · omega
    · rename_i e1 e2
      cases h1
      rcases hb' with rfl | h3
      · subst e1; exact h.inj _ _ _ _ _ hb h2
      · have := h.lt h2; omega
    · rename_i e1 e2
      cases h2
      rcases hb' with rfl | h3
      · subst e2; exact h.inj _ _ _ _ _ h1 hb
      · have := h.lt h1; omega
    · exact h.inj _ _ _ _ _ h1 h2

theorem setCells_io {b : Nat} : ∀ (vs : List Value) (W : World) (o : Nat), (W.setCells b o vs).os = W.os ∧ (W.setCells b o vs).output = W.output ∧ (W.setCells b o vs).tape = W.tape
  | [], _, _ => ⟨rfl, rfl, rfl⟩
  | v :: vs, W, o => by rw [World.setCells]; exact setCells_io vs (W.setCell ⟨b, o, none⟩ v) (o + 1)
theorem setCells_spec {b : Nat} {ty : TypeId} : ∀ (vs : List Value) (W : World) (arr : Array Value) (o : Nat), W.heap[b]? = some (.cells arr ty (0, 0)) → o + vs.length ≤ arr.size →
    (W.setCells b o vs).heap.size = W.heap.size ∧ (∀ k, k ≠ b → (W.setCells b o vs).heap[k]? = W.heap[k]?) ∧ (W.setCells b o vs).heap[b]? = some (.cells (arrPut arr o vs) ty (0, 0))
  | [], W, arr, o, h, _ => ⟨rfl, fun _ _ => rfl, h⟩
  | v :: vs, W, arr, o, h, hl => by
    simp only [List.length_cons] at hl
    have hb : (W.setCell ⟨b, o, none⟩ v).heap[b]? = some (.cells (arr.setIfInBounds o v) ty (0, 0)) := by
      simp [World.setCell, Array.getElem?_modify, h]
    obtain ⟨e2, e3, e4⟩ := setCells_spec vs (W.setCell ⟨b, o, none⟩ v) (arr.setIfInBounds o v) (o + 1) hb (by simp; omega)
    refine ⟨by rw [World.setCells, e2]; simp, fun k hk => ?_, ?_⟩
    · rw [World.setCells, e3 k hk]
      simp only [World.setCell, Array.getElem?_modify]
      rw [if_neg (fun e => hk e.symm)]
    · rw [World.setCells, e4, arrPut]

/-- Onto a row that the program may write on: in its room, or in a new one. -/
theorem OpW.appendO {o : Oper} {ev : Operand → Option AV} {t t2 e : TypeId} {a y : Operand} {id ver len m s : Nat} {clip : Bool} {cs ys : List AV} {y' : AV} {K : AV → Hp → Prop}
    (ho : o.op = .call { callee := .builtin .append, args := #[a, y], argTypes := #[t, t2] }) (ha : ev a = some (.rs id ver s 0 len clip)) (hH0 : H id = some (.cells e ver cs)) (hy : ev y = some y') (hv : viewS H y' = some (m, ys))
    (hE : Elem P t e s (len + m)) (hu2 : P.underlying t2 = some (.slice e)) (hl1 : len * s ≤ cs.length) (hl2 : ys.length = m * s) (h1 : ys.all AV.one = true)
    (hk : K (.rs id (ver + 1) s 0 (len + m) false) (H.set id (some (.cells e (ver + 1) (cs.take (len * s) ++ ys))))) : OpW P o ev H K := by
  refine ⟨by simp [Oper.calm, ho], fun ρ W σ hd hH => ?_⟩
  have hva := hd a (by simp [ho, Op.operands, Call.operands]) _ ha
  have hvy := hd y (by simp [ho, Op.operands, Call.operands]) _ hy
  obtain ⟨i, z, hi, his, hz, hzs, hb⟩ := hE.info
  obtain ⟨news, hsrc, hdn, hln⟩ := src_of (P := P) hH hu2 hvy hv hl2 h1
  obtain ⟨b, cap, arr, ty, cs', k1, k2, ea, k3, -, k4, k5, k6, k7⟩ := rs_at hH hva (by simp [turnOf, hH0])
  rw [hH0] at k2; cases k2
  have hrest : ∀ (W' : World) (b' cap' : Nat) (arr' : Array Value), W.heap.size ≤ W'.heap.size → (∀ k, k < W.heap.size → k ≠ b → W'.heap[k]? = W.heap[k]?) → (b' = b ∨ (W.heap.size ≤ b' ∧ b' < W'.heap.size)) →
      W'.heap[b']? = some (.cells arr' e (0, 0)) → len + m ≤ cap' → cap' * s ≤ arr'.size → (∀ (j : Nat), j < len * s → arr'[j]? = arr[j]?) → (∀ (j : Nat), j < news.length → arr'[len * s + j]? = news[j]?) → (W'.os = W.os ∧ W'.output = W.output ∧ W'.tape = W.tape) →
      ∃ ρ' x H', Ext ρ W ρ' W' ∧ Den ρ' W' x (.slice (some ⟨b', 0, none⟩) (len + m) cap') ∧ HD ρ' W' H' ∧ K x H' := by
    intro W' b' cap' arr' q1 q2 q3 q4 q5 q6 q7 q8 q9
    have hmul : (len + m) * s ≤ cap' * s := Nat.mul_le_mul_right _ q5
    rw [Nat.add_mul] at hmul
    obtain ⟨q, hd'⟩ := hH.turn (ob := .cells e (ver + 1) (cs.take (len * s) ++ ys)) k1 (Nat.lt_succ_self ver) q1 q2 q3 (fun q => by
      have hlt : (cs.take (len * s)).length = len * s := by rw [List.length_take]; omega
      refine ⟨rfl, arr', q4, by rw [List.length_append, hlt]; omega, DenL.of fun j x hj => ?_⟩
      by_cases hjc : j < len * s
      · rw [List.getElem?_append_left (by omega), List.getElem?_take, if_pos hjc] at hj
        obtain ⟨v, hv, hx⟩ := k7.at hj
        exact ⟨v, by rw [q7 j hjc]; exact hv, Den.ext q hH.live _ _ hx⟩
      · rw [List.getElem?_append_right (by omega), hlt] at hj
        obtain ⟨v, hv, hx⟩ := hdn.at hj
        have hjl := (List.getElem?_eq_some_iff.1 hj).1
        refine ⟨v, ?_, Den.ext q hH.live _ _ hx⟩
        have := q8 (j - len * s) (by omega)
        rw [show len * s + (j - len * s) = j by omega] at this
        rw [this]; exact hv) q9
    refine ⟨_, _, _, q, ?_, hd', hk⟩
    rw [Den]
    refine ⟨q.live id (ver + 1) b' (by simp [Own.turn]), rfl, fun e' b2 hb2 => ?_⟩
    simp only [Own.turn, if_true, Option.some.injEq, Prod.mk.injEq] at hb2
    obtain ⟨rfl, rfl⟩ := hb2
    exact ⟨Nat.le_refl _, fun _ => ⟨cap', rfl, q5, nofun, arr', e, (0, 0), q4, by omega⟩⟩
  have hexec : ∀ {W' : World} {v : Value}, (Builtin.append_ #[t, t2] o.type #[.slice (some ⟨b, 0, none⟩) len cap, σ y]).run P W = .ok v W' → (execOp σ o).run P W = .ok (.value v) W' := by
    intro W' v hrun
    simp only [execOp, ho, resolve, Sem.run_bind, Sem.run_pure, Result.andThen_ok, invoke, builtin]
    rw [show (#[a, y].map σ) = #[.slice (some ⟨b, 0, none⟩) len cap, σ y] by simp [ea], hrun]
    rfl
  by_cases hroom : len + m ≤ cap
  · have hcap : (len + m) * s ≤ cap * s := Nat.mul_le_mul_right _ hroom
    rw [Nat.add_mul] at hcap
    have hrun := run_append_room_src (P := P) W t t2 o.type e i hE.slice hi b 0 len cap (σ y) m news (his ▸ hsrc) hroom
      (fun j hj => by simp only [World.cell?, k4]; simp; rw [his]; omega) (fun j hj => by simp [World.frozen?, k4])
    obtain ⟨s1, s2, s3⟩ := setCells_spec news W arr (0 + len * i.size) k4 (by rw [his]; omega)
    refine Runs.value (hexec hrun) (hrest _ b cap _ (by omega) (fun k _ hk => s2 k hk) (.inl rfl) s3 hroom (by rw [arrPut_size]; omega) (fun j hj => ?_) (fun j hj => ?_) (setCells_io _ _ _))
    · rw [arrPut_get _ _ _ _ (by rw [his]; omega), if_neg (by rw [his]; omega)]
    · rw [arrPut_get _ _ _ _ (by rw [his]; omega), if_pos (by rw [his]; omega), show len * s + j - (0 + len * i.size) = j by rw [his]; omega]
  · obtain ⟨olds, o1, o2, o3⟩ := (DenL.take (k := len * s) k7).list
    rw [List.length_take, Nat.min_eq_left hl1] at o1
    have hold : (Builtin.firstCells i.size len (.slice (some ⟨b, 0, none⟩) len cap)).run P W.drew = .ok olds.toArray W.drew :=
      run_firstCells_some W.drew i.size len ⟨b, 0, none⟩ len cap olds (by rw [o1, his]) (fun j v hj => by
        rw [add_addr, World.cell?_drew]; simp only [World.cell?, k4, Nat.zero_add]; exact o2 j v hj)
    have hrun := run_append_grow_src (P := P) W t t2 o.type e i z hE.slice hi hz (some ⟨b, 0, none⟩) len cap olds hold (σ y) m news (his ▸ hsrc) (by omega) (by have := hE.small; omega) (growslice_fits (by omega) hb)
    have hle := grownCap_le W (len + m) cap e
    have hsz : ∀ k, k < W.heap.size → (W.drew.alloc (.cells ((olds ++ news).toArray ++ Builtin.zeroCells z.cells (grownCap W (len + m) cap e - (len + m))) e)).heap[k]? = W.heap[k]? := by
      intro k hk; simp only [World.alloc, Array.getElem?_push]; rw [if_neg (by simp; omega)]; rfl
    refine Runs.value (hexec hrun) (hrest _ W.heap.size (grownCap W (len + m) cap e) _ (by simp) (fun k hk _ => hsz k hk) (.inr ⟨Nat.le_refl _, by simp⟩) (World.alloc_heap_new W.drew _) hle ?_ (fun j hj => ?_) (fun j hj => ?_) ⟨rfl, rfl, rfl⟩)
    · simp only [Array.size_append, List.size_toArray, List.length_append, zeroCells_size, hzs]
      rw [o1, hln, hl2, ← Nat.add_mul, ← Nat.add_mul]
      exact Nat.mul_le_mul_right _ (by omega)
    · rw [Array.getElem?_append_left (by simp; omega)]
      simp only [List.getElem?_toArray]
      rw [List.getElem?_append_left (by omega)]
      have := o2 j olds[j] (List.getElem?_eq_getElem (by omega))
      rw [List.getElem?_eq_getElem (by omega)]; exact this.symm
    · rw [Array.getElem?_append_left (by simp; omega)]
      simp only [List.getElem?_toArray]
      rw [List.getElem?_append_right (by omega)]
      congr 1; omega

/-- Nothing onto a slice without room to spare. -/
theorem OpW.append0 {o : Oper} {ev : Operand → Option AV} {t t2 e : TypeId} {a y : Operand} {nl : Bool} {len s : Nat} {cells : List AV} {y' : AV} {K : AV → Hp → Prop}
    (ho : o.op = .call { callee := .builtin .append, args := #[a, y], argTypes := #[t, t2] }) (ha : ev a = some (.sl nl true len cells)) (hy : ev y = some y') (hv : viewS H y' = some (0, []))
    (hE : Elem P t e s len) (hu2 : P.underlying t2 = some (.slice e)) (hk : K (.sl nl true len cells) H) : OpW P o ev H K := by
  refine ⟨by simp [Oper.calm, ho], fun ρ W σ hd hH => ?_⟩
  have hva := hd a (by simp [ho, Op.operands, Call.operands]) _ ha
  have hvy := hd y (by simp [ho, Op.operands, Call.operands]) _ hy
  obtain ⟨i, z, hi, his, hz, hzs, hb⟩ := hE.info
  obtain ⟨news, hsrc, -, hln⟩ := src_of (P := P) (s := s) hH hu2 hvy hv (by simp) rfl
  have hnn : news = [] := List.eq_nil_of_length_eq_zero hln
  subst hnn
  have hden := hva
  rw [Den] at hva
  obtain ⟨base, cap, ea, g1, g2, g3, g4⟩ := hva
  obtain rfl := g2 rfl
  refine Runs.value (v := .slice base cap cap) (W' := W) ?_ ⟨ρ, _, H, hH.refl, by rw [← ea]; exact hden, hH, hk⟩
  have hc := hsrc.cells
  have hrun : (Builtin.append_ #[t, t2] o.type #[.slice base cap cap, σ y]).run P W = .ok (.slice base cap cap) W := by
    rcases hsrc.kind with ⟨e', hk'⟩ | hk' <;>
      (cases base <;> simp [Builtin.append_, run_underlying hE.slice, run_underlying hk', sizeOf, typeInfo, hi, hsrc.len, his, hc, storeCells])
  simp only [execOp, ho, resolve, Sem.run_bind, Sem.run_pure, Result.andThen_ok, invoke, builtin]
  rw [show (#[a, y].map σ) = #[.slice base cap cap, σ y] by simp [ea], hrun]
  rfl

/-! ### What may be said anew at any time -/
/-- The frame and the objects may be read in another way. -/
def Frz (fr : Fr) (H : Hp) (fr' : Fr) (H' : Hp) : Prop := ∀ N ρ W a, Sim N fr ρ W a → HD ρ W H → ∃ ρ', Ext ρ W ρ' W ∧ Sim N fr' ρ' W a ∧ HD ρ' W H'
theorem Frz.refl (fr : Fr) (H : Hp) : Frz fr H fr H := fun _ ρ _ _ hs hd => ⟨ρ, hd.refl, hs, hd⟩
theorem Frz.trans {fr fr' fr'' : Fr} {H H' H'' : Hp} (h : Frz fr H fr' H') (k : Frz fr' H' fr'' H'') : Frz fr H fr'' H'' := fun N ρ W a hs hd => by
  obtain ⟨ρ', q, hs', hd'⟩ := h N ρ W a hs hd
  obtain ⟨ρ'', q', hs'', hd''⟩ := k N ρ' W a hs' hd'
  exact ⟨ρ'', q.trans hd.live q', hs'', hd''⟩
theorem Frz.weaken {fr fr' : Fr} {H : Hp} (h : ∀ t x, fr'.get t = some x → fr.get t = some x) : Frz fr H fr' H := fun _ ρ _ _ hs hd => ⟨ρ, hd.refl, ⟨hs.size, fun t x hx => hs.fr t x (h t x hx)⟩, hd⟩

theorem Sim.set {N : Nat} {fr : Fr} {a : Act} (hs : Sim N fr ρ W a) {t : Nat} {y x : AV} (hy : fr.get t = some y) (hx : ∀ v, Den ρ W y v → Den ρ W x v) : Sim N ((t, x) :: fr) ρ W a := by
  refine ⟨hs.size, fun k z hz => ?_⟩
  simp only [Fr.get] at hz
  by_cases e : t = k
  · subst e
    rw [if_pos rfl] at hz; cases hz
    obtain ⟨v, hv, hd⟩ := hs.fr t y hy
    exact ⟨v, hv, hx v hd⟩
  · rw [if_neg e] at hz; exact hs.fr k z hz

/-- A row is written no more. -/
theorem den_freeze (hH : HD ρ W H) {id ver sz off len : Nat} {clip : Bool} {ty : TypeId} {cs : List AV} {v : Value} (hv : Den ρ W (.rs id ver sz off len clip) v) (ho : H id = some (.cells ty ver cs)) :
    Den (ρ.drop id) W (.sl false clip len ((cs.drop off).take (len * sz))) v := by
  obtain ⟨b, cap, arr, ty', cs', k1, k2, rfl, k3, k4, k5, k6, k7, k8⟩ := rs_at hH hv (by simp [turnOf, ho])
  rw [ho] at k2; cases k2
  rw [Den]
  refine ⟨_, cap, rfl, k3, k4, nofun, fun _ => ⟨b, off, rfl, fun _ => ⟨hH.lt k1, hH.drop_free k1⟩, ?_⟩⟩
  refine (DenL.take (k := len * sz) (DenL.drop (k := off) (DenL.ext (Ext.drop hH id) hH.live _ _ k8))).congr fun i _ => ?_
  simp only [World.cell?, k5]
  rfl
theorem den_freezeP (hH : HD ρ W H) {id ver off : Nat} {ty : TypeId} {cs : List AV} {v : Value} (hv : Den ρ W (.rp id ver off) v) (ho : H id = some (.cells ty ver cs)) :
    Den (ρ.drop id) W (.cp cs off) v := by
  obtain ⟨b, ty', cs', h1, h2⟩ := turnOf_spec hH (id := id) (ver := ver) (by simp [turnOf, ho])
  rw [Den] at hv
  obtain rfl := (hv.2.2 _ _ h2).2 rfl
  have := ob_cells hH ho h2
  have hd := DenL.ext (Ext.drop hH id) hH.live _ _ this
  have h3 := cp_of (off := off) (o := 0) (fun _ => ⟨hH.lt h2, hH.drop_free h2⟩) hd
  rwa [Nat.zero_add] at h3
theorem den_freezeM (hH : HD ρ W H) {id : Nat} {ks vs : List AV} {v : Value} (hv : Den ρ W (.mp id) v) (ho : H id = some (.map ks vs)) :
    Den (ρ.drop id) W (.fm ks vs) v := by
  obtain ⟨b, es, cl, h1, rfl, h2, h3, h4, h5, h6⟩ := mp_at hH hv ho
  rw [Den]
  exact ⟨b, es, cl, rfl, hH.lt h1, hH.drop_free h1, h2, h3, h4, DenL.ext (Ext.drop hH id) hH.live _ _ h5, DenL.ext (Ext.drop hH id) hH.live _ _ h6⟩

theorem Frz.slice {fr : Fr} {t id ver sz off len : Nat} {clip : Bool} {ty : TypeId} {cs : List AV} (ht : fr.get t = some (.rs id ver sz off len clip)) (ho : H id = some (.cells ty ver cs)) :
    Frz fr H ((t, .sl false clip len ((cs.drop off).take (len * sz))) :: fr) (H.set id none) := fun N ρ W a hs hd => by
  obtain ⟨v, hv, hden⟩ := hs.fr t _ ht
  have hs' := hs.ext (Ext.drop hd id) hd.live
  refine ⟨ρ.drop id, Ext.drop hd id, ⟨hs'.size, fun k z hz => ?_⟩, hd.drop id⟩
  simp only [Fr.get] at hz
  by_cases e : t = k
  · subst e
    rw [if_pos rfl] at hz; cases hz
    exact ⟨v, hv, den_freeze hd hden ho⟩
  · rw [if_neg e] at hz; exact hs'.fr k z hz
theorem Frz.ptr {fr : Fr} {t id ver off : Nat} {ty : TypeId} {cs : List AV} (ht : fr.get t = some (.rp id ver off)) (ho : H id = some (.cells ty ver cs)) :
    Frz fr H ((t, .cp cs off) :: fr) (H.set id none) := fun N ρ W a hs hd => by
  obtain ⟨v, hv, hden⟩ := hs.fr t _ ht
  have hs' := hs.ext (Ext.drop hd id) hd.live
  refine ⟨ρ.drop id, Ext.drop hd id, ⟨hs'.size, fun k z hz => ?_⟩, hd.drop id⟩
  simp only [Fr.get] at hz
  by_cases e : t = k
  · subst e
    rw [if_pos rfl] at hz; cases hz
    exact ⟨v, hv, den_freezeP hd hden ho⟩
  · rw [if_neg e] at hz; exact hs'.fr k z hz
theorem Frz.drop (fr : Fr) (H : Hp) (id : Nat) : Frz fr H fr (H.set id none) := fun _ ρ _ _ hs hd => ⟨ρ.drop id, Ext.drop hd id, hs.ext (Ext.drop hd id) hd.live, hd.drop id⟩

/-- One cell of an object is read anew, while another object is given up. -/
theorem HD.cell {hd : HD ρ W H} {id k : Nat} {ty : TypeId} {ver i : Nat} {cs : List AV} {y x : AV} (ho : H k = some (.cells ty ver cs)) (hk : k ≠ id) (hi : cs[i]? = some y) (hx : ∀ v, Den ρ W y v → Den (ρ.drop id) W x v) :
    HD (ρ.drop id) W ((H.set k (some (.cells ty ver (cs.set i x)))).set id none) := by
  have h0 := hd.drop id
  obtain ⟨e, b, h1, h2, h3⟩ := hd.obs k _ ho
  obtain ⟨rfl, arr, h4, h5, h6⟩ := h3
  refine ⟨fun j o hj => ?_, fun j hj => ?_, h0.live, h0.inj⟩
  · simp only [Hp.set] at hj
    by_cases e1 : j = id
    · rw [if_pos e1] at hj; cases hj
    · rw [if_neg e1] at hj
      by_cases e2 : j = k
      · subst e2
        rw [if_pos rfl] at hj; cases hj
        refine ⟨e, b, by simp only [Own.drop]; rw [if_neg e1]; exact h1, h2, rfl, arr, h4, by simpa using h5, DenL.of fun m z hz => ?_⟩
        rw [List.getElem?_set] at hz
        split at hz
        · rename_i e3
          subst e3
          split at hz
          · cases hz
            obtain ⟨v, hv, hd'⟩ := h6.at hi
            exact ⟨v, hv, hx v hd'⟩
          · cases hz
        · obtain ⟨v, hv, hd'⟩ := h6.at hz
          exact ⟨v, hv, Den.ext (Ext.drop hd id) hd.live _ _ hd'⟩
      · rw [if_neg e2] at hj
        exact h0.obs j o (by simp only [Hp.set]; rw [if_neg e1]; exact hj)
  · simp only [Hp.set] at hj
    by_cases e1 : j = id
    · subst e1; simp [Own.drop]
    · rw [if_neg e1] at hj
      by_cases e2 : j = k
      · rw [if_pos e2] at hj; cases hj
      · rw [if_neg e2] at hj
        exact h0.non j (by simp only [Hp.set]; rw [if_neg e1]; exact hj)
theorem Frz.cell {fr : Fr} {id k : Nat} {ty ty2 : TypeId} {ver i ver2 sz off len : Nat} {clip : Bool} {cs cs2 : List AV} (ho : H k = some (.cells ty ver cs)) (hk : k ≠ id) (hi : cs[i]? = some (.rs id ver2 sz off len clip)) (ho2 : H id = some (.cells ty2 ver2 cs2)) :
    Frz fr H fr ((H.set k (some (.cells ty ver (cs.set i (.sl false clip len ((cs2.drop off).take (len * sz))))))).set id none) := fun _ ρ _ _ hs hd =>
  ⟨ρ.drop id, Ext.drop hd id, hs.ext (Ext.drop hd id) hd.live, HD.cell (hd := hd) ho hk hi (fun _ hv => den_freeze hd hv ho2)⟩

theorem WpV.pre {r : Option Nat} {N : Nat} {c : Code} {Q : Exit → Fr → List Nat → Hp → Prop} {fr fr' : Fr} {D : List Nat} {H H' : Hp} (h : Frz fr H fr' H') (hm : Marks D H') (hw : WpV P r N c Q fr' D H') : WpV P r N c Q fr D H := by
  intro r ρ W a hr hs hf hd
  obtain ⟨ρ', q, hs', hd'⟩ := h N ρ W a hs hd
  exact WpV.after hw hr q hd.live hs' (Defs.of_marks q hd' hm hf) hd'
theorem WpV.post {r : Option Nat} {N : Nat} {c : Code} {Q : Exit → Fr → List Nat → Hp → Prop} {fr : Fr} {D : List Nat} {H : Hp} (hw : WpV P r N c (fun e fr' D' H' => ∃ fr'' H'', Frz fr' H' fr'' H'' ∧ Marks D' H'' ∧ Q e fr'' D' H'') fr D H) : WpV P r N c Q fr D H := by
  intro r ρ W a hr hs hf hd
  refine wpIn_mono (hw r ρ W a hr hs hf hd) ?_
  rintro e a' W' ⟨ρ', fr', D', H', q, hs', hf', hd', fr'', H'', hz, hm, hq⟩
  obtain ⟨ρ'', q', hs'', hd''⟩ := hz N ρ' W' a' hs' hd'
  exact ⟨ρ'', fr'', D', H'', q.trans hd.live q', hs'', Defs.of_marks q' hd'' hm hf', hd'', hq⟩
theorem WpOps.pre {r : Option Nat} {N : Nat} {ops : Array Oper} {l : List Oper} {Q : Fr → Hp → Prop} {fr fr' : Fr} {H H' : Hp} (h : Frz fr H fr' H') (hw : WpOps P r N ops l Q fr' H') : WpOps P r N ops l Q fr H := by
  intro r ρ W a hs hd
  obtain ⟨ρ', q, hs', hd'⟩ := h N ρ W a hs hd
  exact wpOps_step hw q hd.live hs' hd' rfl

/-- All that the one frame knows the other knows. -/
def Sub (fr1 fr2 : Fr) : Prop := ∀ t x, fr1.get t = some x → fr2.get t = some x
theorem Sub.nil (fr : Fr) : Sub [] fr := fun _ _ h => by cases h
theorem Sub.refl (fr : Fr) : Sub fr fr := fun _ _ h => h
theorem Sub.cons {fr1 fr2 : Fr} {t : Nat} {x y : AV} (h : fr2.get t = some y) (e : y = x) (hs : Sub fr1 fr2) : Sub ((t, x) :: fr1) fr2 := fun k z hz => by
  simp only [Fr.get] at hz
  split at hz
  · rename_i e'; subst e'; cases hz; rw [h, e]
  · exact hs k z hz

/-- A loop of n rounds at most, whose slots and objects are known after each. -/
theorem WpV.loopN {r : Option Nat} {N : Nat} {c : Code} {Q : Exit → Fr → List Nat → Hp → Prop} {fr : Fr} {D : List Nat} (n : Nat) (I : Nat → Fr) (J : Nat → Hp)
    (h0 : Sub (I 0) fr) (hH : J 0 = H)
    (round : ∀ k, k ≤ n → WpV P r N c (Vthen (fun fr' D' H' => D' = D ∧ k < n ∧ Sub (I (k + 1)) fr' ∧ J (k + 1) = H') Q) (I k) D (J k)) : WpV P r N (.loop c) Q fr D H :=
  WpV.loop (ι := { k : Nat // k ≤ n }) (fun k => I k.1) (fun k => J k.1) (fun k => n - k.1) ⟨0, Nat.zero_le _⟩ h0 hH fun k =>
    (round k.1 k.2).mono fun e fr' D' H' h => by
      cases e with
      | normal =>
        obtain ⟨e, hk, hs, hj⟩ := h
        exact ⟨e, ⟨k.1 + 1, hk⟩, by simp only; omega, hs, hj⟩
      | _ => exact h

theorem wrap64 {n : Int} (h : -9223372036854775808 ≤ n ∧ n < 9223372036854775808) : IntKind.i64.wrap n = n := by
  rw [IntKind.wrap_i64]; omega
theorem WpV.regionE {r : Option Nat} {N id : Nat} {l : List Oper} {Q : Exit → Fr → List Nat → Hp → Prop} {fr fr' : Fr} {D : List Nat} (h : evOps P H N l.toArray l fr = some fr') (hm : Marks D H) (hq : Q .normal fr' D H) : WpV P r N (.region id l.toArray false) Q fr D H :=
  WpV.region (by
    have := WpOps.evs (P := P) (r := r) (N := N) (ops := l.toArray) (H := H) (l2 := []) (Q := fun fr' H' => Marks D H' ∧ Q .normal fr' D H') (WpOps.nil ⟨hm, hq⟩) l fr h
    rwa [List.append_nil] at this)
theorem WpOps.take {r : Option Nat} {N : Nat} {ops : Array Oper} {Q : Fr → Hp → Prop} {fr fr' : Fr} {l : List Oper} (k : Nat) (h : evOps P H N ops (l.take k) fr = some fr') (h2 : WpOps P r N ops (l.drop k) Q fr' H) : WpOps P r N ops l Q fr H := by
  have := WpOps.evs (P := P) (r := r) (N := N) h2 (l.take k) fr h
  rwa [List.take_append_drop] at this
theorem LexD.take {N : Nat} {ops : Array Oper} {Q : Fr → Prop} {fr fr' : Fr} {l : List Oper} (k : Nat) (hc : ((l.take k).all Oper.calm) = true) (h : evOps P H N ops (l.take k) fr = some fr') (h2 : LexD P N ops H Q (l.drop k) fr') : LexD P N ops H Q l fr := by
  have := LexD.evs (P := P) (N := N) h2 (l.take k) fr hc h
  rwa [List.take_append_drop] at this

theorem take_map {α β : Type} (f : α → β) (xs : List α) : (xs.map f).take xs.length = xs.map f := List.take_of_length_le (by rw [List.length_map]; exact Nat.le_refl _)
theorem take_len {α : Type} (xs : List α) : xs.take xs.length = xs := List.take_of_length_le (Nat.le_refl _)
attribute [go_sem] evOps guardOf Fr.get Fr.put Fr.ev evP evBin evBin0 evShift evUn evConv evField evExtract evFieldAddr evIndexAddr evLoad loadC bnd evSlice evArr evLen evMaxF evCall evBuild evBuildSlice placesT mapEv mapParts fillA putC
  AV.ofV AV.leaf AV.leaves AV.cells AV.one turnOf paramsFr viewS loadA loadsA resA killA take_map take_len Hp.set_eq
  Option.bind_some Option.bind_none Option.map_some Option.map_none Option.isSome_some Option.isSome_none Option.getD_some Option.getD_none Option.all_some Option.all_none
  List.getElem?_toArray List.getElem?_cons_zero List.getElem?_cons_succ List.take List.drop List.length_cons List.length_nil List.replicate List.flatten List.append_eq List.cons_append List.nil_append List.append_nil List.all_cons List.all_nil
  Int.toNat_natCast Int.natCast_nonneg List.length_map List.length_append
end Go.Proofs.YtaekibilldjnmaaGreat
