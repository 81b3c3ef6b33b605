/-
  One operation: what the runner makes of it is what it does.
-/
import Derived.Test.YtfnkomoickanfaaGreatDoorE2E3
import Derived.Laws.Entries
import Derived.Laws.NewFold
import Derived.Laws.Cells
import Derived.Laws.Build
import Derived.Laws.Cover3
namespace Go.Proofs.YtfnkomoickanfaaGreatDoor.Ev
open Go.RowKit
set_option maxHeartbeats 8000000
theorem cond_some {α : Type} {b : Bool} {x : Option α} {y : α} (h : cond b x none = some y) : b = true ∧ x = some y := by
  cases b
  · cases h
  · exact ⟨rfl, h⟩
structure TmRel (ρ : Ren) (fr : Fr) (a : Act) : Prop where
  size : a.tmps.size = fr.nt
  val : ∀ t, VR ρ (fr.get t) (a.tmps.getD t undef)
  room : fr.nt < 1000000000
  dfs : DfR ρ fr.marks a.defers
theorem TmRel.mono {ρ σ : Ren} {fr : Fr} {a : Act} (h : TmRel ρ fr a) (hle : ρ.le σ) : TmRel σ fr a := ⟨h.size, fun t => (h.val t).mono hle, h.room, h.dfs.mono hle⟩
theorem vr_un {ρ : Ren} : VR ρ .un undef := .tuple .nil
theorem put_marks {fr fr' : Fr} {dst : Option Tmp} {v : LV} (h : fr.put dst v = some fr') : fr'.marks = fr.marks ∧ fr'.rnd = fr.rnd := by
  unfold Fr.put at h
  cases dst with
  | none => cases h; exact ⟨rfl, rfl⟩
  | some d => obtain ⟨_, h⟩ := cond_some h; cases h; exact ⟨rfl, rfl⟩
theorem put_nt {fr fr' : Fr} {dst : Option Tmp} {v : LV} (h : fr.put dst v = some fr') : fr'.nt = fr.nt := by
  unfold Fr.put at h
  cases dst with
  | none => cases h; rfl
  | some d => obtain ⟨_, h⟩ := cond_some h; cases h; rfl
theorem TmRel.put {ρ : Ren} {fr fr' : Fr} {a : Act} {dst : Option Tmp} {v : LV} {x : Value} (h : TmRel ρ fr a) (hp : fr.put dst v = some fr') (hv : VR ρ v x) : TmRel ρ fr' (a.put dst x) := by
  unfold Fr.put at hp
  cases dst with
  | none => cases hp; exact h
  | some d =>
    obtain ⟨hd, hp⟩ := cond_some hp
    cases hp
    have hd' : Nat.succ d ≤ fr.nt := Nat.le_of_ble_eq_true hd
    have hr := h.room
    refine ⟨by simp [Act.put, h.size], fun t => ?_, h.room, h.dfs⟩
    have hg : (Fr.mk (fr.tm.put 40 d (some v)) fr.nt fr.marks fr.rnd).get t = if t = d then v else fr.get t := by
      unfold Fr.get
      dsimp only
      rw [Tr.get_put 40 _ _ _ _ (by omega)]
      split <;> simp
    rw [hg]
    simp only [Act.put, Array.getD_eq_getD_getElem?]
    by_cases e : t = d
    · subst e
      rw [if_pos rfl, Array.getElem?_setIfInBounds_self_of_lt (by rw [h.size]; exact hd')]
      exact hv
    · rw [if_neg e, Array.getElem?_setIfInBounds_ne (by omega)]
      have := h.val t
      rwa [Array.getD_eq_getD_getElem?] at this
theorem eval_vr {ρ : Ren} {fr : Fr} {a : Act} (h : TmRel ρ fr a) {x : Operand} {v : LV} (he : fr.eval x = some v) : VR ρ v (a.eval x) := by
  cases x with
  | tmp t => simp only [Fr.eval, Option.some.injEq] at he; subst he; exact h.val t
  | const c => exact ofV_vr he
  | global g => cases he
  | func f => simp only [Fr.eval, Option.some.injEq] at he; subst he; exact .func .nil .nil
theorem evals_vrs {ρ : Ren} {fr : Fr} {a : Act} (h : TmRel ρ fr a) : ∀ {xs : List Operand} {vs : List LV}, fr.evals xs = some vs → VRs ρ vs (xs.map a.eval)
  | [], vs, he => by cases he; exact .nil
  | x :: xs, vs, he => by
    simp only [Fr.evals] at he
    split at he
    · rename_i v us h1 h2
      cases he
      exact .cons (eval_vr h h1) (evals_vrs h h2)
    · cases he
inductive PRs (ρ : Ren) : List (Nat × LV) → List (Nat × Value) → Prop where
  | nil : PRs ρ [] []
  | cons {i : Nat} {v : LV} {x : Value} {vs : List (Nat × LV)} {xs : List (Nat × Value)} : VR ρ v x → PRs ρ vs xs → PRs ρ ((i, v) :: vs) ((i, x) :: xs)
theorem parts_prs {ρ : Ren} {fr : Fr} {a : Act} (h : TmRel ρ fr a) : ∀ {xs : List (Nat × Operand)} {vs : List (Nat × LV)}, fr.parts xs = some vs → PRs ρ vs (xs.map fun p => (p.1, a.eval p.2))
  | [], vs, he => by cases he; exact .nil
  | (i, x) :: xs, vs, he => by
    simp only [Fr.parts] at he
    split at he
    · rename_i v us h1 h2
      cases he
      exact .cons (eval_vr h h1) (parts_prs h h2)
    · cases he
section
variable {P : Program}
theorem run_info {t : TypeId} {i : TypeInfo} (h : P.info? t = some i) (w : World) : (typeInfo t).run P w = .ok i w := by simp [typeInfo, h]
theorem run_size {t : TypeId} {k : Nat} (h : sizeAt P t = some k) (w : World) : (sizeOf t).run P w = .ok k w := by
  unfold sizeAt at h
  cases hi : P.info? t with
  | none => rw [hi] at h; cases h
  | some i => rw [hi] at h; cases h; simp [sizeOf, run_info hi]
theorem info_bytes {t : TypeId} {k : Nat} (h : bytesAt P t = some k) : ∃ i, P.info? t = some i ∧ i.bytes = k := by
  unfold bytesAt at h
  cases hi : P.info? t with
  | none => rw [hi] at h; cases h
  | some i => rw [hi] at h; cases h; exact ⟨i, rfl, rfl⟩
theorem run_agg {t : TypeId} {b : Bool} (h : isAggOf P t = some b) (w : World) : (isAgg t).run P w = .ok b w := by
  unfold isAggOf at h
  split at h <;> cases h <;> rename_i hu <;> simp [isAgg, run_underlying hu]
theorem run_zero {t : TypeId} {z : LV} (h : zeroAt P t = some z) : ∃ x, (∀ w, (zeroValue t).run P w = .ok x w) ∧ ∀ ρ, VR ρ z x := by
  unfold zeroAt at h
  split at h
  · rename_i i hi
    split at h
    · rename_i x hx
      exact ⟨x, fun w => by simp [zeroValue, run_info hi, hx], fun ρ => ofV_vr h⟩
    · cases h
  · cases h
theorem elem_und {t e : TypeId} (h : elemAt P t = some e) : P.underlying t = some (.slice e) := by
  unfold elemAt at h
  split at h
  · rename_i hu; cases h; exact hu
  · cases h
def ValR (P : Program) (G : Nat → Prop) (s s' : St) (ρ : Ren) (w : World) (v : LV) (sem : Sem Value) : Prop :=
  ∃ ρ' w' x, sem.run P w = .ok x w' ∧ Ext G s s' ρ ρ' w w' ∧ VR ρ' v x
theorem newPtr_eq {s s' : St} {b : Blk} {r : R} (h : s.newPtr b = some (r, s')) : ∃ n, s.new b = some (n, s') ∧ r = .val (.ptr n 0) := by
  unfold St.newPtr at h
  split at h
  · rename_i n s1 hn
    cases h
    exact ⟨n, hn, rfl⟩
  · cases h
theorem newVar_valR {G : Nat → Prop} {s s' : St} {ρ : Ren} {w : World} {elem : TypeId} {v : LV} {x : Value} {n : Nat} (hr : RepOn G ρ s.heap w) (hf : Fresh ρ s s') (hx : VR ρ v x) (hn : s.new ⟨v.cells, elem, none, none⟩ = some (n, s')) :
    ValR P G s s' ρ w (.ptr n 0) (do pure (.pointer (some (← newVar elem x)))) := by
  have hc := hx.cells
  have he := ext_new hn hr hf x.cells 0 (w' := w.alloc (.cells x.cells elem)) rfl rfl rfl rfl (by have := hc.length; simp at this; dsimp only; omega) (fun i v hv => by
    obtain ⟨y, hy, hvr⟩ := hc.get hv
    exact ⟨y, by simpa using hy, hvr⟩) (fun sz h => by cases h)
  refine ⟨_, _, _, ?_, he, .ptr (p := ⟨w.heap.size, 0, 0⟩) (by simp [Ren.upd])⟩
  simp [newVar, newRow]
theorem doAlloc_ok {G : Nat → Prop} {s s' : St} {ρ : Ren} {w : World} {elem : TypeId} {v : LV} (h : doAlloc P elem s = some (.val v, s')) (hr : RepOn G ρ s.heap w) (hf : Fresh ρ s s') :
    ValR P G s s' ρ w v (Instr.alloc elem true (.tuple #[])) := by
  unfold doAlloc at h
  split at h
  · rename_i z hz
    obtain ⟨n, hn, hv⟩ := newPtr_eq h
    cases hv
    obtain ⟨x, hx, hvx⟩ := run_zero hz
    obtain ⟨ρ', w', y, h1, h2, h3⟩ := newVar_valR (P := P) hr hf (hvx ρ) hn
    refine ⟨ρ', w', y, ?_, h2, h3⟩
    simp only [Instr.alloc, Sem.run_bind, hx, Result.andThen_ok]
    exact h1
  · cases h
theorem doBox_ok {G : Nat → Prop} {s s' : St} {ρ : Ren} {w : World} {elem : TypeId} {v u : LV} {x : Value} (h : doBox elem u s = some (.val v, s')) (hx : VR ρ u x) (hr : RepOn G ρ s.heap w) (hf : Fresh ρ s s') :
    ValR P G s s' ρ w v (Instr.box elem x) := by
  obtain ⟨n, hn, hv⟩ := newPtr_eq h
  cases hv
  exact newVar_valR hr hf hx hn
theorem readCells_eq {cs out : List LV} {off k : Nat} (h : readCells cs off k = some out) : off + k ≤ cs.length ∧ out = (cs.drop off).take k := by
  unfold readCells at h
  obtain ⟨h1, h2⟩ := cond_some h
  cases h2
  exact ⟨Nat.le_of_ble_eq_true h1, rfl⟩
theorem writeCells_eq {cs vs out : List LV} {off : Nat} (h : writeCells cs off vs = some out) : off + vs.length ≤ cs.length ∧ out = cs.take off ++ (vs ++ cs.drop (off + vs.length)) := by
  unfold writeCells at h
  obtain ⟨h1, h2⟩ := cond_some h
  cases h2
  exact ⟨Nat.le_of_ble_eq_true h1, rfl⟩
theorem writeCells_get {cs vs out : List LV} {off : Nat} (h : writeCells cs off vs = some out) (i : Nat) : out[i]? = if off ≤ i ∧ i < off + vs.length then vs[i - off]? else cs[i]? := by
  obtain ⟨h1, rfl⟩ := writeCells_eq h
  by_cases h2 : i < off
  · rw [if_neg (by omega), List.getElem?_append_left (by simp; omega)]
    simp [h2]
  · by_cases h3 : i < off + vs.length
    · rw [if_pos (by omega), List.getElem?_append_right (by simp; omega), List.getElem?_append_left (by simp; omega)]
      simp
      congr 1
      omega
    · rw [if_neg (by omega), List.getElem?_append_right (by simp; omega), List.getElem?_append_right (by simp; omega)]
      simp
      congr 1
      omega
theorem writeCells_len {cs vs out : List LV} {off : Nat} (h : writeCells cs off vs = some out) : out.length = cs.length := by
  obtain ⟨h1, rfl⟩ := writeCells_eq h
  simp
  omega
theorem load_cells {ρ : Ren} {w : World} {n : Nat} {b : Blk} {p : Pl} {cs : Array Value} (h : RepB ρ w n b p cs) {off k : Nat} {out : List LV} (hr : readCells b.cells off k = some out) :
    ∃ xs : List Value, (loadCells ⟨p.blk, p.base + off, none⟩ k).run P w = .ok xs.toArray w ∧ VRs ρ out xs ∧ xs.length = k := by
  obtain ⟨h1, rfl⟩ := readCells_eq hr
  have hf := h.fit
  refine ⟨(cs.toList.drop (p.base + off)).take k, ?_, ?_, by simp; omega⟩
  · have hl : ((cs.toList.drop (p.base + off)).take k).length = k := by simp; omega
    have := run_loadCells_list (P := P) w ⟨p.blk, p.base + off, none⟩ ((cs.toList.drop (p.base + off)).take k) (fun j v hj => by
      rw [Addr.add_lit]
      rw [List.getElem?_take] at hj
      split at hj
      · rw [List.getElem?_drop] at hj
        simp [World.cell?, h.heap]
        simpa using hj
      · cases hj)
    rwa [hl] at this
  · refine VRs.of_get (by simp; omega) fun i v x hv hx => ?_
    rw [List.getElem?_take] at hv hx
    split at hv
    · rw [List.getElem?_drop] at hv hx
      obtain ⟨y, hy, hvr⟩ := h.val _ v hv
      rename_i hik
      rw [if_pos hik] at hx
      have : cs.toList[p.base + off + i]? = some y := by simpa [Nat.add_assoc] using hy
      rw [this] at hx
      cases hx
      exact hvr
    · cases hv
theorem load_one {ρ : Ren} {w : World} {n : Nat} {b : Blk} {p : Pl} {cs : Array Value} (h : RepB ρ w n b p cs) {off : Nat} {v : LV} (hv : b.cells[off]? = some v) :
    ∃ x, (load ⟨p.blk, p.base + off, none⟩).run P w = .ok x w ∧ VR ρ v x := by
  obtain ⟨x, hx, hvr⟩ := h.val off v hv
  exact ⟨x, by simp [World.cell?, h.heap, hx], hvr⟩
theorem doLoad_ok {G : Nat → Prop} {s s' : St} {ρ : Ren} {w : World} {t : TypeId} {u : LV} {x : Value} {r : R} (h : doLoad P t u s = some (r, s')) (hx : VR ρ u x) (hw : WF s) (hG : Gok G s') (hr : RepOn G ρ s.heap w) :
    ∃ v, r = .val v ∧ Mono s s' ∧ ∃ y, (Instr.loadAt t x).run P w = .ok y w ∧ Ext G s s' ρ ρ w w ∧ VR ρ v y := by
  unfold doLoad at h
  cases hx with
  | ptr hp =>
    rename_i n off p
    dsimp only at h
    split at h
    · rename_i b s1 hl ha
      obtain ⟨hb, rfl, hlp⟩ := look_eq hl
      split at h
      · rename_i k hk
        split at h
        · rename_i cs hc
          cases h
          have hGn := gok_touch hw (by unfold Live; rw [hb]; simp) hG
          obtain ⟨q, ds, hrep⟩ := (hr.rep n b hGn hb).cells hlp
          have := hrep.at_; rw [hp] at this; cases this
          obtain ⟨xs, h1, h2, _⟩ := load_cells (P := P) hrep hc
          refine ⟨_, rfl, mono_touch s n, .agg xs.toArray, ?_, ext_touch n hr, .agg h2⟩
          simp [Instr.loadAt, Instr.sureAddr, loadVar, run_agg ha, run_size hk, h1]
        · cases h
      · cases h
    · rename_i b s1 hl ha
      obtain ⟨hb, rfl, hlp⟩ := look_eq hl
      split at h
      · rename_i v hv
        cases h
        have hGn := gok_touch hw (by unfold Live; rw [hb]; simp) hG
        obtain ⟨q, ds, hrep⟩ := (hr.rep n b hGn hb).cells hlp
        have := hrep.at_; rw [hp] at this; cases this
        obtain ⟨y, h1, h2⟩ := load_one (P := P) hrep hv
        refine ⟨_, rfl, mono_touch s n, y, ?_, ext_touch n hr, h2⟩
        simp only [Instr.loadAt, Instr.sureAddr, loadVar, Sem.run_bind, Sem.run_pure, Result.andThen_ok, run_agg ha, Bool.false_eq_true, if_false, Sem.run_ite]
        exact h1
      · cases h
    · cases h
  | _ => cases h
theorem store_cells {G : Nat → Prop} {s s' : St} {ρ : Ren} {w : World} {n off : Nat} {vs : List LV} {xs : List Value} {p : Pl} (h : storeAt' n off vs s = some s') (hp : ρ n = some p) (hx : VRs ρ vs xs) (hw : WF s) (hG : Gok G s') (hr : RepOn G ρ s.heap w) :
    Mono s s' ∧ ∃ w', (storeCells ⟨p.blk, p.base + off, none⟩ xs).run P w = .ok () w' ∧ Ext G s s' ρ ρ w w' := by
  unfold storeAt' at h
  split at h
  · rename_i b hbc
    obtain ⟨hb, hlp⟩ := getC_eq hbc
    obtain ⟨h1, h⟩ := cond_some h
    split at h
    · rename_i cs hc
      cases h
      have hl : Live s.heap n := by unfold Live; rw [hb]; simp
      have hlt := live_lt hw hl
      have h9 : n < 1000000000 := Nat.lt_of_lt_of_le hlt hw.lt
      have hGn := gok_set hw hl hG
      obtain ⟨q, ds, hrep⟩ := (hr.rep n b hGn hb).cells hlp
      have := hrep.at_; rw [hp] at this; cases this
      have hlen := hx.length
      obtain ⟨hfit, _⟩ := writeCells_eq hc
      have hf := hrep.fit
      have hone : ∀ x ∈ xs, Value.oneCell' x = true := by
        intro x hxm
        obtain ⟨i, hi⟩ := List.mem_iff_getElem?.1 hxm
        have hil : i < xs.length := (List.getElem?_eq_some_iff.1 hi).1
        have hv : vs[i]? = some (vs[i]'(by omega)) := List.getElem?_eq_getElem _
        obtain ⟨y, hy, hvr⟩ := hx.get hv
        rw [hi] at hy
        cases hy
        have h2 := List.all_eq_true.1 h1 _ (List.getElem_mem (show i < vs.length by omega))
        have h3 := hvr.one
        rw [h2] at h3
        cases x <;> first | rfl | cases h3
      have hst := run_storeCells_at P p.blk (p.base + off) b.elem xs 0 ds w hrep.heap (by omega) hone
      refine ⟨mono_set _ h9 hl hlt, _, hst, ?_⟩
      have hh := setRow_heap w p.blk ds (ds.toList.take (p.base + off + 0) ++ xs ++ ds.toList.drop (p.base + off + 0 + xs.length)).toArray b.elem (0, 0) hrep.heap
      refine ext_set (p := p) (cs := (ds.toList.take (p.base + off + 0) ++ xs ++ ds.toList.drop (p.base + off + 0 + xs.length)).toArray) h9 hlt hl hGn hr ⟨hp, hh, ?_, ?_, ?_⟩ ?_ ?_ rfl rfl rfl
      · intro i v hi
        dsimp only at hi
        rw [writeCells_get hc] at hi
        split at hi
        · rename_i hio
          obtain ⟨y, hy, hvr⟩ := hx.get hi
          refine ⟨y, ?_, hvr⟩
          rw [List.getElem?_toArray, List.append_assoc, List.getElem?_append_right (by simp; omega), List.getElem?_append_left (by simp; omega)]
          rw [← hy]
          congr 1
          simp
          omega
        · rename_i hio
          obtain ⟨y, hy, hvr⟩ := hrep.val i v hi
          have hil : i < b.cells.length := (List.getElem?_eq_some_iff.1 hi).1
          refine ⟨y, ?_, hvr⟩
          have hy' : ds.toList[p.base + i]? = some y := by simpa using hy
          rw [List.getElem?_toArray, List.append_assoc]
          by_cases h5 : i < off
          · rw [List.getElem?_append_left (by simp; omega), List.getElem?_take, if_pos (by omega)]
            exact hy'
          · rw [List.getElem?_append_right (by simp; omega), List.getElem?_append_right (by simp; omega), List.getElem?_drop, ← hy']
            congr 1
            simp
            omega
      · dsimp only
        rw [writeCells_len hc]
        simp
        omega
      · intro sz hz
        have := hrep.more sz hz
        rw [← this]
        simp
        omega
      · intro k hk
        simp only [World.setRow, Array.getElem?_modify]
        rw [if_neg (by omega)]
      · simp [World.setRow]
    · cases h
  · cases h
theorem doStore_ok {G : Nat → Prop} {s s' : St} {ρ : Ren} {w : World} {t : TypeId} {u v : LV} {x y : Value} {r : R} (h : doStore P t u v s = some (r, s')) (hx : VR ρ u x) (hy : VR ρ v y) (hw : WF s) (hG : Gok G s') (hr : RepOn G ρ s.heap w) :
    r = .skip ∧ Mono s s' ∧ ∃ w', (Instr.storeAt t x y).run P w = .ok () w' ∧ Ext G s s' ρ ρ w w' := by
  unfold doStore at h
  cases hx with
  | ptr hp =>
    rename_i n off p
    split at h
    · rename_i k e1 hk
      cases e1
      obtain ⟨h1, h⟩ := cond_some h
      split at h
      · rename_i s1 hs
        cases h
        have hc := hy.cells
        obtain ⟨hm, w', h2, h3⟩ := store_cells (P := P) hs hp hc hw hG hr
        refine ⟨rfl, hm, w', ?_, h3⟩
        have hlen : y.cells.size = k := by
          have e1 := hc.length
          have e2 := Nat.eq_of_beq_eq_true h1
          simp at e1
          omega
        simp [Instr.storeAt, Instr.sureAddr, storeVar, run_size hk, hlen, h2]
      · cases h
    · cases h
  | _ => split at h <;> first | cases h | contradiction
end
section
variable {P : Program} {ρ : Ren} {w : World}
theorem fillL_ok (place : Nat → Option (Nat × Nat)) : ∀ {parts : List (Nat × LV)} {xs : List (Nat × Value)} {cells out : List LV} {cs : Array Value}, PRs ρ parts xs → VRs ρ cells cs.toList → fillL place cells parts = some out → ∃ ds : Array Value, Instr.fill place cs xs = some ds ∧ VRs ρ out ds.toList
  | _, _, cells, out, cs, .nil, hc, h => by cases h; exact ⟨cs, rfl, hc⟩
  | _, _, cells, out, cs, .cons (i := i) (v := v) (x := x) (vs := vs) (xs := xs) hv hvs, hc, h => by
    simp only [fillL] at h
    split at h
    · cases h
    · rename_i off size hp
      obtain ⟨h1, h⟩ := cond_some h
      split at h
      · rename_i cs1 hw
        have hx := hv.cells
        have hxl := hx.length
        have hcl := hc.length
        have hsz := Nat.eq_of_beq_eq_true h1
        obtain ⟨hfit, _⟩ := writeCells_eq hw
        have hfold : ∃ ds : Array Value, (x.cells.zipIdx.foldl (fun cs (c, j) => cs.setIfInBounds (off + j) c) cs) = ds ∧ ds.size = cs.size ∧ ∀ j, ds[j]? = if off ≤ j ∧ j < off + x.cells.size then x.cells[j - off]? else cs[j]? := by
          refine ⟨_, rfl, ?_⟩
          have gen : ∀ (l : List Value) (k : Nat) (ds : Array Value), k + l.length + off ≤ ds.size → ((l.zipIdx k).foldl (fun cs (c, j) => cs.setIfInBounds (off + j) c) ds).size = ds.size ∧ ∀ j, ((l.zipIdx k).foldl (fun cs (c, j) => cs.setIfInBounds (off + j) c) ds)[j]? = if off + k ≤ j ∧ j < off + k + l.length then l[j - off - k]? else ds[j]? := by
            intro l
            induction l with
            | nil => intro k ds _; simp; intro j h1 h2; omega
            | cons c l ih =>
              intro k ds hk
              simp only [List.length_cons] at hk
              simp only [List.zipIdx_cons, List.foldl_cons]
              obtain ⟨e1, e2⟩ := ih (k + 1) (ds.setIfInBounds (off + k) c) (by simp; omega)
              refine ⟨by rw [e1]; simp, fun j => ?_⟩
              rw [e2]
              by_cases hj : j = off + k
              · subst hj
                rw [if_neg (by omega), if_pos (by simp)]
                rw [Array.getElem?_setIfInBounds_self_of_lt (by omega)]
                simp
              · by_cases hj2 : off + (k + 1) ≤ j ∧ j < off + (k + 1) + l.length
                · rw [if_pos hj2, if_pos (by simp; omega)]
                  have : j - off - k = (j - off - (k + 1)) + 1 := by omega
                  rw [this]
                  simp
                · rw [if_neg hj2, if_neg (by simp; omega), Array.getElem?_setIfInBounds_ne (by omega)]
          have := gen x.cells.toList 0 cs (by simp at hxl hcl ⊢; omega)
          have e : x.cells.zipIdx = (x.cells.toList.zipIdx 0).toArray := by apply Array.ext' ; simp [Array.toList_zipIdx]
          rw [e, List.foldl_toArray']
          · refine ⟨this.1, fun j => ?_⟩
            rw [this.2 j]
            simp
          · simp
        obtain ⟨ds, hds, hdsz, hdget⟩ := hfold
        have hcs1 : VRs ρ cs1 ds.toList := by
          refine VRs.of_get (by rw [writeCells_len hw]; simp at hcl ⊢; omega) fun j u y hu hy => ?_
          rw [writeCells_get hw] at hu
          have hy' : ds[j]? = some y := by simpa using hy
          rw [hdget] at hy'
          simp at hxl
          by_cases hj : off ≤ j ∧ j < off + v.cells.length
          · rw [if_pos hj] at hu
            rw [if_pos (by omega)] at hy'
            obtain ⟨z, hz, hvr⟩ := hx.get hu
            have : x.cells[j - off]? = some z := by simpa using hz
            rw [this] at hy'
            cases hy'
            exact hvr
          · rw [if_neg hj] at hu
            rw [if_neg (by omega)] at hy'
            obtain ⟨z, hz, hvr⟩ := hc.get hu
            have : cs[j]? = some z := by simpa using hz
            rw [this] at hy'
            cases hy'
            exact hvr
        obtain ⟨es, he, hvr⟩ := fillL_ok place hvs hcs1 h
        refine ⟨es, ?_, hvr⟩
        simp only [Instr.fill, hp]
        rw [if_neg (by simp at hxl hcl ⊢; omega), hds]
        exact he
      · cases h
theorem placesOf_ok : ∀ {fs : List Field} {pl : List (Nat × Nat)}, placesOf P fs = some pl → ((fs.mapM fun f => Prod.mk f.offset <$> sizeOf f.type) : Sem (List (Nat × Nat))).run P w = .ok pl w
  | [], pl, h => by cases h; simp
  | f :: fs, pl, h => by
    simp only [placesOf] at h
    split at h
    · rename_i k r hk hr
      cases h
      simp [List.mapM_cons, run_size hk, placesOf_ok hr]
    · cases h
theorem doBuild_ok {s s' : St} {t : TypeId} {ps : List (Nat × LV)} {xs : Array (Nat × Value)} {r : R} (h : doBuild P t ps s = some (r, s')) (hp : PRs ρ ps xs.toList) :
    s' = s ∧ ∃ v, r = .val v ∧ ∃ x, (Instr.build t xs).run P w = .ok x w ∧ VR ρ v x := by
  unfold doBuild at h
  split at h
  · rename_i z fields hz hu
    split at h
    · rename_i pl hpl
      split at h
      · rename_i cs hf
        cases h
        obtain ⟨zx, hzx, hzv⟩ := run_zero hz
        obtain ⟨ds, hd, hvr⟩ := fillL_ok (fun i => pl[i]?) hp (hzv ρ).cells hf
        refine ⟨rfl, _, rfl, .agg ds, ?_, by have := VR.agg hvr; simpa using this⟩
        have hmap : ((fields.mapM fun f => do pure (f.offset, ← sizeOf f.type)) : Sem (Array (Nat × Nat))).run P w = .ok pl.toArray w := by
          rw [Array.mapM_eq_mapM_toList]
          simp [placesOf_ok hpl]
        simp only [Instr.build, Sem.run_bind, hzx, Result.andThen_ok, run_underlying hu, hmap]
        have hd' : Instr.fill (fun i => pl.toArray[i]?) zx.cells xs.toList = some ds := by
          rw [← hd]
          congr 1
          funext i
          simp
        rw [hd']
        simp
      · cases h
    · cases h
  · cases h
end
section
variable {P : Program} {ρ : Ren} {w : World}
theorem repL_len (zs : List LV) : ∀ n, (repL zs n).length = n * zs.length
  | 0 => by simp [repL]
  | n + 1 => by simp [repL, repL_len zs n, Nat.add_mul]; omega
theorem repL_get (zs : List LV) (hz : 0 < zs.length) : ∀ n i, i < n * zs.length → (repL zs n)[i]? = zs[i % zs.length]?
  | 0, i, h => by simp at h
  | n + 1, i, h => by
    simp only [repL]
    by_cases hi : i < zs.length
    · rw [List.getElem?_append_left hi, Nat.mod_eq_of_lt hi]
    · rw [List.getElem?_append_right (by omega), repL_get zs hz n _ (by rw [Nat.add_mul] at h; omega), ← Nat.mod_eq_sub_mod (by omega)]
theorem zeros_vrs {z : LV} {x : Value} {size n : Nat} (hv : VR ρ z x) (hs : z.cells.length = size) (h0 : 0 < size) :
    VRs ρ (repL z.cells n) (((Array.range (n * size)).map (x.cells[· % x.cells.size]!)).toList) := by
  have hc := hv.cells
  have hl := hc.length
  simp at hl
  refine VRs.of_get (by simp [repL_len]; rw [hs]) fun i v y hi hy => ?_
  have hlt : i < n * z.cells.length := by
    have := (List.getElem?_eq_some_iff.1 hi).1
    rwa [repL_len] at this
  rw [repL_get _ (by omega) _ _ hlt] at hi
  obtain ⟨u, hu, hvr⟩ := hc.get hi
  have hlt2 : i < n * size := by rwa [hs] at hlt
  have hm : i % z.cells.length < x.cells.size := by rw [hl]; exact Nat.mod_lt _ (by omega)
  simp [hlt2] at hy
  have hu2 : x.cells[i % z.cells.length]? = some u := by simpa using hu
  rw [← hl] at hu2 hm
  rw [Array.getElem?_eq_getElem hm] at hu2
  cases hu2
  rw [getElem!_pos x.cells _ hm] at hy
  rw [← hy]
  exact hvr
theorem doBuildSlice_ok {G : Nat → Prop} {s s' : St} {t : TypeId} {len : Nat} {ps : List (Nat × LV)} {xs : Array (Nat × Value)} {r : R} (h : doBuildSlice P t len ps s = some (r, s')) (hp : PRs ρ ps xs.toList) (hr : RepOn G ρ s.heap w) (hf : Fresh ρ s s') :
    Mono s s' ∧ ∃ v, r = .val v ∧ ValR P G s s' ρ w v (Instr.buildSlice t len xs) := by
  unfold doBuildSlice at h
  split at h
  · rename_i elem he
    split at h
    · rename_i size z hsz hz
      obtain ⟨h1, h⟩ := cond_some h
      simp only [Bool.and_eq_true] at h1
      obtain ⟨⟨h1, h2⟩, h3⟩ := h1
      have h1 := Nat.le_of_ble_eq_true h1
      have h2 := Nat.eq_of_beq_eq_true h2
      have h3 : 0 < size := Nat.le_of_ble_eq_true h3
      split at h
      · rename_i cs hc
        split at h
        · rename_i n s1 hn
          cases h
          obtain ⟨zx, hzx, hzv⟩ := run_zero hz
          have hzc := (hzv ρ).cells
          obtain ⟨ds, hd, hvr⟩ := fillL_ok (fun i => some (i * size, size)) hp (zeros_vrs (n := len) (hzv ρ) h2 h3) hc
          have hl := hvr.length
          have e := ext_new hn hr hf ds 0 (w' := w.alloc (.cells ds elem)) rfl rfl rfl rfl (by simp at hl; dsimp only; omega) (fun i v hv => by
            obtain ⟨y, hy, hq⟩ := hvr.get hv
            exact ⟨y, by simpa using hy, hq⟩) (fun sz h => by cases h)
          refine ⟨mono_new hn, _, rfl, _, _, .slice (some ⟨w.heap.size, 0, none⟩) len len, ?_, e, ?_⟩
          · simp only [Instr.buildSlice, Sem.run_bind, run_underlying (elem_und he), Result.andThen_ok, run_size hsz, Sem.run_ite]
            rw [if_neg (by omega)]
            by_cases h0 : len * size = 0
            · have hl0 : len = 0 := by
                rcases Nat.mul_eq_zero.1 h0 with h | h
                · exact h
                · omega
              subst hl0
              have r0 : ∀ f : Nat → Value, (Array.range 0).map f = #[] := fun _ => by rw [Array.range_zero']; simp
              rw [Nat.zero_mul, r0] at hd
              simp [r0, hd, newRow]
            · rw [if_neg h0]
              simp only [Sem.run_bind, hzx, Result.andThen_ok, Sem.run_pure, hd]
              simp [newRow]
          · have := VR.known (ρ := ρ.upd n ⟨w.heap.size, 0, 0⟩) (n := n) (off := 0) (len := len) (c := len) (p := ⟨w.heap.size, 0, 0⟩) (by simp [Ren.upd])
            simpa using this
        · cases h
      · cases h
    · cases h
  · cases h
theorem wrap_small {c : Int} (h0 : 0 ≤ c) (h1 : c ≤ 1000000) : IntKind.i64.wrap c = c := by
  unfold IntKind.wrap
  have : IntKind.i64.bits = 64 := rfl
  simp only [this, IntKind.signed]
  have e : c % (2 ^ 64 : Int) = c := Int.emod_eq_of_lt h0 (by omega)
  rw [e]
  simp
  omega
theorem doMakeSlice_ok {G : Nat → Prop} {s s' : St} {t : TypeId} {u v : LV} {x y : Value} {r : R} (h : doMakeSlice P t u v s = some (r, s')) (hx : VR ρ u x) (hy : VR ρ v y) (hr : RepOn G ρ s.heap w) (hf : Fresh ρ s s') :
    Mono s s' ∧ ∃ z, r = .val z ∧ ValR P G s s' ρ w z (Instr.makeSlice t x y) := by
  unfold doMakeSlice at h
  split at h
  · rename_i elem kl l kc c he
    cases hx
    cases hy
    split at h
    · rename_i size bytes z hsz hby hz
      obtain ⟨h1, h⟩ := cond_some h
      simp only [Bool.and_eq_true, decide_eq_true_eq] at h1
      obtain ⟨⟨⟨⟨⟨h1, h2⟩, h3⟩, h4⟩, h5⟩, h6⟩ := h1
      have h4 := Nat.le_of_ble_eq_true h4
      have h5 := Nat.eq_of_beq_eq_true h5
      have h6 : 0 < size := Nat.le_of_ble_eq_true h6
      split at h
      · rename_i n s1 hn
        cases h
        obtain ⟨zx, hzx, hzv⟩ := run_zero hz
        obtain ⟨i, hi, hib⟩ := info_bytes hby
        have hvr := zeros_vrs (n := c.toNat) (hzv ρ) h5 h6
        have hl := hvr.length
        have e := ext_new hn hr hf ((Array.range (c.toNat * size)).map (zx.cells[· % zx.cells.size]!)) 0 (w' := w.alloc (.cells ((Array.range (c.toNat * size)).map (zx.cells[· % zx.cells.size]!)) elem)) rfl rfl rfl rfl (by simp at hl; simp; omega) (fun i v hv => by
          obtain ⟨y, hy, hq⟩ := hvr.get hv
          exact ⟨y, by rw [← Array.getElem?_toList]; exact hy, hq⟩) (fun sz h => by cases h)
        refine ⟨mono_new hn, _, rfl, _, _, .slice (some ⟨w.heap.size, 0, none⟩) l.toNat c.toNat, ?_, e, ?_⟩
        · have hl' : IntKind.i64.wrap l = l := wrap_small h1 (by omega)
          have hc' : IntKind.i64.wrap c = c := wrap_small (by omega) h3
          have hb : ¬ (2 ^ 48 : Int) < (bytes : Int) * c := by
            have : (bytes : Int) * c ≤ 1000 * 1000000 := Int.mul_le_mul (by omega) h3 (by omega) (by omega)
            omega
          have hbl : ¬ c.toNat * bytes > roomBytes := by
            have : c.toNat * bytes ≤ 1000000 * 1000 := Nat.mul_le_mul (by omega) h4
            simp only [roomBytes]
            omega
          have hcl : ¬ c < 0 := by omega
          have hll : ¬ l < 0 := by omega
          have hlc : ¬ c < l := by omega
          simp only [Instr.makeSlice, Sem.run_bind, run_underlying (elem_und he), Result.andThen_ok, asInt, asIntOf, Sem.run_pure, run_info hi, hib, hl', hc', gt_iff_lt, decide_eq_false hb, decide_eq_false hcl, decide_eq_false hll, decide_eq_false hlc, Bool.or_false, Bool.false_eq_true, if_false, Sem.run_ite, askRoom]
          rw [if_neg hbl]
          simp only [Result.andThen_ok, run_size hsz]
          by_cases h0 : c.toNat * size = 0
          · rw [if_pos h0]
            have r0 : ∀ f : Nat → Value, (Array.range 0).map f = #[] := fun _ => by rw [Array.range_zero']; simp
            simp [newRow, h0, r0]
          · rw [if_neg h0]
            simp only [hzx, Result.andThen_ok]
            simp [newRow]
        · have := VR.known (ρ := ρ.upd n ⟨w.heap.size, 0, 0⟩) (n := n) (off := 0) (len := l.toNat) (c := c.toNat) (p := ⟨w.heap.size, 0, 0⟩) (by simp [Ren.upd])
          simpa using this
      · cases h
    · cases h
  · cases h
def PureR (P : Program) (ρ : Ren) (w : World) (v : LV) (sem : Sem Value) : Prop := ∃ x, sem.run P w = .ok x w ∧ VR ρ v x
theorem doUn_ok {op : UnOp} {u v : LV} {x : Value} (h : doUn op u = some v) (hx : VR ρ u x) : PureR P ρ w v (Op.unary op x) := by
  unfold doUn at h
  split at h <;> cases h <;> cases hx
  · exact ⟨_, rfl, .int _ _⟩
  · exact ⟨_, rfl, .int _ _⟩
  · exact ⟨_, rfl, .bool _⟩
theorem doConvert_ok {src dst : TypeId} {u v : LV} {x : Value} (h : doConvert P src dst u = some v) (hx : VR ρ u x) : PureR P ρ w v (convert src dst x) := by
  unfold doConvert at h
  split at h
  · rename_i d k q n hs hd
    cases h; cases hx
    refine ⟨_, ?_, .int _ _⟩
    simp only [convert, Sem.run_bind, run_underlying hs, run_underlying hd, Result.andThen_ok]
    cases d <;> rfl
  · rename_i d b hs hd
    cases h; cases hx
    refine ⟨_, ?_, .str _⟩
    simp only [convert, Sem.run_bind, run_underlying hs, run_underlying hd, Result.andThen_ok]
    cases d <;> rfl
  · cases h
theorem doMakeIface_ok {t : TypeId} {u v : LV} {x : Value} (h : doMakeIface P t u = some v) (hx : VR ρ u x) : PureR P ρ w v (Instr.makeInterface t x) := by
  unfold doMakeIface at h
  split at h
  · cases h
  · rename_i d hd hu
    cases h
    refine ⟨_, ?_, .iface hx⟩
    simp only [Instr.makeInterface, Sem.run_bind, run_underlying hu, Result.andThen_ok]
    rfl
  · cases h
theorem doFieldAddr_ok {t : TypeId} {f : Nat} {u v : LV} {x : Value} (h : doFieldAddr P t u f = some v) (hx : VR ρ u x) : PureR P ρ w v (Instr.fieldAt t x f) := by
  unfold doFieldAddr at h
  split at h
  · rename_i fields n off hu
    split at h
    · rename_i fd hfd
      split at h
      · rename_i k hk
        cases hx
        rename_i p hp
        cases hb : k.beq 0 with
        | true => rw [hb] at h; cases h
        | false =>
          rw [hb] at h
          cases h
          have hk0 : k ≠ 0 := fun e => by subst e; cases hb
          have hfd' : fields[f]? = some fd := by simpa using hfd
          refine ⟨.pointer (some ⟨p.blk, p.base + (off + fd.offset), none⟩), ?_, .ptr hp⟩
          simp [Instr.fieldAt, run_underlying hu, hfd', Instr.sureAddr, fieldPlace, run_size hk, hk0, Addr.add_lit, Nat.add_assoc]
      · cases h
    · cases h
  · cases h
theorem partL_ok {t : TypeId} {cs : List LV} {off : Nat} {v : LV} {xs : List Value} (h : partL P t cs off = some v) (hx : VRs ρ cs xs) : PureR P ρ w v (part t xs.toArray off) := by
  unfold partL at h
  split at h
  · rename_i ha
    split at h
    · rename_i k hk
      cases hr : readCells cs off k with
      | none => rw [hr] at h; cases h
      | some out =>
        rw [hr] at h
        cases h
        obtain ⟨h1, rfl⟩ := readCells_eq hr
        refine ⟨.agg ((xs.drop off).take k).toArray, ?_, .agg ((hx.drop off).take k)⟩
        simp [part, run_agg ha, run_size hk]
    · cases h
  · rename_i ha
    obtain ⟨y, hy, hvr⟩ := hx.get h
    refine ⟨y, ?_, hvr⟩
    simp [part, run_agg ha, hy]
  · cases h
theorem doField_ok {t : TypeId} {f : Nat} {u v : LV} {x : Value} (h : doField P t u f = some v) (hx : VR ρ u x) : PureR P ρ w v (Instr.field t x f) := by
  unfold doField at h
  split at h
  · rename_i fields cs hu
    split at h
    · rename_i fd hfd
      cases hx
      rename_i xs hxs
      obtain ⟨y, h1, h2⟩ := partL_ok (P := P) (w := w) h hxs
      have hfd' : fields[f]? = some fd := by simpa using hfd
      refine ⟨y, ?_, h2⟩
      simp [Instr.field, run_underlying hu, hfd', asAgg, h1]
    · cases h
  · cases h
theorem doIndexAddr_ok {t : TypeId} {u i v : LV} {x y : Value} (h : doIndexAddr P t u i = some v) (hx : VR ρ u x) (hy : VR ρ i y) : PureR P ρ w v (Instr.indexAt t x y) := by
  unfold doIndexAddr at h
  split at h
  · rename_i elem n off len c k i hu
    split at h
    · rename_i size hsz
      obtain ⟨h1, h⟩ := cond_some h
      simp only [Bool.and_eq_true, decide_eq_true_eq] at h1
      have h2 : i.toNat < len := Nat.le_of_ble_eq_true h1.2
      have h3 : i < (len : Int) := by omega
      cases h; cases hy
      cases hx <;>
      · rename_i p hp
        refine ⟨.pointer (some ⟨p.blk, p.base + (off + i.toNat * size), none⟩), ?_, .ptr hp⟩
        simp [Instr.indexAt, asIntOf, run_underlying hu, h1.1, h3, run_size hsz, Addr.add_lit, Nat.add_assoc]
    · cases h
  · rename_i len elem n off k i hu
    split at h
    · rename_i size hsz
      obtain ⟨h1, h⟩ := cond_some h
      simp only [Bool.and_eq_true, decide_eq_true_eq] at h1
      have h2 : i.toNat < len := Nat.le_of_ble_eq_true h1.2
      have h3 : i < (len : Int) := by omega
      cases h; cases hy
      cases hx
      rename_i p hp
      refine ⟨.pointer (some ⟨p.blk, p.base + (off + i.toNat * size), none⟩), ?_, .ptr hp⟩
      simp [Instr.indexAt, Instr.sureAddr, asIntOf, run_underlying hu, h1.1, h3, run_size hsz, Addr.add_lit, Nat.add_assoc]
    · cases h
  · cases h
theorem doIndex_ok {t : TypeId} {u i v : LV} {x y : Value} (h : doIndex P t u i = some v) (hx : VR ρ u x) (hy : VR ρ i y) : PureR P ρ w v (Instr.index t x y) := by
  unfold doIndex at h
  split at h
  · rename_i len elem cs k i hu
    split at h
    · rename_i size hsz
      obtain ⟨h1, h⟩ := cond_some h
      simp only [Bool.and_eq_true, decide_eq_true_eq] at h1
      have h2 : i.toNat < len := Nat.le_of_ble_eq_true h1.2
      have h3 : i < (len : Int) := by omega
      cases hy
      cases hx
      rename_i xs hxs
      obtain ⟨y, h4, h5⟩ := partL_ok (P := P) (w := w) h hxs
      refine ⟨y, ?_, h5⟩
      simp [Instr.index, asIntOf, run_underlying hu, h1.1, h3, run_size hsz, h4]
    · cases h
  · rename_i b k i hu
    obtain ⟨h1, h⟩ := cond_some h
    simp only [decide_eq_true_eq] at h1
    split at h
    · rename_i c hc
      cases h; cases hy; cases hx
      refine ⟨_, ?_, .int _ _⟩
      have hc' : b[i.toNat]? = some c := by
        have hlt : i.toNat < b.size := by
          have := (List.getElem?_eq_some_iff.1 hc).1
          rwa [Array.length_toList] at this
        rw [getElem?_pos b i.toNat hlt]
        have h2 := (List.getElem?_eq_some_iff.1 hc).2
        rw [← h2]
        rfl
      simp [Instr.index, asIntOf, run_underlying hu, h1, hc']
    · cases h
  · cases h
theorem doAssert_ok {t xT : TypeId} {u v : LV} {ok : Bool} {x : Value} (h : doAssert P u t ok = some v) (hx : VR ρ u x) : PureR P ρ w v (Instr.typeAssert x xT t ok) := by
  unfold doAssert at h
  split at h
  · cases h
  · rename_i d tt vv hd hu
    obtain ⟨h1, h⟩ := cond_some h
    have h1 := Nat.eq_of_beq_eq_true h1
    cases h
    cases hx
    rename_i y hy
    subst h1
    cases ok with
    | true =>
      refine ⟨.tuple #[y, .bool true], ?_, .tuple (.cons hy (.cons (.bool _) .nil))⟩
      simp only [Instr.typeAssert, Sem.run_bind, run_underlying hu, Result.andThen_ok]
      cases d <;> first | (exfalso; exact hd _ rfl) | (simp only [if_true]; rfl) | (simp; done)
    | false =>
      refine ⟨y, ?_, hy⟩
      simp only [Instr.typeAssert, Sem.run_bind, run_underlying hu, Result.andThen_ok]
      cases d <;> first | (exfalso; exact hd _ rfl) | (simp only [if_true]; rfl) | (simp; done)
  · cases h
theorem doExtract_ok {u v : LV} {i : Nat} {x : Value} (h : doExtract u i = some v) (hx : VR ρ u x) : PureR P ρ w v (Instr.extract x i) := by
  unfold doExtract at h
  split at h
  · cases hx
    rename_i xs hxs
    obtain ⟨y, hy, hvr⟩ := hxs.get h
    refine ⟨y, ?_, hvr⟩
    simp [Instr.extract, hy]
  · cases h
theorem doNilCheck_ok {s s' : St} {o : Oper} {a : Act} {q : Operand} {u : LV} {r : R} (ho : o.op = .nilCheck q) (h : doNilCheck u s = some (r, s')) (hx : VR ρ u (a.eval q)) : s' = s ∧ ∃ v, r = .val v ∧ ∃ y, (execOp a.eval o).run P w = .ok (.value y) w ∧ VR ρ v y := by
  have e : execOp a.eval o = execOp a.eval { o with op := .nilCheck q } := by cases o; dsimp only at ho; subst ho; rfl
  rw [e]
  unfold doNilCheck at h
  simp only [execOp]
  generalize a.eval q = x at hx ⊢
  split at h
  · cases h; cases hx; exact ⟨rfl, _, rfl, _, rfl, by constructor; assumption⟩
  · cases h; cases hx <;> exact ⟨rfl, _, rfl, _, rfl, by constructor; assumption⟩
  · cases h; cases hx; exact ⟨rfl, _, rfl, _, rfl, by constructor <;> assumption⟩
  · cases h; cases hx; exact ⟨rfl, _, rfl, _, rfl, by constructor; assumption⟩
  · cases h
theorem sameLV_ok {t : TypeId} {q1 q2 : Operand} {u v : LV} {x y : Value} {b : Bool} (hb : sameLV P t u v = some b) (hx : VR ρ u x) (hy : VR ρ v y) : (Op.equal t x y).run P w = .ok b w ∧ (∀ op, (eqGuard op t q1 q2 x y).run P w = .ok () w) ∧ (binOp .eql t x y = do pure (.bool (← Op.equal t x y))) ∧ (binOp .neq t x y = do pure (.bool (!(← Op.equal t x y)))) := by
  have key : (∀ d, (Op.equalIn (d + 1) t x y).run P w = .ok b w) ∧ (∀ op, (eqGuard op t q1 q2 x y).run P w = .ok () w) ∧ (binOp .eql t x y = do pure (.bool (← Op.equal t x y))) ∧ (binOp .neq t x y = do pure (.bool (!(← Op.equal t x y)))) := by
    unfold sameLV at hb
    split at hb <;> cases hb <;> rename_i hu <;> cases hx <;> cases hy <;> refine ⟨fun d => ?_, fun op => ?_, rfl, rfl⟩
    all_goals first
      | (simp only [Op.equalIn, Sem.run_bind, run_underlying hu, Result.andThen_ok]; rfl)
      | (cases op <;> rfl)
      | (cases op <;> first
          | rfl
          | (have hg0 : ∀ d, (Op.eqGuardIn (d + 1) t .nilIface .nilIface).run P w = .ok false w := fun d => by
               simp only [Op.eqGuardIn, Sem.run_bind, run_underlying hu, Result.andThen_ok]
               rfl
             have hg : (Op.eqGuardIn Op.maxDepth t .nilIface .nilIface).run P w = .ok false w := hg0 9999
             unfold eqGuard
             cases q1 <;> cases q2 <;> simp [Sem.run_bind, hg]))
  exact ⟨key.1 9999, key.2⟩
theorem doBin_ok {op : BinOp} {t : TypeId} {q1 q2 : Operand} {u v z : LV} {x y : Value} (h : doBin P op t u v = some z) (hx : VR ρ u x) (hy : VR ρ v y) : PureR P ρ w z (do eqGuard op t q1 q2 x y; binOp op t x y) := by
  unfold doBin at h
  split at h
  · rename_i k a k' b
    cases hx; cases hy
    have hg : (eqGuard op t q1 q2 (.int k a) (.int k' b)).run P w = .ok () w := by
      cases op <;> simp [eqGuard]
    simp only [PureR, Sem.run_bind, hg, Result.andThen_ok]
    cases hsh : isShift op with
    | true =>
      rw [hsh] at h
      simp only [cond_true] at h
      unfold shInt at h
      cases hb : decide (b < 0) with
      | true => rw [hb] at h; cases h
      | false =>
        rw [hb] at h
        have hb' : ¬ b < 0 := of_decide_eq_false hb
        simp only [cond_false] at h
        cases op <;> first | (exact absurd hsh (by decide)) | (simp only [Option.some.injEq] at h; subst h; refine ⟨_, ?_, .int _ _⟩; simp [binOp, Op.shift, hb']; done)
    | false =>
      rw [hsh] at h
      simp only [cond_false] at h
      obtain ⟨hk, h2⟩ := cond_some h
      clear h
      have hk2 : k = k' := by simpa using hk
      clear hk
      subst hk2
      have h := h2
      clear h2
      cases op <;> simp only [binInt, cmpInt, Option.map_some] at h <;> first
        | (exact absurd hsh (by decide))
        | (cases h; first
          | exact ⟨_, by simp [binOp, Op.intArith, Op.intBits, Op.intCmp]; rfl, .int _ _⟩
          | exact ⟨_, by simp [binOp, Op.intArith, Op.intBits, Op.intCmp], .int _ _⟩
          | exact ⟨_, by simp [binOp, Op.intCmp]; rfl, .bool _⟩
          | exact ⟨_, by simp [binOp, Op.intCmp], .bool _⟩)
        | (cases hb : b == 0 with
          | true => rw [hb] at h; cases h
          | false =>
            rw [hb] at h
            cases h
            have hb' : ¬ b = 0 := by simpa using hb
            exact ⟨_, by simp [binOp, Op.intDiv, hb'], .int _ _⟩)
  · rename_i a b
    cases hx; cases hy
    unfold strOp at h
    split at h
    · obtain ⟨h1, h⟩ := cond_some h
      cases h
      have h1 : a.size + b.size < 1000000 := Nat.le_of_ble_eq_true h1
      refine ⟨_, ?_, .str _⟩
      simp [eqGuard, binOp, Op.stringOp]
      omega
    · cases h
      exact ⟨_, by simp [eqGuard, binOp, Op.stringOp], .bool _⟩
    · cases h
      exact ⟨_, by simp [eqGuard, binOp, Op.stringOp], .bool _⟩
    · cases h
  · have main := fun b (hb : sameLV P t u v = some b) => sameLV_ok (w := w) (q1 := q1) (q2 := q2) hb hx hy
    split at h
    · cases hs : sameLV P t u v with
      | none => rw [hs] at h; cases h
      | some b =>
        rw [hs] at h
        cases h
        obtain ⟨h1, h2, h3, _⟩ := main b hs
        exact ⟨.bool b, by rw [h3]; simp [h1, h2], .bool _⟩
    · cases hs : sameLV P t u v with
      | none => rw [hs] at h; cases h
      | some b =>
        rw [hs] at h
        cases h
        obtain ⟨h1, h2, _, h3⟩ := main b hs
        exact ⟨.bool !b, by rw [h3]; simp [h1, h2], .bool _⟩
    · cases h
end
end Go.Proofs.YtfnkomoickanfaaGreatDoor.Ev
