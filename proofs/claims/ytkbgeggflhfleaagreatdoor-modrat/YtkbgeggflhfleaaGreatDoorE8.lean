/-
  Appends and copies.
-/
import Derived.Test.YtkbgeggflhfleaaGreatDoorE7
namespace Go.Proofs.YtkbgeggflhfleaaGreatDoor.Ev
open Go.RowKit
section
variable {P : Program} {ρ : Ren} {w : World}
theorem lenL_ok {u : LV} {x : Value} {n : Nat} (h : lenL u = some n) (hx : VR ρ u x) (w : World) : (Builtin.lenOf x).run P w = .ok n w := by
  unfold lenL at h
  split at h <;> cases h <;> cases hx <;> rfl
theorem firstL_ok {G : Nat → Prop} {s s' : St} {size n : Nat} {u : LV} {x : Value} {cs : List LV} (h : firstL s size n u = some (cs, s')) (hx : VR ρ u x) (hw : WF s) (hG : Gok G s') (hr : RepOn G ρ s.heap w) :
    Mono s s' ∧ Ext G s s' ρ ρ w w ∧ s'.heap = s.heap ∧ s'.next = s.next ∧ ∃ xs : List Value, (∀ w', w'.heap = w.heap → (Builtin.firstCells size n x).run P w' = .ok xs.toArray w') ∧ VRs ρ cs xs := by
  unfold firstL at h
  split at h
  · rename_i m off ln c
    split at h
    · rename_i b s1 hl
      obtain ⟨hb, rfl, hlp⟩ := look_eq hl
      cases hrd : readCells b.cells off (n * size) with
      | none => rw [hrd] at h; cases h
      | some cs0 =>
        rw [hrd] at h
        cases h
        have hGn := gok_touch hw (by unfold Live; rw [hb]; simp) hG
        obtain ⟨p, cap, hp, rfl, _, _⟩ := slice_vr hx
        obtain ⟨q, ds, hrep⟩ := (hr.rep m b hGn hb).cells hlp
        have := hrep.at_; rw [hp] at this; cases this
        refine ⟨mono_touch s m, ext_touch m hr, touch_heap s m, touch_next s m, ?_⟩
        obtain ⟨hle, hout⟩ := readCells_eq hrd
        have hf := hrep.fit
        have hlen : ((ds.toList.drop (p.base + off)).take (n * size)).length = n * size := by simp; omega
        have hh : ∀ w'' : World, w''.heap = w.heap → (loadCells ⟨p.blk, p.base + off, none⟩ (n * size)).run P w'' = .ok ((ds.toList.drop (p.base + off)).take (n * size)).toArray w'' := fun w'' hw'' => by
          have := run_loadCells_list (P := P) w'' ⟨p.blk, p.base + off, none⟩ ((ds.toList.drop (p.base + off)).take (n * size)) (fun j v hj => by
            rw [Addr.add_lit]
            rw [List.getElem?_take] at hj
            split at hj
            · rw [List.getElem?_drop] at hj
              simp [World.cell?, hw'', hrep.heap]
              simpa using hj
            · cases hj)
          rwa [hlen] at this
        obtain ⟨xs, h1, h2, h3⟩ := load_cells (P := P) hrep hrd
        rw [hh w rfl] at h1
        have e := congrArg Array.toList ((Result.ok.injEq _ _ _ _).mp h1).1
        simp only [] at e
        refine ⟨_, hh, ?_⟩
        have e2 : ((ds.toList.drop (p.base + off)).take (n * size)) = xs := by simpa using e
        rw [e2]
        exact h2
    · cases h
  · cases h; cases hx
    exact ⟨Mono.refl s, ext_refl hr, rfl, rfl, [], fun _ _ => rfl, .nil⟩
  · rename_i b
    cases h; cases hx
    refine ⟨Mono.refl s, ext_refl hr, rfl, rfl, (b.data.toList.take n).map fun c => .int .u8 c.toNat, fun w' _ => ?_, ?_⟩
    · simp [Builtin.firstCells]
      congr 1
      apply Array.ext'
      simp
    · refine VRs.of_get (by simp) fun i v y hv hy => ?_
      simp only [List.getElem?_map] at hv hy
      cases hc : (b.data.toList.take n)[i]? with
      | none => rw [hc] at hv; cases hv
      | some c => rw [hc] at hv hy; cases hv; cases hy; exact .int _ _
  · cases h
theorem growBy_le (newLen : Nat) : ∀ (r c : Nat), c ≤ 2 * newLen + 768 → Builtin.growBy newLen r c ≤ 2 * newLen + 768
  | 0, c, h => h
  | r + 1, c, h => by
    unfold Builtin.growBy
    split
    · exact h
    · exact growBy_le newLen r _ (by omega)
theorem nextcap_le (newLen oldCap : Nat) (h : oldCap ≤ newLen) : Builtin.nextslicecap newLen oldCap ≤ 2 * newLen + 768 := by
  unfold Builtin.nextslicecap
  split
  · omega
  · split
    · omega
    · exact growBy_le _ _ _ (by omega)
theorem run_append_in {t0 t1 elem ty : TypeId} {d1 : TypeDesc} {size n len cap : Nat} {base : Option Addr} {x : Value} {xs : List Value} {w' : World} (hu0 : P.underlying t0 = some (.slice elem)) (hsz : sizeAt P elem = some size) (hu1 : P.underlying t1 = some d1) (hd1 : ∀ k, d1 ≠ .int k)
    (hn : ∀ w, (Builtin.lenOf x).run P w = .ok n w) (hfc : (Builtin.firstCells size n x).run P w = .ok xs.toArray w) (hroom : len + n ≤ cap)
    (hst : ∀ a, base = some a → (storeCells (a.add (len * size)) xs).run P w = .ok () w') (hno : base = none → w' = w) :
    (Builtin.append_ #[t0, t1] ty #[.slice base len cap, x]).run P w = .ok (.slice base (len + n) cap) w' := by
  cases base with
  | none =>
    have := hno rfl
    subst this
    simp [Builtin.append_, run_underlying hu0, run_underlying hu1, run_size hsz, hn, hroom, hfc]
  | some a =>
    have := hst a rfl
    simp [Builtin.append_, run_underlying hu0, run_underlying hu1, run_size hsz, hn, hroom, hfc, this]
theorem run_append_grow {t0 t1 elem ty : TypeId} {d1 : TypeDesc} {size bytes n len cap : Nat} {base : Option Addr} {x zx : Value} {os xs : List Value} (hu0 : P.underlying t0 = some (.slice elem)) (hsz : sizeAt P elem = some size) (hby : bytesAt P elem = some bytes) (hb : bytes ≤ 1000)
    (hzx : ∀ w, (zeroValue elem).run P w = .ok zx w) (hu1 : P.underlying t1 = some d1) (hd1 : ∀ k, d1 ≠ .int k)
    (hn : ∀ w, (Builtin.lenOf x).run P w = .ok n w) (hfo : (Builtin.firstCells size len (.slice base len cap)).run P w.drew = .ok os.toArray w.drew) (hfc : (Builtin.firstCells size n x).run P w.drew = .ok xs.toArray w.drew) (hroom : cap < len + n) (hn1 : n ≤ 1000000) (hl1 : len ≤ 1000000) :
    ∃ nc, len + n ≤ nc ∧ (Builtin.append_ #[t0, t1] ty #[.slice base len cap, x]).run P w = .ok (.slice (some ⟨w.heap.size, 0, none⟩) (len + n) nc) (w.drew.alloc (.cells ((os ++ xs).toArray ++ Builtin.zeroCells zx.cells (nc - (len + n))) elem)) := by
  obtain ⟨i, hi, hib⟩ := info_bytes hby
  have hnc := nextcap_le (len + n) cap (by omega)
  have hbig : ¬ (2 ^ 48 < Builtin.nextslicecap (len + n) cap * i.bytes) := by
    have : Builtin.nextslicecap (len + n) cap * i.bytes ≤ 4000768 * 1000 := Nat.mul_le_mul (by omega) (by omega)
    omega
  refine ⟨len + n + w.tape w.drawn (.appendCap (len + n) cap elem) % (2 ^ 63 - (len + n)), by omega, ?_⟩
  have hroom' : ¬ (len + n ≤ cap) := by omega
  have hask : ∀ (k : Nat) (w : World), (askRoom k).run P w = .ok () w := fun k w => by
    unfold askRoom
    split <;> rfl
  have hq : Question.forced (.appendCap (len + n) cap elem) = false := rfl
  have hcut : ∀ k, Question.cut (.appendCap (len + n) cap elem) k = len + n + k % (2 ^ 63 - (len + n)) := fun _ => rfl
  simp [Builtin.append_, run_underlying hu0, run_underlying hu1, run_size hsz, hn, hroom', run_info hi, hbig, hask, hfo, hfc, hzx, hq, hcut, newRow]
  rw [if_neg (by omega)]
  simp
  congr 2
  apply Array.ext'
  simp
theorem mono_kill {s s' : St} {m n : Nat} {b : Blk} (hw : WF s) (hl : Live s.heap m) (h : (s.set m none).new b = some (n, s')) : Mono s s' := by
  have hlt := live_lt hw hl
  exact (mono_set none (Nat.lt_of_lt_of_le hlt hw.lt) hl hlt).trans (mono_new h)
theorem ext_kill {G : Nat → Prop} {s : St} {m : Nat} (hw : WF s) (hl : Live s.heap m) (hr : RepOn G ρ s.heap w) : Ext G s (s.set m none) ρ ρ w w := by
  have hlt := live_lt hw hl
  have h9 := Nat.lt_of_lt_of_le hlt hw.lt
  have old : ∀ k, Live (s.set m none).heap k → Live s.heap k := fun k h e => by
    by_cases e1 : k = m
    · subst e1; exact h (by rw [set_heap _ h9, if_pos rfl])
    · exact h (by rw [set_heap _ h9, if_neg e1]; exact e)
  refine ⟨fun _ _ => rfl, ⟨fun k c hG hc => ?_, fun k j h1 h2 h3 h4 => hr.sep k j h1 h2 (old k h3) (old j h4), hr.tz, fun k p hG hl hp => hr.off k p hG (old k hl) hp⟩, fun _ _ _ => rfl, Nat.le_refl _, rfl, rfl, rfl, fun k p h1 h2 _ _ => by rw [set_next] at h2; omega⟩
  rw [set_heap _ h9] at hc
  split at hc
  · cases hc
  · exact hr.rep k c hG hc
theorem ext_move {G : Nat → Prop} {s s' : St} {m n : Nat} {b : Blk} {p q : Pl} {cs : Array Value} {w' : World} (h : (s.set m none).new b = some (n, s')) (hw : WF s) (hl : Live s.heap m) (hG : G m) (hp : ρ m = some p) (hr : RepOn G ρ s.heap w) (hf : Fresh ρ s s') (hq : q.blk = p.blk)
    (hheap : w'.heap[p.blk]? = some (.cells cs b.elem (0, 0))) (hother : ∀ k, k ≠ p.blk → w'.heap[k]? = w.heap[k]?) (hsz : w'.heap.size = w.heap.size) (hos : w'.os = w.os) (hta : w'.tape = w.tape) (hou : w'.output = w.output)
    (hv : ∀ (i : Nat) (v : LV), b.cells[i]? = some v → ∃ x, cs[q.base + i]? = some x ∧ VR ρ v x) (hfit : q.base + b.cells.length ≤ cs.size) (hm : ∀ sz, b.more = some sz → cs.size = q.base + q.cap * sz) (hlp : b.lp = none := by rfl) :
    Ext G s s' ρ (ρ.upd n q) w w' := by
  have hlt := live_lt hw hl
  have h9 := Nat.lt_of_lt_of_le hlt hw.lt
  obtain ⟨hn, hlt9, rfl⟩ := new_eq h
  rw [set_next] at hn hlt9
  subst hn
  have hget : ∀ k, ((s.set m none).heap.put 40 (s.set m none).next (some b)).get k = if k = s.next then some b else if k = m then none else s.heap.get k := fun k => by
    rw [get_new _ (by rw [set_next]; exact hlt9), set_next, set_heap _ h9]
  have hnone : ρ s.next = none := hf s.next (Nat.le_refl _) (by dsimp only; rw [set_next]; exact Nat.lt_succ_self _)
  have hle := Ren.upd_le q hnone
  have old : ∀ k, Live ((s.set m none).heap.put 40 (s.set m none).next (some b)) k → k ≠ s.next → k ≠ m ∧ Live s.heap k := fun k hk hne => by
    unfold Live at hk
    rw [hget, if_neg hne] at hk
    split at hk
    · exact absurd rfl hk
    · rename_i e; exact ⟨e, hk⟩
  refine ⟨fun k hk => ?_, ⟨fun k c hGk hc => ?_, fun k j hGk hGj hlk hlj hne pk pj hpk hpj => ?_, hr.tz.keep fun g hg => hother g fun e => hr.off m p hG hl hp (by rw [← e]; exact hg), fun k pk hGk hlk hpk e => ?_⟩, fun k hk hne => hother k ?_, by rw [hsz]; exact Nat.le_refl _, hos, hta, hou, fun k pk h1 h2 _ hpk => ?_⟩
  · unfold Ren.upd
    dsimp only at hk
    rw [set_next] at hk
    rw [if_neg (by omega)]
  · dsimp only at hc
    rw [hget] at hc
    split at hc
    · rename_i e
      subst e
      cases hc
      exact .ofB (p := q) (cs := cs) hlp ⟨by simp [Ren.upd], by rw [hq]; exact hheap, fun i v hi => let ⟨x, hx, hvr⟩ := hv i v hi; ⟨x, hx, hvr.mono hle⟩, hfit, hm⟩
    · split at hc
      · cases hc
      · rename_i e1 e2
        have hb := hr.rep k c hGk hc
        refine hb.keep hle fun pk hpk => hother _ ?_
        exact hr.sep k m hGk hG (by unfold Live; rw [hc]; simp) hl e2 pk p hpk hp
  · dsimp only at hlk hlj
    unfold Ren.upd at hpk hpj
    by_cases e1 : k = s.next
    · by_cases e2 : j = s.next
      · omega
      · obtain ⟨hjm, hlj'⟩ := old j hlj e2
        rw [if_pos e1] at hpk
        rw [if_neg e2] at hpj
        cases hpk
        rw [hq]
        exact hr.sep m j hG hGj hl hlj' (Ne.symm hjm) p pj hp hpj
    · obtain ⟨hkm, hlk'⟩ := old k hlk e1
      rw [if_neg e1] at hpk
      by_cases e2 : j = s.next
      · rw [if_pos e2] at hpj
        cases hpj
        rw [hq]
        exact hr.sep k m hGk hG hlk' hl hkm pk p hpk hp
      · obtain ⟨hjm, hlj'⟩ := old j hlj e2
        rw [if_neg e2] at hpj
        exact hr.sep k j hGk hGj hlk' hlj' hne pk pj hpk hpj
  · dsimp only at hlk
    unfold Ren.upd at hpk
    by_cases e1 : k = s.next
    · rw [if_pos e1] at hpk
      cases hpk
      rw [hq] at e
      exact hr.off m p hG hl hp e
    · rw [if_neg e1] at hpk
      exact hr.off k pk hGk (old k hlk e1).2 hpk e
  · intro e
    exact hne m p hG hl hp e.symm
  · dsimp only at h2
    rw [set_next] at h2
    have e : k = s.next := by omega
    unfold Ren.upd at hpk
    rw [if_pos e] at hpk
    cases hpk
    exact .inr ⟨m, p, hG, hlt, hl, hp, hq.symm⟩
end
end Go.Proofs.YtkbgeggflhfleaaGreatDoor.Ev
