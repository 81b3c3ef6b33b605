/-
  (ashlarref8.Rule).Past.
-/
import Derived.Test.YtifebbacnlhggaaGreatDoorEeEaEcBuBvEjErNxNy
import Derived.Deep.DeepFit
namespace Go.Proofs.YtifebbacnlhggaaGreatDoor
open Go.RowKit
set_option linter.unusedVariables false
set_option linter.unusedSimpArgs false
set_option maxHeartbeats 8000000
theorem ey_none (w : World) (N E B T : Nat) : EY N E w B T [] ⟨none, 0, 0⟩ := ⟨[], pr_nil _ _, rfl, rfl, Nat.zero_le _, (fun a ha => nomatch ha), fun j hj => absurd hj (Nat.not_lt_zero _)⟩
structure PaI (w wr : World) (al y : Int) (u : Ent) (B T D K gc : Nat) (bss : List (List Int)) (h : Hdr) (V : Nat → List Int) (hs : List Hdr) : Prop where
  hb : HBr wr gc hs
  hl : hs.length = h.n + 1
  ev : ∀ j, j < h.n + 1 → EY (2 * (K + 9)) 4 wr (gc + 1) wr.heap.size (V j) (gh hs j)
  c0 : wr.cell? ⟨w.heap.size, 0, none⟩ = some (.int .i64 al)
  c1 : wr.cell? ⟨w.heap.size, 1, none⟩ = some (.bool u.s)
  c2 : wr.cell? ⟨w.heap.size, 2, none⟩ = some (.slice u.p u.n u.c)
  g : gc = w.heap.size + 1
  a : HR D (EY (2 * K) 4) wr B T bss h
  t : T ≤ w.heap.size
  q : RE wr 2 y u
  ub : 0 < u.n → ∀ a, u.p = some a → a.block < w.heap.size
  b : Below w.heap.size w wr
section
variable {w wr v : World} {al y : Int} {u : Ent} {B T D K gc : Nat} {bss : List (List Int)} {h : Hdr} {V V' : Nat → List Int} {hs : List Hdr}
theorem PaI.congr (k : PaI w wr al y u B T D K gc bss h V hs) (hV : ∀ j, j < h.n + 1 → V j = V' j) : PaI w wr al y u B T D K gc bss h V' hs :=
  ⟨k.hb, k.hl, fun j hj => by rw [← hV j hj]; exact k.ev j hj, k.c0, k.c1, k.c2, k.g, k.a, k.t, k.q, k.ub, k.b⟩
theorem PaI.put (k : PaI w wr al y u B T D K gc bss h V hs) (hb : Below wr.heap.size wr v) {x : List Int} {p : Option Addr} {n j : Nat} (hj : j < h.n + 1) (hE : EY (2 * (K + 9)) 4 v wr.heap.size v.heap.size x ⟨p, n, n⟩) :
    PaI w (v.setCell ⟨gc, j, none⟩ (.slice p n n)) al y u B T D K gc bss h (fun i => if i = j then x else V i) (hs.set j ⟨p, n, n⟩) := by
  have hg := k.g
  have hgl := k.hb.lt
  have hbs := hb.size
  have ho : ∀ b, b ≠ gc → (v.setCell ⟨gc, j, none⟩ (.slice p n n)).heap[b]? = v.heap[b]? := fun b hne => heap_setCell_other v ⟨gc, j, none⟩ b _ hne
  have hsz : (v.setCell ⟨gc, j, none⟩ (.slice p n n)).heap.size = v.heap.size := by simp [World.setCell]
  have hcell : ∀ o x', wr.cell? ⟨w.heap.size, o, none⟩ = some x' → (v.setCell ⟨gc, j, none⟩ (.slice p n n)).cell? ⟨w.heap.size, o, none⟩ = some x' := fun o x' hx => (World.cell?_of_block (a := ⟨w.heap.size, o, none⟩) (ho w.heap.size (by omega))).trans (cell_later hb hx)
  refine ⟨(k.hb.below hb hgl).set j ⟨p, n, n⟩, by rw [List.length_set]; exact k.hl, fun i hi => ?_, hcell _ _ k.c0, hcell _ _ k.c1, hcell _ _ k.c2, hg, ?_, k.t, ?_, k.ub, ?_⟩
  · rw [gh_set _ _ _ _ (by rw [k.hl]; exact hj)]
    by_cases hij : i = j
    · rw [if_pos hij, if_pos hij, hsz]
      exact (lasts_EY _ _).wide (lastsB_EY _ _ hE (Nat.le_refl _) fun b h1 h2 => ho b (by omega)) (by omega) (Nat.le_refl _)
    · rw [if_neg hij, if_neg hij, hsz]
      have h1 := (lasts_EY _ _).below (k.ev i hi) (Nat.le_refl _) hb
      exact (lasts_EY _ _).wide (lastsB_EY _ _ h1 (Nat.le_trans (Nat.le_refl _) hbs) fun b h1 h2 => ho b (by omega)) (Nat.le_refl _) hbs
  · have h1 := (lasts_HR (lasts_EY (2 * K) 4)).below k.a (Nat.le_trans k.t k.b.size) hb
    exact lastsB_HR (E := EY (2 * K) 4) (fun a b c => lastsB_EY (2 * K) 4 a b c) h1 (Nat.le_trans k.t (Nat.le_trans k.b.size hbs)) fun b h1 h2 => ho b (by have := k.t; omega)
  · exact (k.q.below hb).same fun hn a ha => ho _ (by have := k.ub hn a ha; omega)
  · exact (bnext' k.b hb).setCell (p := ⟨gc, j, none⟩) (by show w.heap.size ≤ gc; omega) _
theorem PaI.entry (k : PaI w wr al y u B T D K gc bss h V hs) {i : Nat} (hi : i < h.n) : ∃ b o p n nc es, h.p = some ⟨b, o, none⟩ ∧ wr.cell? ⟨b, o + i, none⟩ = some (.slice p n nc) ∧ PR wr (2 * K) p n nc es (gt bss i) ∧ tlen (gt bss i) = (gt bss i).length ∧ n ≤ 4 ∧ b ≠ gc := by
  obtain ⟨hs2, q⟩ := k.a
  obtain ⟨b, o, hp, hc⟩ := q.hl (by rw [q.el]; omega)
  have c0 := hc i (by rw [q.el]; omega)
  obtain ⟨es2, hP2, h1, h2, hd3, -⟩ := q.ev i hi
  exact ⟨b, o, _, _, _, es2, hp, c0, hP2, by rw [h2, hP2.zl], hd3, by
    have h9 := (q.at_ _ hp (by omega)).2
    have := k.t
    have := k.g
    show b ≠ gc
    simp only at h9
    omega⟩
end
theorem prc_ax {f : Nat} {args : Array Value} {v : World} {zs : List Int} {N : Nat} {X : Nat → Prop} (h : Calls Tryz.prog f args v (PrC zs N v)) : Calls Tryz.prog f args v fun e w' => ∃ u, e = .returned u ∧ (Ax.prc zs N).is X u w' ∧ Below v.heap.size v w' := by
  refine h.mono ?_
  rintro e w' ⟨p, n, c, es, rfl, h1, hb⟩
  exact ⟨_, rfl, ⟨p, n, c, es, rfl, h1⟩, hb⟩
theorem eyn_ax {f lo : Nat} {args : Array Value} {v : World} {zs : List Int} {N : Nat} {X : Nat → Prop} (hlo : lo ≤ v.heap.size) (h : Calls Tryz.prog f args v (PrF zs N v)) : Calls Tryz.prog f args v fun e w' => ∃ u, e = .returned u ∧ (Ax.eyn zs N lo).is X u w' ∧ Below v.heap.size v w' := by
  refine h.mono ?_
  rintro e w' ⟨p, n, es, rfl, h1, h2, h3, h4, hb⟩
  exact ⟨_, rfl, ⟨p, n, es, rfl, h1, fun a ha => Nat.le_trans hlo (h2 a ha), h3, fun j hj h0 a ha => Nat.le_trans hlo (h4 j hj h0 a ha)⟩, hb⟩
theorem ey_eyn {w v : World} {p : Option Addr} {n N M E : Nat} {es : List Ent} {zs : List Int} (h1 : PR v N p n n es zs) (h2 : Go.Proofs.YtifebbacnlhggaaGreatDoor.From w.heap.size p) (h3 : tlen zs = n) (h4 : ∀ j, j < n → 0 < (ge es j).n → Go.Proofs.YtifebbacnlhggaaGreatDoor.From w.heap.size (ge es j).p) (hz : ∀ t, ((gx zs t).natAbs : Int) < pw M) (hE : zs.length ≤ E) : EY (2 * M) E v w.heap.size v.heap.size zs ⟨p, n, n⟩ :=
  ey_of_from (h1.tight hz) h2 h3 h4 (by rw [← h1.zl]; exact hE)
set_option maxRecDepth 100000 in
theorem rPast_any {w : World} {al y : Int} {u : Ent} (ha : al = 1 ∨ al = 2 ∨ al = 3) (hq : RE w 2 y u) (hq0 : al = 3 → y ≠ 0) (hY : (y.natAbs : Int) < pw 1) {B T D K : Nat} {bss : List (List Int)} {h : Hdr} (H : HR D (EY (2 * K) 4) w B T bss h) (hT : T ≤ w.heap.size) (hol : olen bss = bss.length) (hD : D ≤ 900) (hK : K ≤ 50) (hK2 : 2 ≤ K) :
    Calls Tryz.prog 68 #[.agg #[.int .i64 al, .bool u.s, .slice u.p u.n u.c], .slice h.p h.n h.c] w (OrP (D + 1) (LXz al y bss) (2 * (K + 9)) 4 w) := by
  obtain ⟨hp, hn, hc⟩ := h
  have hn9 : hn ≤ 900 := by
    obtain ⟨hs, k⟩ := H
    have := k.few
    simp only at this
    omega
  have hmk := mk_refs (hn + 1) (by omega)
  have ec : ((hn + 1 : Nat) : Int) = (hn : Int) + 1 := by omega
  rw [ec] at hmk
  clear ec
  have HX : Hid (HR D (EY (2 * K) 4) w B T bss ⟨hp, hn, hc⟩ ∧ T ≤ w.heap.size ∧ olen bss = bss.length ∧ RE w 2 y u ∧ (al = 1 ∨ al = 2 ∨ al = 3) ∧ (al = 3 → y ≠ 0) ∧ (y.natAbs : Int) < pw 1) := ⟨H, hT, hol, hq, ha, hq0, hY⟩
  clear H hT hol hq ha hq0 hY
  go_enter Tryz.func68, Tryz.ntmps68
  go_wp2_with fail
  have hW : Below w.heap.size w ((w.alloc (.cells #[.int .i64 al, .bool u.s, .slice u.p u.n u.c] 40)).alloc (.cells ((hzs (hn + 1)).map Hdr.val).toArray 44)) := bel_al (bel_al (Below.refl _ _))
  have G0 : Hid (PaI w ((w.alloc (.cells #[.int .i64 al, .bool u.s, .slice u.p u.n u.c] 40)).alloc (.cells ((hzs (hn + 1)).map Hdr.val).toArray 44)) al y u B T D K (w.heap.size + 1) bss ⟨hp, hn, hc⟩ (Vst al y bss 0) (hzs (hn + 1))) := by
    refine ⟨?_, by simp [hzs], fun j hj => ?_, ?_, ?_, ?_, rfl, (lasts_HR (lasts_EY (2 * K) 4)).below HX.out.1 HX.out.2.1 hW, HX.out.2.1, HX.out.2.2.2.1.below hW, fun h0 a ha => (lasts_RE 2).lt HX.out.2.2.2.1 h0 a ha, hW⟩
    · have h1 := heap_alloc_new (w.alloc (.cells #[.int .i64 al, .bool u.s, .slice u.p u.n u.c] 40)) (.cells ((hzs (hn + 1)).map Hdr.val).toArray 44)
      rw [World.size_alloc] at h1
      exact h1
    · rw [gh_hzs]
      have e : Vst al y bss 0 j = [] := by
        unfold Vst Asg
        rw [if_neg (by omega)]
        split <;> rfl
      rw [e]
      exact ey_none _ _ _ _ _
    · have h1 : (w.alloc (.cells #[.int .i64 al, .bool u.s, .slice u.p u.n u.c] 40)).cell? ⟨w.heap.size, 0, none⟩ = some (.int .i64 al) := by simp [go_sem]
      exact cell_later (bel_al (Below.refl _ _)) h1
    · have h1 : (w.alloc (.cells #[.int .i64 al, .bool u.s, .slice u.p u.n u.c] 40)).cell? ⟨w.heap.size, 1, none⟩ = some (.bool u.s) := by simp [go_sem]
      exact cell_later (bel_al (Below.refl _ _)) h1
    · have h1 : (w.alloc (.cells #[.int .i64 al, .bool u.s, .slice u.p u.n u.c] 40)).cell? ⟨w.heap.size, 2, none⟩ = some (.slice u.p u.n u.c) := by simp [go_sem]
      exact cell_later (bel_al (Below.refl _ _)) h1
  generalize (w.alloc (.cells #[.int .i64 al, .bool u.s, .slice u.p u.n u.c] 40)).alloc (.cells ((hzs (hn + 1)).map Hdr.val).toArray 44) = W0 at *
  generalize w.heap.size + 1 = gc at *
  have HQ : Hid ((al = 1 ∨ al = 2 ∨ al = 3) ∧ (al = 3 → y ≠ 0) ∧ (y.natAbs : Int) < pw 1 ∧ olen bss = bss.length ∧ bss.length = hn ∧ (∀ j t, ((gx (gt bss j) t).natAbs : Int) < pw K) ∧ ∀ j, (gt bss j).length ≤ 4) := by
    obtain ⟨hs, k⟩ := HX.out.1
    have h5 : bss.length = hn := k.tl
    have h6 : ∀ j, (∀ t, ((gx (gt bss j) t).natAbs : Int) < pw K) ∧ (gt bss j).length ≤ 4 := fun j => by
      rcases Nat.lt_or_ge j hn with hj | hj
      · obtain ⟨es2, hP2, h1, h2, hd3, -⟩ := k.ev j hj
        exact ⟨fun t => pr_bdk hP2 t, by rw [hP2.zl]; exact hd3⟩
      · rw [gt_out _ _ (by omega)]
        exact ⟨fun t => pw_pos K, Nat.zero_le _⟩
    exact ⟨HX.out.2.2.2.2.1, HX.out.2.2.2.2.2.1, HX.out.2.2.2.2.2.2, HX.out.2.2.1, h5, fun j t => (h6 j).1 t, fun j => (h6 j).2⟩
  clear hmk hW HX
  go_loopw [6] (fun kv wr => ∃ (i : Nat) (hs : List Hdr), i ≤ hn ∧ kv = .int .i64 i ∧ Hid (PaI w wr al y u B T D K gc bss ⟨hp, hn, hc⟩ (Vst al y bss i) hs)) (fun kv _ => hn - (intOf kv).toNat)
  case atStart => exact ⟨0, _, Nat.zero_le _, by go_num, G0.out⟩
  case round =>
    clear G0
    obtain ⟨i, hs, hi, rfl, G⟩ := hrel
    rcases Nat.lt_or_ge i hn with hlt | hge
    · obtain ⟨b, o, p2, n2, nc2, es2, hpb, xb, hP2, ht2, hn2, hbg⟩ := G.out.entry hlt
      simp only at hpb
      subst hpb
      have i1 : (i : Int) < (hn : Int) := by omega
      have i2 : (i : Int) < (hn : Int) + 1 := by omega
      have HP2 : Hid (PR wr (2 * K) p2 n2 nc2 es2 (gt bss i) ∧ tlen (gt bss i) = (gt bss i).length ∧ n2 ≤ 4) := ⟨hP2, ht2, hn2⟩
      clear hP2 hn2 ht2
      have xc := G.out.hb.cell i (by rw [G.out.hl]; show i < hn + 1; omega)
      have hEc := G.out.ev i (show i < hn + 1 by omega)
      obtain ⟨⟨cp, cn, cc⟩, hci⟩ : ∃ d, gh hs i = d := ⟨_, rfl⟩
      rw [hci] at xc hEc
      simp only [Hdr.val] at xc
      obtain ⟨ce, hPc, hcc, hct, hcn, -, -⟩ := hEc
      simp only at hPc hcc hct hcn
      have e9 : Vst al y bss i i = Asg al y bss i := by unfold Vst; rw [if_neg (by omega), if_pos rfl]
      rw [e9] at hPc hct
      have HC : Hid (PR wr (2 * (K + 9)) cp cn cc ce (Asg al y bss i)) := hPc
      have r0 := G.out.c0
      have r1 := G.out.c1
      have r2 := G.out.c2
      clear hPc hct hcc hci e9
      go_wp2_with fail
      refine region_openX 14 [(0, 17), (1, 18), (2, 19), (3, 20), (4, 21), (5, 22), (6, 23), (7, 24), (8, 25), (9, 26), (10, 27), (11, 28), (12, 29), (13, 30)] [] []
        [Ax.val (Value.slice (some { block := gc, off := 0 }) (hn + 1) (hn + 1)), Ax.val (Value.int IntKind.i64 ↑i), Ax.val (Value.slice (some { block := gc, off := 0 }) (hn + 1) (hn + 1)), Ax.val (Value.int IntKind.i64 ↑i), Ax.val (Value.pointer (some { block := gc, off := i })), Ax.val (Value.slice cp cn cc), Ax.val (Value.agg #[Value.int IntKind.i64 al, Value.bool u.s, Value.slice u.p u.n u.c]), Ax.val (Value.slice (some { block := b, off := o }) hn hc), Ax.val (Value.int IntKind.i64 ↑i), Ax.val (Value.pointer (some { block := b, off := o + i })), Ax.val (Value.slice p2 n2 nc2), Ax.prc (DLM al (gt bss i)) (2 * (K + n2 * 2)), Ax.eyn (Ful al y bss i) (2 * (K + 9) + 2 * (K + n2 * 2) + 1) wr.heap.size, Ax.val (Value.pointer (some { block := gc, off := i }))]
        (by kernel_rfl) (by kernel_rfl) (by kernel_rfl) trivial (by kernel_rfl) (by decide) (by decide) (by rfl) ?_ ?_
      · refine ⟨fun _ => ?_, fun _ => ?_, fun _ => ?_, fun _ => ?_, fun _ => ?_, fun _ => ?_, fun _ => ?_, fun _ => ?_, fun _ => ?_, fun _ => ?_, fun _ => ?_, fun _ => ?_, fun _ => ?_, fun _ => ?_, fun h => absurd h (by decide), trivial⟩
        · exact ox_pure rfl fun X ρ v R => ⟨_, by simp [execOp, go_sem], R.old 5 (by decide)⟩
        · exact ox_pure rfl fun X ρ v R => ⟨_, by simp [execOp, go_sem], R.old 6 (by decide)⟩
        · exact ox_pure rfl fun X ρ v R => ⟨_, by simp [execOp, go_sem], R.old 5 (by decide)⟩
        · exact ox_pure rfl fun X ρ v R => ⟨_, by simp [execOp, go_sem], R.old 6 (by decide)⟩
        · exact ox_pure rfl fun X ρ v R => by
            have e19 : ρ (.tmp 19) = Value.slice (some { block := gc, off := 0 }) (hn + 1) (hn + 1) := R.dep 2 19 (by decide) rfl rfl
            have e20 : ρ (.tmp 20) = Value.int IntKind.i64 ↑i := R.dep 3 20 (by decide) rfl rfl
            exact ⟨_, by simp [execOp, go_sem, e19, e20, i2], rfl⟩
        · exact ox_pure rfl fun X ρ v R => by
            have e21 : ρ (.tmp 21) = Value.pointer (some { block := gc, off := i }) := R.dep 4 21 (by decide) rfl rfl
            have x0 := cell_later R.b xc
            exact ⟨_, by simp [execOp, go_sem, e21, x0], rfl⟩
        · exact ox_pure rfl fun X ρ v R => by
            have e2 : ρ (.tmp 2) = Value.pointer (some { block := w.heap.size, off := 0 }) := R.old 2 (by decide)
            have x0 := cell_later R.b r0
            have x1 := cell_later R.b r1
            have x2 := cell_later R.b r2
            exact ⟨_, by simp [execOp, go_sem, e2, x0, x1, x2], rfl⟩
        · exact ox_pure rfl fun X ρ v R => ⟨_, by simp [execOp, go_sem], R.old 1 (by decide)⟩
        · exact ox_pure rfl fun X ρ v R => ⟨_, by simp [execOp, go_sem], R.old 6 (by decide)⟩
        · exact ox_pure rfl fun X ρ v R => by
            have e24 : ρ (.tmp 24) = Value.slice (some { block := b, off := o }) hn hc := R.dep 7 24 (by decide) rfl rfl
            have e25 : ρ (.tmp 25) = Value.int IntKind.i64 ↑i := R.dep 8 25 (by decide) rfl rfl
            exact ⟨_, by simp [execOp, go_sem, e24, e25, i1], rfl⟩
        · exact ox_pure rfl fun X ρ v R => by
            have e26 : ρ (.tmp 26) = Value.pointer (some { block := b, off := o + i }) := R.dep 9 26 (by decide) rfl rfl
            have x0 := cell_later R.b xb
            exact ⟨_, by simp [execOp, go_sem, e26, x0], rfl⟩
        · exact ox_call 20 rfl fun X ρ v R => by
            have e23 : ρ (.tmp 23) = Value.agg #[Value.int IntKind.i64 al, Value.bool u.s, Value.slice u.p u.n u.c] := R.dep 6 23 (by decide) rfl rfl
            have e27 : ρ (.tmp 27) = Value.slice p2 n2 nc2 := R.dep 10 27 (by decide) rfl rfl
            exact ⟨_, by simp [execOp, go_sem, e23, e27, R.fn], prc_ax (rDelta_all (u := u) (K := K) (HP2.out.1.below R.b) HP2.out.2.1 (by have := HP2.out.2.2; omega) (by omega) (HQ.out.2.2.2.2.2.1 i))⟩
        · exact ox_call 81 rfl fun X ρ v R => by
            have e22 : ρ (.tmp 22) = Value.slice cp cn cc := R.dep 5 22 (by decide) rfl rfl
            obtain ⟨p28, n28, c28, E28, e28, H28⟩ := R.dep 11 28 (by decide) rfl rfl
            exact ⟨_, by simp [execOp, go_sem, e22, e28, R.fn], eyn_ax R.b.size (rpAdd_new (HC.out.below R.b) H28 (by have h9 := HC.out.zl; have := Asg_len (al := al) (y := y) HQ.out.2.2.2.2.2.2 i; omega) (by have h9 := H28.zl; have := DLM_len al (gt bss i); have := HQ.out.2.2.2.2.2.2 i; omega) (by omega) (by have := HP2.out.2.2; omega) (by omega) (by omega))⟩
        · exact ox_pure rfl fun X ρ v R => by
            have e17 : ρ (.tmp 17) = Value.slice (some { block := gc, off := 0 }) (hn + 1) (hn + 1) := R.dep 0 17 (by decide) rfl rfl
            have e18 : ρ (.tmp 18) = Value.int IntKind.i64 ↑i := R.dep 1 18 (by decide) rfl rfl
            exact ⟨_, by simp [execOp, go_sem, e17, e18, i2], rfl⟩
      intro vals w5 hb5 hv
      have e_0 : vals 0 = Value.slice (some { block := gc, off := 0 }) (hn + 1) (hn + 1) := hv (0, 17) (by decide)
      have e_1 : vals 1 = Value.int IntKind.i64 ↑i := hv (1, 18) (by decide)
      have e_2 : vals 2 = Value.slice (some { block := gc, off := 0 }) (hn + 1) (hn + 1) := hv (2, 19) (by decide)
      have e_3 : vals 3 = Value.int IntKind.i64 ↑i := hv (3, 20) (by decide)
      have e_4 : vals 4 = Value.pointer (some { block := gc, off := i }) := hv (4, 21) (by decide)
      have e_5 : vals 5 = Value.slice cp cn cc := hv (5, 22) (by decide)
      have e_6 : vals 6 = Value.agg #[Value.int IntKind.i64 al, Value.bool u.s, Value.slice u.p u.n u.c] := hv (6, 23) (by decide)
      have e_7 : vals 7 = Value.slice (some { block := b, off := o }) hn hc := hv (7, 24) (by decide)
      have e_8 : vals 8 = Value.int IntKind.i64 ↑i := hv (8, 25) (by decide)
      have e_9 : vals 9 = Value.pointer (some { block := b, off := o + i }) := hv (9, 26) (by decide)
      have e_10 : vals 10 = Value.slice p2 n2 nc2 := hv (10, 27) (by decide)
      obtain ⟨p_11, n_11, c_11, E_11, e_11, H_11⟩ := hv (11, 28) (by decide)
      obtain ⟨p_12, n_12, E_12, e_12, H_12, F_12, T_12, G_12⟩ := hv (12, 29) (by decide)
      have e_13 : vals 13 = Value.pointer (some { block := gc, off := i }) := hv (13, 30) (by decide)
      refine ends_some (o := { dst := none, op := Op.store 44 (Operand.tmp 30) (Operand.tmp 29), type := 0, pos := "ref.go:126", after := #[{ on := 13, ground := Ground.data }, { on := 12, ground := Ground.data }, { on := 12, ground := Ground.chain }, { on := 0, ground := Ground.phase }, { on := 1, ground := Ground.phase }, { on := 2, ground := Ground.phase }, { on := 3, ground := Ground.phase }, { on := 4, ground := Ground.phase }, { on := 5, ground := Ground.phase }, { on := 6, ground := Ground.phase }, { on := 7, ground := Ground.phase }, { on := 8, ground := Ground.phase }, { on := 9, ground := Ground.phase }, { on := 10, ground := Ground.phase }, { on := 11, ground := Ground.phase }, { on := 12, ground := Ground.phase }], guard := none }) rfl ?_
      simp only [List.foldl, e_0, e_1, e_2, e_3, e_4, e_5, e_6, e_7, e_8, e_9, e_10, e_11, e_12, e_13, List.setIfInBounds_toArray, List.set_cons_succ, List.set_cons_zero]
      clear hv e_0 e_1 e_2 e_3 e_4 e_5 e_6 e_7 e_8 e_9 e_10 e_11 e_12 e_13
      have y0 : w5.cell? ⟨gc, i, none⟩ = some (.slice cp cn cc) := cell_later hb5 xc
      have f0 : w5.frozen? ⟨gc, i, none⟩ = false := (G.out.hb.below hb5 G.out.hb.lt).frozen i
      unfold Oper.wp
      simp [execOp, go_sem, y0, f0]
      have hEy := ey_eyn (M := K + 9) (E := 4) H_12 F_12 T_12 G_12 (Ful_lt HQ.out.2.2.2.2.2.1 HQ.out.2.2.2.2.2.2 HQ.out.2.2.1 i) (Ful_len HQ.out.2.2.2.2.2.2 i)
      have G1 : Hid (PaI w (w5.setCell ⟨gc, i, none⟩ (.slice p_12 n_12 n_12)) al y u B T D K gc bss ⟨some ⟨b, o, none⟩, hn, hc⟩ (fun j => if j = i then Ful al y bss i else Vst al y bss i j) (hs.set i ⟨p_12, n_12, n_12⟩)) := G.out.put hb5 (show i < hn + 1 by omega) hEy
      have HB5 : Hid (Below wr.heap.size wr w5) := hb5
      clear y0 f0 hEy H_11 H_12 F_12 T_12 G_12 xc xb r0 r1 r2 hb5 HC
      generalize w5.setCell ⟨gc, i, none⟩ (.slice p_12 n_12 n_12) = w6 at *
      obtain ⟨b3, o3, p3, n3, nc3, es3, hpb3, xb, hP3, ht3, hn3, hbg3⟩ := G1.out.entry hlt
      simp only [Option.some.injEq, Addr.mk.injEq] at hpb3
      obtain ⟨rfl, rfl, -⟩ := hpb3
      have HP3 : Hid (PR w6 (2 * K) p3 n3 nc3 es3 (gt bss i) ∧ tlen (gt bss i) = (gt bss i).length ∧ n3 ≤ 4) := ⟨hP3, ht3, hn3⟩
      clear hP3 ht3 hn3
      have xc := G1.out.hb.cell (i + 1) (by rw [G1.out.hl]; show i + 1 < hn + 1; omega)
      have hEc := G1.out.ev (i + 1) (show i + 1 < hn + 1 by omega)
      obtain ⟨⟨dp, dn, dc⟩, hci⟩ : ∃ d, gh (hs.set i ⟨p_12, n_12, n_12⟩) (i + 1) = d := ⟨_, rfl⟩
      rw [hci] at xc hEc
      simp only [Hdr.val] at xc
      obtain ⟨de, hPc, hcc, hct, hdn, -, -⟩ := hEc
      simp only at hPc hcc hct hdn
      have e9 : (if i + 1 = i then Ful al y bss i else Vst al y bss i (i + 1)) = [] := by
        rw [if_neg (by omega)]
        unfold Vst
        rw [if_neg (by omega), if_neg (by omega)]
      rw [e9] at hPc hct
      have HC : Hid (PR w6 (2 * (K + 9)) dp dn dc de []) := hPc
      have r0 := G1.out.c0
      have r1 := G1.out.c1
      have r2 := G1.out.c2
      have v1 : IntKind.i64.wrap ((i : Int) + 1) = (i : Int) + 1 := by rw [IntKind.wrap_i64]; omega
      have v2 : (i : Int) + 1 < (hn : Int) + 1 := by omega
      have v3 : (0 : Int) ≤ (i : Int) + 1 := by omega
      have v4 : ((i : Int) + 1).toNat = i + 1 := by omega
      clear hPc hct hcc hci e9
      go_wp2_with fail
      refine region_openX 16 [(0, 31), (1, 32), (2, 33), (3, 34), (4, 35), (5, 36), (6, 37), (7, 38), (8, 39), (9, 40), (10, 41), (11, 42), (12, 43), (13, 44), (14, 45), (15, 46)] [] []
        [Ax.val (Value.slice (some { block := gc, off := 0 }) (hn + 1) (hn + 1)), Ax.val (Value.int IntKind.i64 ↑i), Ax.val (Value.int IntKind.i64 (↑i + 1)), Ax.val (Value.slice (some { block := gc, off := 0 }) (hn + 1) (hn + 1)), Ax.val (Value.int IntKind.i64 ↑i), Ax.val (Value.int IntKind.i64 (↑i + 1)), Ax.val (Value.pointer (some { block := gc, off := i + 1 })), Ax.val (Value.slice dp dn dc), Ax.val (Value.agg #[Value.int IntKind.i64 al, Value.bool u.s, Value.slice u.p u.n u.c]), Ax.val (Value.slice (some { block := b, off := o }) hn hc), Ax.val (Value.int IntKind.i64 ↑i), Ax.val (Value.pointer (some { block := b, off := o + i })), Ax.val (Value.slice p3 n3 nc3), Ax.prc (SGM al y (gt bss i)) (2 * (K + n3 * 2)), Ax.eyn (tr (pz (· + ·) [] (SGM al y (gt bss i)))) (2 * (K + 9) + 2 * (K + n3 * 2) + 1) w6.heap.size, Ax.val (Value.pointer (some { block := gc, off := i + 1 }))]
        (by kernel_rfl) (by kernel_rfl) (by kernel_rfl) trivial (by kernel_rfl) (by decide) (by decide) (by rfl) ?_ ?_
      · refine ⟨fun _ => ?_, fun _ => ?_, fun _ => ?_, fun _ => ?_, fun _ => ?_, fun _ => ?_, fun _ => ?_, fun _ => ?_, fun _ => ?_, fun _ => ?_, fun _ => ?_, fun _ => ?_, fun _ => ?_, fun _ => ?_, fun _ => ?_, fun _ => ?_, fun h => absurd h (by decide), trivial⟩
        · exact ox_pure rfl fun X ρ v R => ⟨_, by simp [execOp, go_sem], R.old 5 (by decide)⟩
        · exact ox_pure rfl fun X ρ v R => ⟨_, by simp [execOp, go_sem], R.old 6 (by decide)⟩
        · exact ox_pure rfl fun X ρ v R => by
            have e32 : ρ (.tmp 32) = Value.int IntKind.i64 ↑i := R.dep 1 32 (by decide) rfl rfl
            exact ⟨_, by simp [execOp, go_sem, e32, R.con, v1], rfl⟩
        · exact ox_pure rfl fun X ρ v R => ⟨_, by simp [execOp, go_sem], R.old 5 (by decide)⟩
        · exact ox_pure rfl fun X ρ v R => ⟨_, by simp [execOp, go_sem], R.old 6 (by decide)⟩
        · exact ox_pure rfl fun X ρ v R => by
            have e35 : ρ (.tmp 35) = Value.int IntKind.i64 ↑i := R.dep 4 35 (by decide) rfl rfl
            exact ⟨_, by simp [execOp, go_sem, e35, R.con, v1], rfl⟩
        · exact ox_pure rfl fun X ρ v R => by
            have e34 : ρ (.tmp 34) = Value.slice (some { block := gc, off := 0 }) (hn + 1) (hn + 1) := R.dep 3 34 (by decide) rfl rfl
            have e36 : ρ (.tmp 36) = Value.int IntKind.i64 (↑i + 1) := R.dep 5 36 (by decide) rfl rfl
            exact ⟨_, by simp [execOp, go_sem, e34, e36, v2, v3, v4], rfl⟩
        · exact ox_pure rfl fun X ρ v R => by
            have e37 : ρ (.tmp 37) = Value.pointer (some { block := gc, off := i + 1 }) := R.dep 6 37 (by decide) rfl rfl
            have x0 := cell_later R.b xc
            exact ⟨_, by simp [execOp, go_sem, e37, x0], rfl⟩
        · exact ox_pure rfl fun X ρ v R => by
            have e2 : ρ (.tmp 2) = Value.pointer (some { block := w.heap.size, off := 0 }) := R.old 2 (by decide)
            have x0 := cell_later R.b r0
            have x1 := cell_later R.b r1
            have x2 := cell_later R.b r2
            exact ⟨_, by simp [execOp, go_sem, e2, x0, x1, x2], rfl⟩
        · exact ox_pure rfl fun X ρ v R => ⟨_, by simp [execOp, go_sem], R.old 1 (by decide)⟩
        · exact ox_pure rfl fun X ρ v R => ⟨_, by simp [execOp, go_sem], R.old 6 (by decide)⟩
        · exact ox_pure rfl fun X ρ v R => by
            have e40 : ρ (.tmp 40) = Value.slice (some { block := b, off := o }) hn hc := R.dep 9 40 (by decide) rfl rfl
            have e41 : ρ (.tmp 41) = Value.int IntKind.i64 ↑i := R.dep 10 41 (by decide) rfl rfl
            exact ⟨_, by simp [execOp, go_sem, e40, e41, i1], rfl⟩
        · exact ox_pure rfl fun X ρ v R => by
            have e42 : ρ (.tmp 42) = Value.pointer (some { block := b, off := o + i }) := R.dep 11 42 (by decide) rfl rfl
            have x0 := cell_later R.b xb
            exact ⟨_, by simp [execOp, go_sem, e42, x0], rfl⟩
        · exact ox_call 17 rfl fun X ρ v R => by
            have e39 : ρ (.tmp 39) = Value.agg #[Value.int IntKind.i64 al, Value.bool u.s, Value.slice u.p u.n u.c] := R.dep 8 39 (by decide) rfl rfl
            have e43 : ρ (.tmp 43) = Value.slice p3 n3 nc3 := R.dep 12 43 (by decide) rfl rfl
            exact ⟨_, by simp [execOp, go_sem, e39, e43, R.fn], prc_ax (rSigma_all (u := u) (K := K) (M := 2) HQ.out.1 (fun h3 => ⟨G1.out.q.below R.b, HQ.out.2.1 h3⟩) HQ.out.2.2.1 (HP3.out.1.below R.b) HP3.out.2.1 (by have := HP3.out.2.2; omega) (by omega) (by omega) (by decide) (HQ.out.2.2.2.2.2.1 i) (by have := HP3.out.2.2; omega))⟩
        · exact ox_call 81 rfl fun X ρ v R => by
            have e38 : ρ (.tmp 38) = Value.slice dp dn dc := R.dep 7 38 (by decide) rfl rfl
            obtain ⟨p44, n44, c44, E44, e44, H44⟩ := R.dep 13 44 (by decide) rfl rfl
            exact ⟨_, by simp [execOp, go_sem, e38, e44, R.fn], eyn_ax R.b.size (rpAdd_new (HC.out.below R.b) H44 (by have h9 := HC.out.zl; simp at h9; omega) (by have h9 := H44.zl; have := SGM_len al y (gt bss i); have := HQ.out.2.2.2.2.2.2 i; omega) (by omega) (by have := HP3.out.2.2; omega) (by omega) (by omega))⟩
        · exact ox_pure rfl fun X ρ v R => by
            have e31 : ρ (.tmp 31) = Value.slice (some { block := gc, off := 0 }) (hn + 1) (hn + 1) := R.dep 0 31 (by decide) rfl rfl
            have e33 : ρ (.tmp 33) = Value.int IntKind.i64 (↑i + 1) := R.dep 2 33 (by decide) rfl rfl
            exact ⟨_, by simp [execOp, go_sem, e31, e33, v2, v3, v4], rfl⟩
      intro vals w7 hb7 hv
      have e_0 : vals 0 = Value.slice (some { block := gc, off := 0 }) (hn + 1) (hn + 1) := hv (0, 31) (by decide)
      have e_1 : vals 1 = Value.int IntKind.i64 ↑i := hv (1, 32) (by decide)
      have e_2 : vals 2 = Value.int IntKind.i64 (↑i + 1) := hv (2, 33) (by decide)
      have e_3 : vals 3 = Value.slice (some { block := gc, off := 0 }) (hn + 1) (hn + 1) := hv (3, 34) (by decide)
      have e_4 : vals 4 = Value.int IntKind.i64 ↑i := hv (4, 35) (by decide)
      have e_5 : vals 5 = Value.int IntKind.i64 (↑i + 1) := hv (5, 36) (by decide)
      have e_6 : vals 6 = Value.pointer (some { block := gc, off := i + 1 }) := hv (6, 37) (by decide)
      have e_7 : vals 7 = Value.slice dp dn dc := hv (7, 38) (by decide)
      have e_8 : vals 8 = Value.agg #[Value.int IntKind.i64 al, Value.bool u.s, Value.slice u.p u.n u.c] := hv (8, 39) (by decide)
      have e_9 : vals 9 = Value.slice (some { block := b, off := o }) hn hc := hv (9, 40) (by decide)
      have e_10 : vals 10 = Value.int IntKind.i64 ↑i := hv (10, 41) (by decide)
      have e_11 : vals 11 = Value.pointer (some { block := b, off := o + i }) := hv (11, 42) (by decide)
      have e_12 : vals 12 = Value.slice p3 n3 nc3 := hv (12, 43) (by decide)
      obtain ⟨p_13', n_13', c_13', E_13', e_13, H_13'⟩ := hv (13, 44) (by decide)
      obtain ⟨p_14', n_14', E_14', e_14, H_14', F_14', T_14', G_14'⟩ := hv (14, 45) (by decide)
      have e_15 : vals 15 = Value.pointer (some { block := gc, off := i + 1 }) := hv (15, 46) (by decide)
      refine ends_some (o := { dst := none, op := Op.store 44 (Operand.tmp 46) (Operand.tmp 45), type := 0, pos := "ref.go:127", after := #[{ on := 15, ground := Ground.data }, { on := 14, ground := Ground.data }, { on := 14, ground := Ground.chain }, { on := 0, ground := Ground.phase }, { on := 1, ground := Ground.phase }, { on := 2, ground := Ground.phase }, { on := 3, ground := Ground.phase }, { on := 4, ground := Ground.phase }, { on := 5, ground := Ground.phase }, { on := 6, ground := Ground.phase }, { on := 7, ground := Ground.phase }, { on := 8, ground := Ground.phase }, { on := 9, ground := Ground.phase }, { on := 10, ground := Ground.phase }, { on := 11, ground := Ground.phase }, { on := 12, ground := Ground.phase }, { on := 13, ground := Ground.phase }, { on := 14, ground := Ground.phase }], guard := none }) rfl ?_
      simp only [List.foldl, e_0, e_1, e_2, e_3, e_4, e_5, e_6, e_7, e_8, e_9, e_10, e_11, e_12, e_13, e_14, e_15, List.setIfInBounds_toArray, List.set_cons_succ, List.set_cons_zero]
      clear hv e_0 e_1 e_2 e_3 e_4 e_5 e_6 e_7 e_8 e_9 e_10 e_11 e_12 e_13 e_14 e_15
      have y0 : w7.cell? ⟨gc, i + 1, none⟩ = some (.slice dp dn dc) := cell_later hb7 xc
      have f0 : w7.frozen? ⟨gc, i + 1, none⟩ = false := (G1.out.hb.below hb7 G1.out.hb.lt).frozen (i + 1)
      unfold Oper.wp
      simp [execOp, go_sem, y0, f0]
      have eA : Asg al y bss (i + 1) = tr (pz (· + ·) [] (SGM al y (gt bss i))) := by
        unfold Asg
        rw [if_neg (by omega), Nat.add_sub_cancel]
      have hEy := ey_eyn (M := K + 9) (E := 4) H_14' F_14' T_14' G_14' (fun t => by rw [← eA]; exact Int.lt_of_lt_of_le (Asg_lt HQ.out.2.2.2.2.2.1 HQ.out.2.2.2.2.2.2 HQ.out.2.2.1 (i + 1) t) (pw_mono (by omega))) (by rw [← eA]; exact Asg_len HQ.out.2.2.2.2.2.2 (i + 1))
      rw [← eA] at hEy
      have hG2 := (G1.out.put hb7 (show i + 1 < hn + 1 by omega) hEy).congr (V' := Vst al y bss (i + 1)) (fun j hj => by
        unfold Vst
        by_cases h1 : j = i + 1
        · subst h1
          rw [if_pos rfl, if_neg (by omega), if_pos rfl]
        · rw [if_neg h1]
          by_cases h2 : j = i
          · subst h2
            rw [if_pos rfl, if_pos (by omega)]
          · rw [if_neg h2]
            by_cases h3 : j < i
            · rw [if_pos h3, if_pos (by omega)]
            · rw [if_neg h3, if_neg h2, if_neg (by omega), if_neg h1])
      have G2 : Hid (∃ hs', PaI w (w7.setCell ⟨gc, i + 1, none⟩ (.slice p_14' n_14' n_14')) al y u B T D K gc bss ⟨some ⟨b, o, none⟩, hn, hc⟩ (Vst al y bss (i + 1)) hs') := ⟨_, hG2⟩
      clear y0 f0 hEy H_13' H_14' F_14' T_14' G_14' xc xb r0 r1 r2 hb7 HC hG2 eA
      generalize w7.setCell ⟨gc, i + 1, none⟩ (.slice p_14' n_14' n_14') = w8 at *
      go_wp2
      obtain ⟨hs', hG⟩ := G2.out
      exact ⟨⟨i + 1, hs', by omega, by go_num, hG⟩, by simp [intOf]; omega⟩
    · obtain rfl : i = hn := by omega
      have hrow : Hid (HRow (D + 1) (EY (2 * (K + 9)) 4) wr w.heap.size wr.heap.size ((List.range (i + 1)).map (Vst al y bss i)) ⟨some ⟨gc, 0, none⟩, hs.length, i + 1⟩ hs ∧ hs.length = i + 1 ∧ Below w.heap.size w wr) := by
        have hl : hs.length = i + 1 := G.out.hl
        have hD' : i ≤ D := by
          obtain ⟨hs2, q⟩ := G.out.a
          exact q.few
        have hg := G.out.g
        refine ⟨⟨rfl, by simp [hl], by show hs.length ≤ i + 1; omega, by show i + 1 ≤ maxLen; unfold maxLen; omega, (fun h => nomatch h), by show hs.length ≤ D + 1; omega, fun hx => ⟨gc, 0, rfl, fun j hj => by rw [Nat.zero_add]; exact G.out.hb.cell j hj⟩, fun a ha _ => by
          cases ha
          exact ⟨by show w.heap.size ≤ gc; omega, G.out.hb.lt⟩, fun j hj => ?_⟩, hl, G.out.b⟩
        have hj' : j < i + 1 := by rw [← hl]; exact hj
        rw [gt_rngL, if_pos hj']
        exact (lasts_EY _ _).wide (G.out.ev j hj') (by omega) (Nat.le_refl _)
      have htr := rTrim8_any ⟨_, hrow.out.1⟩ (Nat.le_refl _) (by omega) (by decide)
      dsimp only at htr
      have hl' := hrow.out.2.1
      rw [hl'] at htr
      have HE : Hid (OrP (D + 1) ((List.range (i + 1)).map (Vst al y bss i)) (2 * (K + 9)) 4 w = OrP (D + 1) ((List.range (i + 1)).map (Vst al y bss i)) (2 * (K + 9)) 4 w) := rfl
      clear hl' G
      go_wp2_with fail
      go_fit htr
      rintro r w9 ⟨rfl, hb9⟩
      have hte := trim_end hrow.out.1 hrow.out.2.2 hb9
      have heq : otr ((List.range (i + 1)).map (Vst al y bss i)) = otr (LXz al y bss) := by
        have h1 := otr_Vst (al := al) (y := y) HQ.out.2.2.2.1
        rw [HQ.out.2.2.2.2.1] at h1
        exact h1
      have HF : Hid (OrP (D + 1) (LXz al y bss) (2 * (K + 9)) 4 w (.returned (.slice (some ⟨gc, 0, none⟩) (olen ((List.range (i + 1)).map (Vst al y bss i))) (olen ((List.range (i + 1)).map (Vst al y bss i))))) w9) := by
        obtain ⟨p9, h1, h2, h3⟩ := hte
        have h4 := congrArg List.length heq
        rw [length_otr, length_otr] at h4
        rw [heq] at h2
        rw [h4] at h1 h2 ⊢
        exact ⟨p9, h1, h2, h3⟩
      clear htr hb9 hte heq HE
      generalize olen ((List.range (i + 1)).map (Vst al y bss i)) = m9 at *
      go_wp2
      go_ret
      exact HF.out
end Go.Proofs.YtifebbacnlhggaaGreatDoor
