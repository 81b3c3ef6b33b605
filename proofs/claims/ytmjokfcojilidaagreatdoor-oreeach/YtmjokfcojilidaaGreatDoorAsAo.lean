/-
  OreEach's walk.
-/
import Derived.Test.YtmjokfcojilidaaGreatDoorAr
import Derived.Deep.DeepFit
import Derived.Deep.DeepCutAuto
import Derived.Test.YtmjokfcojilidaaGreatDoorDwDpAa
namespace Go.Proofs.YtmjokfcojilidaaGreatDoor
open Go.RowKit
set_option linter.unusedVariables false
set_option linter.unusedSimpArgs false

/-- Behind the cuts. -/
structure EA (w wc : World) (pa : Option Addr) (na ca : Nat) (z : List (List Int)) (pc : Option Addr) (nc' cc : Nat) (zs : List Int) : Prop where
  b : Below w.heap.size w wc
  g : wc.heap[w.heap.size]? = some (.cells #[.slice pc nc' cc] 26 (0, 0))
  a : ∃ B T, HR 5 (EZ 2 4) wc B T z ⟨pa, na, ca⟩ ∧ T ≤ wc.heap.size ∧ w.heap.size < B
  p : ∃ B T, EZ 1 3 wc B T zs ⟨pc, nc', cc⟩ ∧ T ≤ wc.heap.size ∧ w.heap.size < B
theorem EA.op {w wc : World} {pa : Option Addr} {na ca : Nat} {z : List (List Int)} {pc : Option Addr} {nc' cc : Nat} {zs : List Int} (h : EA w wc pa na ca z pc nc' cc zs) : OpAt wc z ⟨pa, na, ca⟩ := by
  obtain ⟨B, T, h1, h2, -⟩ := h.a
  exact ⟨B, T, h1, h2⟩
theorem EA.five {w wc : World} {pa : Option Addr} {na ca : Nat} {z : List (List Int)} {pc : Option Addr} {nc' cc : Nat} {zs : List Int} (h : EA w wc pa na ca z pc nc' cc zs) : olen z ≤ 5 := by
  obtain ⟨B, T, ⟨_, k⟩, -⟩ := h.a
  have h1 := olen_le z
  have h2 := k.tl
  have h3 := k.few
  omega
theorem EA.later {w wc wd : World} {pa : Option Addr} {na ca : Nat} {z : List (List Int)} {pc : Option Addr} {nc' cc : Nat} {zs : List Int} (h : EA w wc pa na ca z pc nc' cc zs) (hb : Below wc.heap.size wc wd) : EA w wd pa na ca z pc nc' cc zs := by
  obtain ⟨B, T, h1, h2, h3⟩ := h.a
  obtain ⟨B', T', k1, k2, k3⟩ := h.p
  exact ⟨bnext' h.b hb, (hb.block _ (Array.getElem?_eq_some_iff.1 h.g).1).trans h.g, ⟨B, T, (lasts_HR (lasts_EZ 2 4)).below h1 h2 hb, Nat.le_trans h2 hb.size, h3⟩, ⟨B', T', (lasts_EZ 1 3).below k1 k2 hb, Nat.le_trans k2 hb.size, k3⟩⟩
theorem ea_made {w w1 w2 w3 : World} {r : Option Addr} {l lc : Nat} {pa : Option Addr} {na ca : Nat} {z : List (List Int)} {pc : Option Addr} {nc' cc : Nat} {zs : List Int} (hB : Below w.heap.size w w1) (s1 : w.heap.size < w1.heap.size) (hG : w1.heap[w.heap.size]? = some (.cells #[.slice r l lc] 26 (0, 0))) (h2 : Below w1.heap.size w1 w2) (h3 : Below w2.heap.size w2 w3)
    (ha : HR 5 (EZ 2 4) w2 w1.heap.size w2.heap.size z ⟨pa, na, ca⟩) (hp : EZ 1 3 w3 w2.heap.size w3.heap.size zs ⟨pc, nc', cc⟩) : EA w (w3.setCell ⟨w.heap.size, 0, none⟩ (.slice pc nc' cc)) pa na ca z pc nc' cc zs := by
  have hV3 := bnext' h2 h3
  have hb : ∀ b, w.heap.size < b → (w3.setCell ⟨w.heap.size, 0, none⟩ (.slice pc nc' cc)).heap[b]? = w3.heap[b]? := fun b hb => Below.heap_setCell w3 ⟨w.heap.size, 0, none⟩ _ b (by show b ≠ w.heap.size; omega)
  have hsz : (w3.setCell ⟨w.heap.size, 0, none⟩ (.slice pc nc' cc)).heap.size = w3.heap.size := by simp [World.setCell]
  have t2 := h2.size
  have t3 := h3.size
  refine ⟨(bnext' hB hV3).setCell (p := ⟨w.heap.size, 0, none⟩) (Nat.le_refl _) _, set_one ((hV3.block _ s1).trans hG), ⟨w1.heap.size, w2.heap.size, lastsB_HR (E := EZ 2 4) (lastsB_EZ 2 4) ((lasts_HR (lasts_EZ 2 4)).below ha (Nat.le_refl _) h3) t3 (fun b h1 _ => hb b (by omega)), by omega, by omega⟩, ⟨w2.heap.size, w3.heap.size, lastsB_EZ 1 3 hp (Nat.le_refl _) (fun b h1 _ => hb b (by omega)), by omega, by omega⟩⟩
theorem PR.wide {w : World} {N M : Nat} {p : Option Addr} {n nc : Nat} {es : List Ent} {zs : List Int} (h : PR w N p n nc es zs) (hM : N ≤ M) : PR w M p n nc es zs :=
  ⟨h.el, h.zl, h.cap, h.bnd, h.pl, fun j hj => (h.ev j hj).wide hM⟩
theorem mulp_trim (a b : List Int) : tr (mulp (tr a) (tr b)) = mulp (tr a) (tr b) := by
  refine tr_self ?_
  unfold mulp
  by_cases h0 : (tr a).length = 0 ∨ (tr b).length = 0
  · rw [if_pos h0]
    rfl
  · rw [if_neg h0, mulz_top (by rw [tlen_tr, length_tr]) (by rw [tlen_tr, length_tr]) (by omega) (by omega), length_mulz]
theorem each_list (z : List (List Int)) (zs : List Int) : ((List.range (olen z)).map fun i => tr (mulp (tr (gt z i)) (tr zs))) = (oz z).map (mulp (tr zs)) := by
  rw [← rng_mul]
  refine List.map_congr_left fun i _ => ?_
  rw [mulp_trim, mulp_comm]
theorem callE1 (args : Array Value) (w' : World) : Sem.run Tryz.prog (callFunc 42 args) w' = .ok (.enter 42 args) w' := by
  have h1 : ¬ Tryz.f42.name = "runtime.NumGoroutine" := of_decide_eq_false (by kernel_rfl)
  have h2 : ¬ Tryz.f42.body = none := fun h => by cases h
  simp only [callFunc, Tryz.func42, go_sem]
  simp [h1, h2, go_sem]
theorem ei_start {w w4 : World} {pa : Option Addr} {na ca : Nat} {z : List (List Int)} {pc : Option Addr} {nc' cc : Nat} {zs : List Int} {u : Option Addr} (h : EA w w4 pa na ca z pc nc' cc zs) (hu : RfAt w4 z ⟨u, olen z, olen z⟩) :
    EI (w4.heap.size + 3) (w4.heap.size + 1 + 1) (w4.heap.size + 1) w4.heap.size w.heap.size z u pc nc' cc zs 0 (((w4.alloc (.cells #[.slice u (olen z) (olen z)] 55)).alloc (.cells #[.int .i64 0] 3)).alloc (.cells #[.bool true] 4)) ∧ Below w4.heap.size w4 (((w4.alloc (.cells #[.slice u (olen z) (olen z)] 55)).alloc (.cells #[.int .i64 0] 3)).alloc (.cells #[.bool true] 4)) ∧ (((w4.alloc (.cells #[.slice u (olen z) (olen z)] 55)).alloc (.cells #[.int .i64 0] 3)).alloc (.cells #[.bool true] 4)).heap.size = w4.heap.size + 3 := by
  have hb : Below w4.heap.size w4 (((w4.alloc (.cells #[.slice u (olen z) (olen z)] 55)).alloc (.cells #[.int .i64 0] 3)).alloc (.cells #[.bool true] 4)) := (((Below.refl _ _).alloc (Nat.le_refl _) _).alloc (by simp) _).alloc (by simp; omega) _
  have hsz : (((w4.alloc (.cells #[.slice u (olen z) (olen z)] 55)).alloc (.cells #[.int .i64 0] 3)).alloc (.cells #[.bool true] 4)).heap.size = w4.heap.size + 3 := by simp
  have hg4 := (Array.getElem?_eq_some_iff.1 h.g).1
  have hu0 : (((w4.alloc (.cells #[.slice u (olen z) (olen z)] 55)).alloc (.cells #[.int .i64 0] 3)).alloc (.cells #[.bool true] 4)).heap[w4.heap.size]? = some (.cells #[.slice u (olen z) (olen z)] 55 (0, 0)) := by
    rw [Below.heap_alloc _ _ _ (by simp; omega), Below.heap_alloc _ _ _ (by simp)]
    exact heap_alloc_new w4 _
  have hk0 : (((w4.alloc (.cells #[.slice u (olen z) (olen z)] 55)).alloc (.cells #[.int .i64 0] 3)).alloc (.cells #[.bool true] 4)).heap[w4.heap.size + 1]? = some (.cells #[.int .i64 0] 3 (0, 0)) := by
    rw [Below.heap_alloc _ _ _ (by simp)]
    have := heap_alloc_new (w4.alloc (.cells #[.slice u (olen z) (olen z)] 55)) (.cells #[.int .i64 0] 3)
    simpa using this
  have hf0 : (((w4.alloc (.cells #[.slice u (olen z) (olen z)] 55)).alloc (.cells #[.int .i64 0] 3)).alloc (.cells #[.bool true] 4)).heap[w4.heap.size + 1 + 1]? = some (.cells #[.bool true] 4 (0, 0)) := by
    have := heap_alloc_new ((w4.alloc (.cells #[.slice u (olen z) (olen z)] 55)).alloc (.cells #[.int .i64 0] 3)) (.cells #[.bool true] 4)
    simpa using this
  generalize ((w4.alloc (.cells #[.slice u (olen z) (olen z)] 55)).alloc (.cells #[.int .i64 0] 3)).alloc (.cells #[.bool true] 4) = W at *
  obtain ⟨B, T, a1, a2⟩ := hu
  obtain ⟨B', T', k1, k2, k3⟩ := h.p
  refine ⟨⟨by omega, by omega, by omega, by omega, by omega, by omega, hf0, hk0, ?_, ?_, ⟨B, T, (lasts_HR (lasts_EY 4 4)).below a1 a2 hb, by omega, by omega, by omega⟩, ⟨B', T', (lasts_EZ 1 3).below k1 k2 hb, by omega, by omega, by omega⟩⟩, hb, hsz⟩
  · simp only [World.cell?]; rw [hu0]; rfl
  · have hg := (hb.block _ hg4).trans h.g
    simp only [World.cell?]; rw [hg]; rfl
/-- Behind Each. -/
structure EB (w w5 : World) (pa : Option Addr) (na ca : Nat) (z : List (List Int)) (pc : Option Addr) (nc' cc : Nat) (zs : List Int) (gf gk gu : Nat) (u : Option Addr) : Prop where
  b : Below w.heap.size w w5
  a : OpAt w5 z ⟨pa, na, ca⟩
  ru : RfAt w5 z ⟨u, olen z, olen z⟩
  p : ∃ es, PA w5 1 pc nc' cc es zs ∧ nc' ≤ 3
  cf : w5.cell? ⟨gf, 0, none⟩ = some (.bool true)
  ck : w5.cell? ⟨gk, 0, none⟩ = some (.int .i64 (olen z : Nat))
  cu : w5.cell? ⟨gu, 0, none⟩ = some (.slice u (olen z) (olen z))
  cp : w5.cell? ⟨w.heap.size, 0, none⟩ = some (.slice pc nc' cc)
theorem EB.later {w w5 w6 : World} {pa : Option Addr} {na ca : Nat} {z : List (List Int)} {pc : Option Addr} {nc' cc : Nat} {zs : List Int} {gf gk gu : Nat} {u : Option Addr} (h : EB w w5 pa na ca z pc nc' cc zs gf gk gu u) (hb : Below w5.heap.size w5 w6) : EB w w6 pa na ca z pc nc' cc zs gf gk gu u := by
  obtain ⟨es, h1, h2⟩ := h.p
  exact ⟨bnext' h.b hb, h.a.below hb, h.ru.below hb, ⟨es, h1.below hb, h2⟩, cell_later' hb h.cf, cell_later' hb h.ck, cell_later' hb h.cu, cell_later' hb h.cp⟩
theorem eb_made {w w4 W w5 : World} {pa : Option Addr} {na ca : Nat} {z : List (List Int)} {pc : Option Addr} {nc' cc : Nat} {zs : List Int} {u : Option Addr} (h : EA w w4 pa na ca z pc nc' cc zs) (hW : Below w4.heap.size w4 W) (hk : Kp (w4.heap.size + 1) (w4.heap.size + 3) W w5) (hI : EI (w4.heap.size + 3) (w4.heap.size + 1 + 1) (w4.heap.size + 1) w4.heap.size w.heap.size z u pc nc' cc zs (olen z) w5) : EB w w5 pa na ca z pc nc' cc zs (w4.heap.size + 1 + 1) (w4.heap.size + 1) w4.heap.size u := by
  obtain ⟨B, T, a1, a2, a3⟩ := h.a
  obtain ⟨Bu, Tu, b1, b2, -⟩ := hI.ru
  obtain ⟨Bp, Tp, ⟨gs, c1, c2, -⟩, -⟩ := hI.rp
  have hsz := hI.sz
  have hg4 := (Array.getElem?_eq_some_iff.1 h.g).1
  have hWs := hW.size
  have hb5 : Below w4.heap.size w4 w5 := hW.trans (hk.below (by omega) hWs)
  refine ⟨bnext' h.b hb5, ⟨B, T, (lasts_HR (lasts_EZ 2 4)).below a1 a2 hb5, Nat.le_trans a2 hb5.size⟩, ⟨Bu, Tu, b1, by omega⟩, ⟨gs, c1, c2⟩, ?_, ?_, hI.cu, hI.cp⟩
  · simp only [World.cell?]; rw [hI.cf]; rfl
  · simp only [World.cell?]; rw [hI.ck]; rfl
set_option maxHeartbeats 4000000 in
set_option maxRecDepth 100000 in
theorem OreEach_walk {w : World} {p : Option Addr} {n nc : Nat} {hs0 : List Hdr} (h : RZ w p n nc hs0) {r : Option Addr} {l lc : Nat} {es0 : List Ent} (hp : PZ w r l lc es0) :
    Calls Tryz.prog 5 #[.slice p n nc, .slice r l lc] w fun e w' => e = .returned (.bool true) ∧ Below w.heap.size w w' := by
  have hW : Below w.heap.size w (w.alloc (.cells #[.slice r l lc] 26)) := (Below.refl _ _).alloc (Nat.le_refl _) _
  have hG : (w.alloc (.cells #[.slice r l lc] 26)).heap[w.heap.size]? = some (.cells #[.slice r l lc] 26 (0, 0)) := heap_alloc_new w _
  have HX : Hid (RZ w p n nc hs0 ∧ PZ w r l lc es0) := ⟨h, hp⟩
  clear h hp
  go_enter Tryz.func5, Tryz.ntmps5
  go_wp2_with fail
  generalize w.alloc (.cells #[.slice r l lc] 26) = W0 at *
  go_fit (begun8_any W0)
  rintro e w1 ⟨rfl, hb1⟩
  have HB1 : Hid (Below w.heap.size w w1) := bnext' hW hb1
  have hG1 : w1.heap[w.heap.size]? = some (.cells #[.slice r l lc] 26 (0, 0)) := (hb1.block _ (Array.getElem?_eq_some_iff.1 hG).1).trans hG
  clear hb1 hW hG
  have c0 : w1.cell? ⟨w.heap.size, 0, none⟩ = some (.slice r l lc) := by simp only [World.cell?]; rw [hG1]; rfl
  have c0d : w1.drew.cell? ⟨w.heap.size, 0, none⟩ = some (.slice r l lc) := c0
  have s1 : w.heap.size < w1.heap.size := block_lt_of_cell c0
  have hfw : ∀ w', Below w1.heap.size w1 w' → Calls Tryz.prog 21 #[.slice p n nc] w' (CoP n 5 4 2 w') := fun w' hb => few8_any (HX.out.1.below (bnext' HB1.out hb))
  have hcut : ∀ w', Below w1.heap.size w1 w' → Calls Tryz.prog 8 #[.slice r l lc, .int .i64 (3 : Nat), .int .i64 (1 : Nat)] w' (CutP l 3 1 w') := fun w' hb => Cut3_any (HX.out.2.below (bnext' HB1.out hb)) 3 1 (by decide) (by decide)
  go_wp2_with fail
  go_cut [0] (fun av wc => ∃ (pa : Option Addr) (na ca : Nat) (z : List (List Int)) (pc : Option Addr) (nc' cc : Nat) (zs : List Int), av = .slice pa na ca ∧ Hid (EA w wc pa na ca z pc nc' cc zs))
  case first =>
    go_region_with (first
      | (go_at_call 21; go_fit (hfw _ (Below.refl _ _).drew); rintro e w2 ⟨⟨pa, na, ca⟩, z, rfl, -, ha, hb2⟩; have hV2 := undrew hb2; have c2 := cell_later' hV2 c0; simp only [Hdr.val])
      | (go_at_call 8; go_fit (hcut _ hV2); rintro e w3 ⟨pc, nc', cc, fs, zs, rfl, hP, hn', hq1, hq2, hb3⟩; have hV3 := bnext' hV2 hb3; have c3 := cell_later' hV3 c0; have f3 := frozen_of_row w3 _ 0 _ _ ((hV3.block _ s1).trans hG1); have hEZ := ez_cut (w := w2) hP hn' hq1 hq2; clear hn' hP))
    all_goals
      have hEA := ea_made HB1.out s1 hG1 hV2 hb3 ha hEZ
      have HEA := (show Hid _ from hEA)
      clear hEA hEZ ha hq1 hq2 c2 c3 f3 hb2 hb3 hV2 hV3
      go_wp2_with fail
      go_meet
      exact ⟨pa, na, ca, z, pc, nc', cc, zs, rfl, HEA.out⟩
  case rest =>
    obtain ⟨pa, na, ca, z, pc, nc', cc, zs, rfl, HA⟩ := hcut
    clear c0 c0d hfw hG1 HX
    have hz : olen z ≤ 5 := HA.out.five
    have hc := HA.out.op.from
    simp only at hc
    go_wp2_with fail
    go_fit hc
    rintro e w4 ⟨u, rfl, hu, hb4⟩
    have HA4 : Hid (EA w w4 pa na ca z pc nc' cc zs ∧ RfAt w4 z ⟨u, olen z, olen z⟩) := ⟨HA.out.later hb4, hu⟩
    clear hc hu hb4 HA hcut
    go_wp2_with fail
    obtain ⟨hI0, hbW, hsW⟩ := ei_start HA4.out.1 HA4.out.2
    generalize ((w4.alloc (.cells #[.slice u (olen z) (olen z)] 55)).alloc (.cells #[.int .i64 0] 3)).alloc (.cells #[.bool true] 4) = W at *
    obtain ⟨Ba, Ta, ha, hTa⟩ := HA4.out.1.op.below hbW
    have hlen : ∀ i, i < olen z → (mulp (tr (gt z i)) (tr zs)).length ≤ 8 := fun i hi => by
      have h1 := mulp_le (tr (gt z i)) (tr zs)
      have h2 := hr_len ha i
      obtain ⟨Bp, Tp, ⟨gs, c1, c2, -⟩, -⟩ := hI0.rp
      have h3 := c1.zl
      have h4 := tlen_le (gt z i)
      have h5 := tlen_le zs
      rw [length_tr, length_tr] at h1
      simp only at c2 h3
      omega
    have hc := oEach_gen (lo := w4.heap.size + 1) (base := w4.heap.size + 3) (K' := 4) (E' := 8) ha hTa (by omega) (by decide) (by decide) (by decide) (by decide) (by decide) 42 #[.pointer (some ⟨w4.heap.size + 1 + 1, 0, none⟩), .pointer (some ⟨w4.heap.size + 1, 0, none⟩), .pointer (some ⟨w4.heap.size, 0, none⟩), .pointer (some ⟨w.heap.size, 0, none⟩)] callE1 (fun i => mulp (tr (gt z i)) (tr zs)) (fun i w' => EI (w4.heap.size + 3) (w4.heap.size + 1 + 1) (w4.heap.size + 1) w4.heap.size w.heap.size z u pc nc' cc zs i w') (fun i w1 w2 h hb => h.below hb) hI0
      (fun wq i p n es hi hk hIq hP hn => each_fn (lo := w4.heap.size + 1) hIq hi (by omega) hP hn (by omega) (by omega)) hlen
    rw [each_list] at hc
    simp only at hc
    clear hlen ha hI0
    generalize hL : (oz z).map (mulp (tr zs)) = L at *
    have HLL := (show Hid _ from hL)
    clear hL
    go_fit hc
    rintro e w5 ⟨q5, hs5, rfl, hN5, hI5, hk5⟩
    have HB5 : Hid (EB w w5 pa na ca z pc nc' cc zs (w4.heap.size + 1 + 1) (w4.heap.size + 1) w4.heap.size u ∧ NO W.heap.size w5 4 8 (otr L) q5 (olen L) hs5) := ⟨eb_made HA4.out.1 hbW hk5 hI5, hN5⟩
    clear hc hN5 hI5 hk5 hbW hsW HA4 hTa
    generalize w4.heap.size + 1 + 1 = gf at *
    generalize w4.heap.size + 1 = gk at *
    generalize w4.heap.size = gu at *
    obtain ⟨es5, hP5, hn5⟩ := HB5.out.1.p
    have x1 := HB5.out.1.cp
    have x2 := HB5.out.1.cu
    have xd : w5.drew.cell? ⟨w.heap.size, 0, none⟩ = some (.slice pc nc' cc) ∧ w5.drew.cell? ⟨gu, 0, none⟩ = some (.slice u (olen z) (olen z)) := ⟨x1, x2⟩
    have hF : ∀ w', Below w5.heap.size w5 w' → Calls Tryz.prog 15 #[.slice pc nc' cc] w' (PrP (tr zs) 2 w') := fun w' hb => rpFrom_any (hP5.below hb) (by omega) (by decide)
    have hlz : Hid (tlen zs ≤ 3) := by have h1 := tlen_le zs; have h2 := hP5.zl; show _ ≤ _; omega
    clear hP5
    go_wp2_with fail
    go_cut [10] (fun sv wc => sv = .bool true ∧ Hid (EB w wc pa na ca z pc nc' cc zs gf gk gu u))
    case first =>
      go_region_held3 (fun w' => w'.cell? ⟨w.heap.size, 0, none⟩ = some (.slice pc nc' cc) ∧ w'.cell? ⟨gu, 0, none⟩ = some (.slice u (olen z) (olen z))) (first | with_reducible exact xd | with_reducible exact keepc2 ⟨x1, x2⟩ hV1 | with_reducible exact keepc2 ⟨x1, x2⟩ hV2 | with_reducible exact keepc2 ⟨x1, x2⟩ hV3)
        (first
          | (go_at_call 15; go_fit (hF _ (Below.refl _ _).drew); rintro e v1 ⟨p6, n6, es6, rfl, hR6, hf6, ht6, hb6⟩; have hV1 := undrew hb6; have hsc := RfAt.scale (hR6.wide (by decide : 2 ≤ 4)) (by rw [tlen_tr] at ht6; have := hlz.out; omega) (HB5.out.1.ru.below hV1); rw [HLL.out] at hsc; simp only at hsc)
          | (go_at_call 29; go_fit hsc; rintro e v2 ⟨B7, T7, p7, n7, N7, E7, rfl, hR7, hT7, hN7, hb7⟩; have hV2 := bnext' hV1 hb7; have his := ans_is (HB5.out.2.below hV2) hR7 hT7 (by decide) hN7 (by decide))
          | (go_at_call 23; go_fit his; rintro e v3 ⟨rfl, hb8⟩; have hV3 := bnext' hV2 hb8))
      all_goals
        have HB6 : Hid (EB w v3 pa na ca z pc nc' cc zs gf gk gu u) := HB5.out.1.later hV3
        clear hsc his hV1 hV2 hV3 hb6 hb7 hb8 hR6 hR7 x1 x2 xd hF
        go_wp2_with fail
        go_meet
        exact ⟨rfl, HB6.out⟩
    case rest =>
      obtain ⟨rfl, HB6⟩ := hcut
      clear x1 x2 xd hF HB5
      have x2 := HB6.out.cu
      have x2d : wc.drew.cell? ⟨gu, 0, none⟩ = some (.slice u (olen z) (olen z)) := x2
      have hEn : ∀ w', Below wc.heap.size wc w' → Calls Tryz.prog 41 #[.slice pa na ca, .nilFunc] w' (AnsO (oz z) w') := fun w' hb => by
        obtain ⟨B, T, a1, a2⟩ := HB6.out.a.below hb
        exact (oEach_nil a1 a2 (by decide) (by decide) (by decide)).mono fun e w'' h => ans_o h (otr_oz z) (by decide) (by decide)
      go_wp2_with fail
      go_cut [11] (fun sv wd => sv = .bool true ∧ Hid (EB w wd pa na ca z pc nc' cc zs gf gk gu u))
      case first =>
        go_region_held3 (fun w' => w'.cell? ⟨gu, 0, none⟩ = some (.slice u (olen z) (olen z))) (first | with_reducible exact x2d | with_reducible exact cell_later' hV1 x2 | with_reducible exact cell_later' hV2 x2)
          (first
            | (go_at_call 41; go_fit (hEn _ (Below.refl _ _).drew); rintro e v1 ⟨B7, p7, n7, hs7, K7, E7, rfl, hN7, hK7, hE7, hb7⟩; have hV1 := undrew hb7; have his := ans_isu hN7 (HB6.out.ru.below hV1) hK7 hE7)
            | (go_at_call 23; go_fit his; rintro e v2 ⟨rfl, hb8⟩; have hV2 := bnext' hV1 hb8))
        all_goals
          have HB7 : Hid (EB w v2 pa na ca z pc nc' cc zs gf gk gu u) := HB6.out.later hV2
          clear his hV1 hV2 hb7 hb8 hN7 x2 x2d hEn
          go_wp2_with fail
          go_meet
          exact ⟨rfl, HB7.out⟩
      case rest =>
        obtain ⟨rfl, HB7⟩ := hcut
        clear x2 x2d hEn HB6
        have y1 := HB7.out.cf
        have y2 := HB7.out.ck
        have y3 := HB7.out.cu
        have HBE : Hid (Below w.heap.size w wc) := HB7.out.b
        clear HB7
        go_wp2
        go_ret
        exact ⟨rfl, HBE.out⟩
end Go.Proofs.YtmjokfcojilidaaGreatDoor
/-
  An api.Op as an argument.
-/
namespace Go.Proofs.YtmjokfcojilidaaGreatDoor
open Go.ChangeShapes Go.WideShapes Go.ChangeAt Go.RowKit Go.Joins
set_option linter.unusedVariables false
set_option linter.unusedSimpArgs false

set_option maxRecDepth 100000 in
theorem openOp {H : Type} {enc : TypeId × Value → H} {W : World} {v0 : Value} {d0 : DataW H} {p0 : List MemPlace} {base : Nat} (hv : Value.okWide Tryz.prog W .any base 52 v0)
    (h0 : DataW.Trod enc Tryz.prog W 0 (fun _ => true) true 52 v0 d0 p0) : ∃ (p : Option Addr) (n nc : Nat) (hs : List Hdr), v0 = .slice p n nc ∧ RZ W p n nc hs := by
  obtain ⟨a0, len, cap, rfl⟩ := okWide_slice Tryz.underlying52 hv
  obtain ⟨fuel, hf⟩ := h0
  obtain ⟨-, h1, h2, h3, hs, h4, h5, h6⟩ := sliceT Tryz.underlying52 cellsP hf (E := fun h => ∃ es, PZ W h.p h.n h.c es) (fun fuel u y hy => polyT hy)
  exact ⟨a0, len, cap, hs, rfl, h4, h1, h2, h3, h5, h6⟩
end Go.Proofs.YtmjokfcojilidaaGreatDoor
