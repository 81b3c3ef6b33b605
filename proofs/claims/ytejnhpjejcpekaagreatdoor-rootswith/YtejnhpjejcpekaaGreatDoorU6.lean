/-
  roots.divide by another line.
-/
import Derived.Test.YtejnhpjejcpekaaGreatDoorW0U4U5WvUh
import Derived.Deep.CutRange
namespace Go.Proofs.YtejnhpjejcpekaaGreatDoor
open Go.RowKit
set_option linter.unusedVariables false
set_option linter.unusedSimpArgs false
set_option maxHeartbeats 8000000
structure DvI (w wr : World) (B s g : Nat) (e : Ent) (m k M : Nat) (zs : List Int) (x : Int) (us : List Ent) (f : Ent) : Prop where
  row : Row2 wr g 26 us
  len : us.length = m
  ev : ∀ j, j < k → NV B wr M (pv x zs (j + 1)) (ge us j) ∧ (0 < (ge us j).n → Off g (ge us j).p ∧ Off (g + 1) (ge us j).p)
  ab : Bx wr (g + 1) (.bool f.s) (.slice f.p f.n f.c)
  av : NV B wr M (pv x zs k) f
  ao : 0 < f.n → Off g f.p ∧ Off (g + 1) f.p
  bx : Bx wr s (.bool e.s) (.slice e.p e.n e.c)
  bw : Below w.heap.size w wr
  md : ∀ j, j < k → (pv x zs j - gx zs j) % x = 0
theorem DvI.later {w wr wr' : World} {B s g m k M : Nat} {e f : Ent} {zs : List Int} {x : Int} {us : List Ent} (H : DvI w wr B s g e m k M zs x us f) (hb : Below wr.heap.size wr wr') : DvI w wr' B s g e m k M zs x us f :=
  ⟨H.row.below hb H.row.lt, H.len, fun j hj => ⟨(H.ev j hj).1.below hb, (H.ev j hj).2⟩, H.ab.later hb, H.av.below hb, H.ao, H.bx.later hb, bnext' H.bw hb, H.md⟩
theorem dvi_step {w wr v3 : World} {B s g m k M K3 lo : Nat} {e f c : Ent} {zs : List Int} {x : Int} {us : List Ent} (H : DvI w wr B s g e m k M zs x us f) (hs : s = w.heap.size) (hsg : s < g) (hb : Below wr.heap.size wr v3) (hB : B ≤ w.heap.size) (hN : NV lo v3 K3 (pv x zs (k + 1)) c) (hlo : g + 1 < lo) (hval : ((pv x zs (k + 1)).natAbs : Int) < pw M) (hk : k < m) (hmd : (pv x zs k - gx zs k) % x = 0) :
    DvI w ((((v3.setCell ⟨g, k * 2, none⟩ (.bool c.s)).setCell ⟨g, k * 2 + 1, none⟩ (.slice c.p c.n c.c)).setCell ⟨g + 1, 0, none⟩ (.bool c.s)).setCell ⟨g + 1, 1, none⟩ (.slice c.p c.n c.c)) B s g e m (k + 1) M zs x (us.set k c) c := by
  have hlt := H.row.lt
  have hlb := block_lt_of_cell H.ab.c0
  simp only at hlb
  have ho : Off g c.p ∧ Off (g + 1) c.p := ⟨nv_off hN (by omega), nv_off hN (by omega)⟩
  have hwr := H.bw.size
  have hR := (H.row.below hb hlt).set k c (by rw [H.len]; omega)
  have hX := Bx_any (o := 0) (u := .bool c.s) (v := .slice c.p c.n c.c) (g := g + 1) (Bx_any (o := k * 2) (u := .bool c.s) (v := .slice c.p c.n c.c) (g := g) (H.bx.later hb) (by omega)) (by omega)
  have hb5 := ((((H.bw.trans (hb.mono hwr)).setCell (p := ⟨g, k * 2, none⟩) (by simp only; omega) (.bool c.s)).setCell (p := ⟨g, k * 2 + 1, none⟩) (by simp only; omega) (.slice c.p c.n c.c)).setCell (p := ⟨g + 1, 0, none⟩) (by simp only; omega) (.bool c.s)).setCell (p := ⟨g + 1, 1, none⟩) (by simp only; omega) (.slice c.p c.n c.c)
  have hR2 := (hR.set_other ⟨g + 1, 0, none⟩ (.bool c.s) (by simp only; omega)).set_other ⟨g + 1, 1, none⟩ (.slice c.p c.n c.c) (by simp only; omega)
  have hc := (((hN.mono (show B ≤ lo by omega)).le hval).set2o (g := g) (o := k * 2) (u := .bool c.s) (v := .slice c.p c.n c.c) fun _ => ho.1).set2o (g := g + 1) (o := 0) (u := .bool c.s) (v := .slice c.p c.n c.c) fun _ => ho.2
  refine ⟨hR2, by simpa using H.len, fun j hj => ?_, Bx_set (Bx_any (o := k * 2) (u := .bool c.s) (v := .slice c.p c.n c.c) (g := g) (H.ab.later hb) (by omega)), hc, fun _ => ho, hX, hb5, fun j hj => ?_⟩
  · rcases Nat.lt_or_ge j k with h' | h'
    · rw [ge_set_other _ _ _ _ (by omega)]
      obtain ⟨a, b⟩ := H.ev j h'
      exact ⟨((a.below hb).set2o fun h0 => (b h0).1).set2o fun h0 => (b h0).2, b⟩
    · obtain rfl : j = k := by omega
      rw [ge_set_same _ _ _ (by rw [H.len]; omega)]
      exact ⟨hc, fun _ => ho⟩
  · rcases Nat.lt_or_ge j k with h' | h'
    · exact H.md j h'
    · obtain rfl : j = k := by omega
      exact hmd
set_option maxRecDepth 100000 in
theorem rtdiv_nz {w : World} {B K L : Nat} {p : Option Addr} {n nc : Nat} {es : List Ent} {zs : List Int} {x : Int} {e : Ent} (h : PC B w K p n nc es zs) (hB : B ≤ w.heap.size) (hx : EV w L x e) (hx0 : x ≠ 0) (hn : n ≤ 1000) (hn1 : 1 ≤ n) (hK : K ≤ 70) (hL : L ≤ 70) :
    Calls Tryz.prog 98 #[.slice p n nc, .agg #[.bool e.s, .slice e.p e.n e.c]] w (RdP B x zs n K w) := by
  have HX : Hid (PC B w K p n nc es zs ∧ EV w L x e ∧ x ≠ 0) := ⟨h, hx, hx0⟩
  have hcap := h.cap
  have hbnd : nc ≤ 9223372036854775807 := by have := h.bnd; unfold maxLen at this; omega
  clear h
  obtain ⟨m, rfl⟩ : ∃ m, n = m + 1 := ⟨n - 1, by omega⟩
  have hal := bel_al (o := .cells #[.bool e.s, .slice e.p e.n e.c] 26) (Below.refl w.heap.size w)
  have hs := Sign_ev (HX.out.2.1.below hal)
  have e1 : ((m + 1 : Nat) : Int) - 1 = (m : Int) := by omega
  have hd := isgn_dec x
  rw [decide_eq_false hx0] at hd
  have HAL : Hid (Below w.heap.size w (w.alloc (.cells #[.bool e.s, .slice e.p e.n e.c] 26)) ∧ Bx (w.alloc (.cells #[.bool e.s, .slice e.p e.n e.c] 26)) w.heap.size (.bool e.s) (.slice e.p e.n e.c)) := ⟨hal, Bx.new _ _ _ rfl⟩
  have hmk := mk_poly m (by omega)
  go_enter Tryz.func98, Tryz.ntmps98
  go_wp2_with fail
  go_fit hs
  rintro r w1 ⟨rfl, hb1⟩
  have HB1 : Hid (Below w.heap.size w w1 ∧ Bx w1 w.heap.size (.bool e.s) (.slice e.p e.n e.c) ∧ w.heap.size < w1.heap.size) := ⟨bnext' HAL.out.1 hb1, HAL.out.2.later hb1, by have := hb1.size; simp only [World.size_alloc] at this; omega⟩
  clear hs hal hb1 hx0 hx
  generalize isgn x = sg at *
  have j1 : (0 : Int) ≤ (m : Int) := by omega
  have j2 : (m : Int) ≤ (nc : Int) := by omega
  go_wp2_with fail
  have hg : Hid (w.heap.size < w1.heap.size) := HB1.out.2.2
  have hR0 : Row2 ((w1.alloc (.cells (ca2 (ezs m)) 26)).alloc (.cells #[.bool false, .slice none 0 0] 26)) w1.heap.size 26 (ezs m) :=
    (Row2.new w1 26 (ezs m)).below (bel_al (Below.refl _ _)) (Row2.new w1 26 (ezs m)).lt
  have hab : Bx ((w1.alloc (.cells (ca2 (ezs m)) 26)).alloc (.cells #[.bool false, .slice none 0 0] 26)) (w1.heap.size + 1) (.bool false) (.slice none 0 0) := Bx.new _ _ _ (World.size_alloc ..).symm
  have hW0 : Below w1.heap.size w1 ((w1.alloc (.cells (ca2 (ezs m)) 26)).alloc (.cells #[.bool false, .slice none 0 0] 26)) := bel_al (bel_al (Below.refl _ _))
  have H0 : Hid (DvI w ((w1.alloc (.cells (ca2 (ezs m)) 26)).alloc (.cells #[.bool false, .slice none 0 0] 26)) B w.heap.size w1.heap.size e m 0 (K + 1) zs x (ezs m) ⟨false, none, 0, 0⟩) := ⟨hR0, length_ezs _, fun j hj => absurd hj (Nat.not_lt_zero _), hab, NV.ez _ _ _, fun h => absurd h (Nat.lt_irrefl 0), HB1.out.2.1.later hW0, bnext' HB1.out.1 hW0, fun j hj => absurd hj (Nat.not_lt_zero _)⟩
  generalize (w1.alloc (.cells (ca2 (ezs m)) 26)).alloc (.cells #[.bool false, .slice none 0 0] 26) = W0 at *
  clear hR0 hab hW0 hmk HB1 HAL
  generalize w1.heap.size = g at *
  go_loopw [9, 10, 11, 12, 13, 33] (fun _ _ _ _ _ kv wr => ∃ (k : Nat) (us : List Ent) (f : Ent), k ≤ m ∧ kv = .int .i64 k ∧ Hid (DvI w wr B w.heap.size g e m k (K + 1) zs x us f)) (fun _ _ _ _ _ kv _ => m - (intOf kv).toNat)
  case atStart => exact ⟨0, ezs m, ⟨false, none, 0, 0⟩, Nat.zero_le _, by go_num, H0.out⟩
  case round =>
    clear H0
    obtain ⟨k, us, f, hk, rfl, H⟩ := hrel
    rcases Nat.lt_or_ge k m with hlt | hge
    · have hPA := HX.out.1.below H.out.bw
      obtain ⟨b, o, hp, hc⟩ := hPA.pn.pl (by rw [hPA.pn.el]; omega)
      subst hp
      obtain ⟨c0, c1⟩ := hc k (by rw [hPA.pn.el]; omega)
      have hv := (hPA.pn.ev k (by omega)).ev (by omega)
      have i1 : (k : Int) < (m : Int) := by omega
      have hal := bel_al (o := .cells #[.bool (ge es k).s, .slice (ge es k).p (ge es k).n (ge es k).c] 26) (Below.refl wr.heap.size wr)
      have HP : Hid (PC B wr K (some ⟨b, o, none⟩) (m + 1) nc es zs) := hPA
      clear hc hPA
      go_upto_region 9 with fail
      have a0 := cell_later hal H.out.ab.c0
      have a1 := cell_later hal H.out.ab.c1
      have x0 := cell_later hal H.out.bx.c0
      have x1 := cell_later hal H.out.bx.c1
      obtain ⟨e0, e1'⟩ := cells_at wr (.bool (ge es k).s) (.slice (ge es k).p (ge es k).n (ge es k).c) 26
      have hv' := hv.below hal
      have hx' := (HX.out.2.1.below H.out.bw).below hal
      have hf' := (H.out.av.below hal).ev (by omega)
      have HAL : Hid (Below wr.heap.size wr (wr.alloc (.cells #[.bool (ge es k).s, .slice (ge es k).p (ge es k).n (ge es k).c] 26)) ∧ wr.heap.size < (wr.alloc (.cells #[.bool (ge es k).s, .slice (ge es k).p (ge es k).n (ge es k).c] 26)).heap.size) := ⟨hal, by simp⟩
      have hbd := pv_lt (x := x) (HX.out.1.pa (by omega)).gbd k (by omega)
      have hxne := HX.out.2.2
      generalize (wr.alloc (.cells #[.bool (ge es k).s, .slice (ge es k).p (ge es k).n (ge es k).c] 26)) = W1 at *
      clear hal
      go_cut [11, 12, 13] from 34 to 55 (fun cv lv ev wc => ∃ (c l : Ent) (g1 g2 : Nat), cv = .pointer (some ⟨g1, 0, none⟩) ∧ lv = .pointer (some ⟨g2, 0, none⟩) ∧ ev = .int .i64 0 ∧ Hid (QX W1 wc g1 g2 (K + 1 + 3) (K + 1 + L + 1) ((pv x zs k - gx zs k) / x) ((pv x zs k - gx zs k) % x) c l))
      case first =>
        go_region_held3 (fun w' => w'.cell? ⟨g + 1, 0, none⟩ = some (.bool f.s) ∧ w'.cell? ⟨g + 1, 1, none⟩ = some (.slice f.p f.n f.c) ∧ w'.cell? ⟨w.heap.size, 0, none⟩ = some (.bool e.s) ∧ w'.cell? ⟨w.heap.size, 1, none⟩ = some (.slice e.p e.n e.c) ∧ w'.cell? ⟨wr.heap.size, 0, none⟩ = some (.bool (ge es k).s) ∧ w'.cell? ⟨wr.heap.size, 1, none⟩ = some (.slice (ge es k).p (ge es k).n (ge es k).c)) (first | with_reducible exact ⟨a0, a1, x0, x1, e0, e1'⟩ | with_reducible exact K2 | with_reducible exact K3 | (refine keepc6 ⟨a0, a1, x0, x1, e0, e1'⟩ ?_; (repeat (first | (with_reducible exact hW3) | (with_reducible exact hW2) | (with_reducible exact Below.refl _ _) | (refine Bel_al ?_ (Nat.le_refl _)) | (refine Bel_st ?_ ?_) | (refine Below.drew ?_))); all_goals ((try simp only [World.size_alloc]); (try dsimp only); omega)))
          (first
            | (go_at_call 114; go_fit (Sub_ev (hf'.below (by first | exact (Below.refl _ _).drew | exact (bel_al (Below.refl _ _)).drew | exact (bel_al (bel_al (Below.refl _ _))).drew)) (hv'.below (by first | exact (Below.refl _ _).drew | exact (bel_al (Below.refl _ _)).drew | exact (bel_al (bel_al (Below.refl _ _))).drew))); rintro r' v2 ⟨e2, rfl, hN2', hb2⟩; have hN2 := ((unNV hN2').le hbd.2).ev (by omega); clear hN2'; have hB2 := undrew hb2; have hW2 := comp (X2 := W1) (w2 := W1) (Below.refl _ _) (by (repeat apply bel_al); exact Below.refl _ _) hB2; have K2 := keepc6 ⟨a0, a1, x0, x1, e0, e1'⟩ hW2; have t2 := hW2.size; have t2b := hB2.size; obtain ⟨o9, o10, o11, o12⟩ := bne hB2)
            | (go_at_call 189; go_fit (Quo_ev (hN2.below (by (repeat apply bel_al); exact Below.refl _ _)) (hx'.below (bnext' hW2 (by (repeat apply bel_al); exact Below.refl _ _))) hxne (by omega)); rintro r' v3 ⟨c, l, rfl, hN3, hN4, hb3⟩; have hW3 := comp (X2 := W1) (w2 := v2) hW2 (by (repeat apply bel_al); exact Below.refl _ _) hb3; have K3 := keepc6 ⟨a0, a1, x0, x1, e0, e1'⟩ hW3; have t3 := hW3.size; have t3b := hb3.size; obtain ⟨hc3, hf3, hz3, -, -⟩ := brules hb3; obtain ⟨o5, o6, o7, o8⟩ := bne hb3; have hb4 := comp (w2 := v2) hB2 (by (repeat apply bel_al); exact Below.refl _ _) hb3; obtain ⟨hc4, hf4, hz4, -, -⟩ := brules hb4; obtain ⟨o1, o2, o3, o4⟩ := bne hb4))
        all_goals (go_wp2_with fail; go_meet)
        all_goals
          refine ⟨c, l, _, _, rfl, rfl, rfl, ⟨?_, ?_, ?_, ?_, ?_, ?_⟩⟩
          · (repeat (first | exact Bx_new (by simp; done) | refine Bx_set (u := .bool false) (v := .slice none 0 0) ?_ | refine Bx_oth ?_ (by (have h1 := t2; have h2 := t2b; have h3 := t3; have h4 := t3b; (try simp only [World.size_alloc] at h1 h2 h3 h4); (try simp only [World.size_alloc]); (try dsimp only); omega)) | apply Bx_al)); all_goals exact ⟨by simp [go_sem, *], by simp [go_sem, *], by simp [go_sem, *], by simp [go_sem, *]⟩
          · (repeat (first | exact Bx_new (by simp; done) | refine Bx_set (u := .bool false) (v := .slice none 0 0) ?_ | refine Bx_oth ?_ (by (have h1 := t2; have h2 := t2b; have h3 := t3; have h4 := t3b; (try simp only [World.size_alloc] at h1 h2 h3 h4); (try simp only [World.size_alloc]); (try dsimp only); omega)) | apply Bx_al)); all_goals exact ⟨by simp [go_sem, *], by simp [go_sem, *], by simp [go_sem, *], by simp [go_sem, *]⟩
          · (repeat (first | apply NV_al | refine NV_st3 hN3.frm (by (have h1 := t2; have h2 := t2b; have h3 := t3; have h4 := t3b; (try simp only [World.size_alloc] at h1 h2 h3 h4); (try simp only [World.size_alloc]); (try dsimp only); omega)) ?_ | refine NV_st2 hN3.ltb (by (have h1 := t2; have h2 := t2b; have h3 := t3; have h4 := t3b; (try simp only [World.size_alloc] at h1 h2 h3 h4); (try simp only [World.size_alloc]); (try dsimp only); omega)) ?_)); exact hN3.mono (by (have h1 := t2; have h2 := t2b; have h3 := t3; have h4 := t3b; (try simp only [World.size_alloc] at h1 h2 h3 h4); (try simp only [World.size_alloc]); (try dsimp only); omega))
          · (repeat (first | apply NV_al | refine NV_st3 hN4.frm (by (have h1 := t2; have h2 := t2b; have h3 := t3; have h4 := t3b; (try simp only [World.size_alloc] at h1 h2 h3 h4); (try simp only [World.size_alloc]); (try dsimp only); omega)) ?_ | refine NV_st2 hN4.ltb (by (have h1 := t2; have h2 := t2b; have h3 := t3; have h4 := t3b; (try simp only [World.size_alloc] at h1 h2 h3 h4); (try simp only [World.size_alloc]); (try dsimp only); omega)) ?_)); exact hN4.mono (by (have h1 := t2; have h2 := t2b; have h3 := t3; have h4 := t3b; (try simp only [World.size_alloc] at h1 h2 h3 h4); (try simp only [World.size_alloc]); (try dsimp only); omega))
          · (have h1 := t2; have h2 := t2b; have h3 := t3; have h4 := t3b; (try simp only [World.size_alloc] at h1 h2 h3 h4); (try simp only [World.size_alloc]); (try dsimp only); omega)
          · (repeat (first | exact hW3 | refine Bel_al ?_ (Nat.le_refl _) | refine Bel_st ?_ (by (have h1 := t2; have h2 := t2b; have h3 := t3; have h4 := t3b; (try simp only [World.size_alloc] at h1 h2 h3 h4); (try simp only [World.size_alloc]); (try dsimp only); omega))))
      case rest =>
        obtain ⟨c, l, g1, g2, rfl, rfl, rfl, HQ⟩ := hcut
        clear a0 a1 x0 x1 e0 e1' hv' hx' hf' c0 c1 hv
        obtain ⟨q0, q1, -, -⟩ := id HQ.out.b1
        obtain ⟨q2, q3, -, -⟩ := id HQ.out.b2
        have hl := HQ.out.n2.ev (by omega)
        have hz0 := Sign_ev hl
        have hrd := isgn_dec ((pv x zs k - gx zs k) % x)
        have hrm : Hid ((pv x zs k - gx zs k) % x = 0 ∨ ¬ (pv x zs k - gx zs k) % x = 0) := Classical.em _
        go_wp2_with fail
        go_fit hz0
        rintro r v2 ⟨rfl, hb2⟩
        clear hz0 q2 q3 hl
        have HBW : Hid (Below wr.heap.size wr v2) := bnext' (bnext' HAL.out.1 HQ.out.bw) hb2
        rcases hrm.out with hr0 | hr0
        rotate_left
        · rw [decide_eq_false hr0] at hrd
          have HNG : Hid (¬ Dvd zs (lin x)) := fun ⟨q, hq⟩ => hr0 ((mul_goes HX.out.2.2 HX.out.1.pn.zl hq).1.1 k hlt)
          have HBF : Hid (Below w.heap.size w v2) := bnext' H.out.bw HBW.out
          clear hr0 hrm q0 q1 HQ hb2 H HP HBW hbd
          generalize isgn ((pv x zs k - gx zs k) % x) = sr at *
          go_wp2
          refine bodyPost_ret (v := .tuple #[.slice none (0 : Nat) (0 : Nat), .bool false]) (by simp [results, Tryz.results98, go_sem]) rfl ?_
          exact ⟨.inr ⟨none, 0, 0, rfl, HNG.out⟩, HBF.out⟩
        rw [decide_eq_true hr0] at hrd
        have HR0 : Hid ((pv x zs k - gx zs k) % x = 0) := hr0
        clear hr0 hrm
        generalize isgn ((pv x zs k - gx zs k) % x) = sr at *
        have q4 := cell_later hb2 q0
        have q5 := cell_later hb2 q1
        obtain ⟨z0, z1⟩ := (H.out.row.below HBW.out H.out.row.lt).cell k (by rw [H.out.len]; omega)
        have f0 := (H.out.row.below HBW.out H.out.row.lt).frozen (k * 2)
        have f1 := (H.out.row.below HBW.out H.out.row.lt).frozen (k * 2 + 1)
        obtain ⟨a0, a1, a2, a3⟩ := H.out.ab.later HBW.out
        have hlo := HQ.out.lo
        have hWl := HAL.out.2
        have hgl := block_lt_of_cell H.out.ab.c0
        simp only at hgl
        have n1 : g1 ≠ g := by omega
        have n2 : g1 ≠ g + 1 := by omega
        have HST : Hid (DvI w ((((v2.setCell ⟨g, k * 2, none⟩ (.bool c.s)).setCell ⟨g, k * 2 + 1, none⟩ (.slice c.p c.n c.c)).setCell ⟨g + 1, 0, none⟩ (.bool c.s)).setCell ⟨g + 1, 1, none⟩ (.slice c.p c.n c.c)) B w.heap.size g e m (k + 1) (K + 1) zs x (us.set k c) c) := dvi_step H.out rfl hg.out HBW.out hB (HQ.out.n1.below hb2) (by omega) (pv_lt (HX.out.1.pa (by omega)).gbd (k + 1) (by omega)).1 hlt HR0.out
        clear q0 q1 HQ hb2 HBW HR0 H HP hbd hlo hWl hgl
        go_wp2_with fail
        go_region_held3 (fun w' => w'.cell? ⟨g1, 0, none⟩ = some (.bool c.s) ∧ w'.cell? ⟨g1, 1, none⟩ = some (.slice c.p c.n c.c)) (first | with_reducible exact ⟨q4, q5⟩ | (simp [go_sem, *]; done)) (fail)
        all_goals
          have HS2 := (show Hid _ from HST.out.later (Below.refl _ _).drew)
          clear HST q4 q5 z0 z1 f0 f1 a0 a1 a2 a3 n1 n2
          generalize ((((v2.setCell ⟨g, k * 2, none⟩ (.bool c.s)).setCell ⟨g, k * 2 + 1, none⟩ (.slice c.p c.n c.c)).setCell ⟨g + 1, 0, none⟩ (.bool c.s)).setCell ⟨g + 1, 1, none⟩ (.slice c.p c.n c.c)).drew = V6 at *
          go_wp2
          exact ⟨⟨k + 1, us.set k c, c, by omega, by go_num, HS2.out⟩, by simp [intOf]; omega⟩
    · obtain rfl : k = m := by omega
      have hPA := HX.out.1.below H.out.bw
      obtain ⟨b, o, hp, hc⟩ := hPA.pn.pl (by rw [hPA.pn.el]; omega)
      subst hp
      obtain ⟨c0, c1⟩ := hc k (by rw [hPA.pn.el]; omega)
      have hv := (hPA.pn.ev k (by omega)).ev (by omega)
      obtain ⟨a0, a1, -, -⟩ := id H.out.ab
      have ha := H.out.av.ev (by omega)
      have i3 : (k : Int) < (k : Int) + 1 := by omega
      have hd2 := icmp_dec (pv x zs k) (gx zs k)
      clear hc hPA
      go_wp2_with fail
      go_region_held3 (fun w' => w'.cell? ⟨g + 1, 0, none⟩ = some (.bool f.s) ∧ w'.cell? ⟨g + 1, 1, none⟩ = some (.slice f.p f.n f.c) ∧ w'.cell? ⟨b, o + k * 2, none⟩ = some (.bool (ge es k).s) ∧ w'.cell? ⟨b, o + k * 2 + 1, none⟩ = some (.slice (ge es k).p (ge es k).n (ge es k).c)) (first | with_reducible exact ⟨a0, a1, c0, c1⟩ | with_reducible exact ⟨q0, q1, q2, q3⟩ | (simp [go_sem, *]; done))
        (first
          | (go_at_call 153; go_fit (Cmp_ev ha.drew hv.drew); rintro r' v2 ⟨rfl, hb2⟩; have hV2 := undrew hb2; have q0 := cell_later hV2 a0; have q1 := cell_later hV2 a1; have q2 := cell_later hV2 c0; have q3 := cell_later hV2 c1))
      all_goals
        have HF : Hid (DvI w v2 B w.heap.size g e k k (K + 1) zs x us f) := H.out.later hV2
        clear H q0 q1 q2 q3 hV2 hb2 a0 a1 c0 c1 hv ha
        go_wp2
        refine bodyPost_ret (v := .tuple #[.slice (some ⟨g, 0, none⟩) k k, .bool (decide (pv x zs k = gx zs k))]) (by simp [results, Tryz.results98, go_sem, hd2]) rfl ?_
        have hG := HF.out
        have hzl := HX.out.1.pn.zl
        by_cases h9 : pv x zs k = gx zs k
        · rw [decide_eq_true h9]
          have hgo : Goes x zs k := ⟨hG.md, h9⟩
          refine ⟨.inl ⟨some ⟨g, 0, none⟩, k, k, us, qz x zs k, rfl, ⟨⟨hG.len, by simp [qz], qz_nrm hzl (by rw [HX.out.1.pn.nrm, hzl]) hgo, hG.row.pl, fun a ha => by cases ha; have := hg.out; show B ≤ g; omega, fun j hj => ?_⟩, Nat.le_refl _, by unfold maxLen; omega, fun e => by simp at e⟩, rfl, goes_mul hzl hgo⟩, hG.bw⟩
          rw [gx_qz, if_pos hj]
          exact (hG.ev j hj).1
        · rw [decide_eq_false h9]
          exact ⟨.inr ⟨some ⟨g, 0, none⟩, k, k, rfl, fun ⟨q, hq⟩ => h9 (mul_goes HX.out.2.2 hzl hq).1.2⟩, hG.bw⟩
end Go.Proofs.YtejnhpjejcpekaaGreatDoor
