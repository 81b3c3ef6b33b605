/-
  upoly.exactQuotient of any two.
-/
import Derived.Test.YtkjpeehbhmcojaaGreatDoorUyUzUr
namespace Go.Proofs.YtkjpeehbhmcojaaGreatDoor
open Go.RowKit
set_option linter.unusedVariables false
set_option linter.unusedSimpArgs false
set_option maxHeartbeats 8000000
structure DQ (zs ys : List Int) (cs : Nat → Int) (F : Nat → Nat → Int) (n m k M most : Nat) : Prop where
  z : ∀ t, t < n → F k t = gx zs t
  s : ∀ s, s < k → ∀ t, F s t = F (s + 1) t - (if s ≤ t then cs s * gx ys (t - s) else 0)
  c : ∀ s, s < k → cs s = F (s + 1) (m + s) / gx ys m
  mb : ∀ i, i ≤ k → (∀ j, i ≤ j → j < k → zb (cs j) ≤ most) → ∀ t, ((F i t).natAbs : Int) < pw M
  cb : ∀ i, i < k → zb (cs i) ≤ most → ((cs i).natAbs : Int) < pw M
def GD (F : Nat → Nat → Int) (cs : Nat → Int) (y : Int) (m k most : Nat) : Prop := (∀ s, s < k → F (s + 1) (m + s) % y = 0 ∧ zb (cs s) ≤ most) ∧ ∀ t, t < m → F 0 t = 0
def XqP (F : Nat → Nat → Int) (cs : Nat → Int) (y : Int) (m k M most : Nat) (w : World) (r : Ending) (w' : World) : Prop :=
  ((∃ u us, r = .returned (.tuple #[.slice u k k, .bool true]) ∧ us.length = k ∧ PL w' u us ∧ Go.Proofs.YtkjpeehbhmcojaaGreatDoor.From w.heap.size u ∧ (∀ i, i < k → NV w.heap.size w' M (cs i) (ge us i)) ∧ GD F cs y m k most) ∨ (r = .returned (.tuple #[.slice none (0 : Nat) (0 : Nat), .bool false]) ∧ ¬ GD F cs y m k most)) ∧ Below w.heap.size w w'
structure EF (w wr : World) (g gq m k i M : Nat) (F : Nat → Nat → Int) (cs : Nat → Int) (us vs : List Ent) : Prop where
  tr : TR wr g gq (m + i) M us (F i)
  row : Row2 wr gq 47 vs
  vl : vs.length = k
  q : ∀ j, i ≤ j → j < k → NV (gq + 1) wr M (cs j) (ge vs j)
  bw : Below w.heap.size w wr
theorem exactf_step {w wr wc v3 : World} {g gq g1 g2 m k s M L : Nat} {F : Nat → Nat → Int} {cs : Nat → Int} {rem : Int} {us vs : List Ent} {c l : Ent} (hE : EF w wr g gq m k (s + 1) M F cs us vs) (hQ : QX wr wc g1 g2 (M + 3) (M + L + 1) (cs s) rem c l) (hb : Below wc.heap.size wc v3) (hsk : s < k) (hgl : g < gq) (hwg : w.heap.size ≤ gq) (hqM : ((cs s).natAbs : Int) < pw M) (hM : M < 80) :
    TR ((v3.setCell ⟨gq, s * 2, none⟩ (.bool c.s)).setCell ⟨gq, s * 2 + 1, none⟩ (.slice c.p c.n c.c)) g gq (s + m) M us (F (s + 1)) ∧ Row2 ((v3.setCell ⟨gq, s * 2, none⟩ (.bool c.s)).setCell ⟨gq, s * 2 + 1, none⟩ (.slice c.p c.n c.c)) gq 47 (vs.set s c) ∧
      (∀ j, s ≤ j → j < k → NV (gq + 1) ((v3.setCell ⟨gq, s * 2, none⟩ (.bool c.s)).setCell ⟨gq, s * 2 + 1, none⟩ (.slice c.p c.n c.c)) M (cs j) (ge (vs.set s c) j)) ∧ EV ((v3.setCell ⟨gq, s * 2, none⟩ (.bool c.s)).setCell ⟨gq, s * 2 + 1, none⟩ (.slice c.p c.n c.c)) M (cs s) c ∧
      (0 < c.n → Off g c.p) ∧ Bx ((v3.setCell ⟨gq, s * 2, none⟩ (.bool c.s)).setCell ⟨gq, s * 2 + 1, none⟩ (.slice c.p c.n c.c)) g1 (.bool c.s) (.slice c.p c.n c.c) ∧ Below w.heap.size w ((v3.setCell ⟨gq, s * 2, none⟩ (.bool c.s)).setCell ⟨gq, s * 2 + 1, none⟩ (.slice c.p c.n c.c)) ∧ gq < ((v3.setCell ⟨gq, s * 2, none⟩ (.bool c.s)).setCell ⟨gq, s * 2 + 1, none⟩ (.slice c.p c.n c.c)).heap.size := by
  have hB := bnext' hQ.bw hb
  have hlt := hE.row.lt
  have hN := (hQ.n1.below hb).fit hqM
  have hcf := hN.frm
  have hRo := (hE.row.below hB hlt).set s c (by rw [hE.vl]; exact hsk)
  have hs := hB.size
  have hlo := hQ.lo
  have hN' : NV (gq + 1) ((v3.setCell ⟨gq, s * 2, none⟩ (.bool c.s)).setCell ⟨gq, s * 2 + 1, none⟩ (.slice c.p c.n c.c)) M (cs s) c := (hN.mono (by omega)).set2 (Nat.lt_succ_self _) _ _
  refine ⟨⟨?_, by have := hE.tr.len; omega, fun t ht => ?_⟩, hRo, fun j h1 h2 => ?_, hN'.ev (by omega), fun h0 => off_from hcf (by omega), Bx_any (hQ.b1.later hb) (by omega), bset2s (bnext' hE.bw hB) hwg _ _, hRo.lt⟩
  · exact ((hE.tr.row.below hB hE.tr.row.lt).set_other _ _ (by simp; omega)).set_other _ _ (by simp; omega)
  · obtain ⟨h1, h2⟩ := hE.tr.ev t (by omega)
    exact ⟨(h1.below hB).set2 fun h0 => (h2 h0).2, h2⟩
  · rcases Nat.lt_or_ge s j with h | h
    · rw [ge_set_other _ _ _ _ (by omega)]
      exact ((hE.q j (by omega) h2).below hB).set2 (Nat.lt_succ_self _) _ _
    · obtain rfl : j = s := by omega
      rw [ge_set_same _ _ _ (by rw [hE.vl]; exact hsk)]
      exact hN'
theorem exactf_next {w v4 w5 : World} {g gq m k s M : Nat} {F : Nat → Nat → Int} {cs : Nat → Int} {ys : List Int} {us' vs' : List Ent} (hFs : ∀ t, F s t = F (s + 1) t - (if s ≤ t then cs s * gx ys (t - s) else 0)) (hT : TR w5 g gq (s + m) M us' (tkf (F (s + 1)) (cs s) ys s m)) (hg5 : v4.grownBy w5 (some g)) (hRo : Row2 v4 gq 47 vs') (hvl : vs'.length = k) (hNs : ∀ j, s ≤ j → j < k → NV (gq + 1) v4 M (cs j) (ge vs' j)) (hB : Below w.heap.size w v4) (hgl : g < gq) (hwg : w.heap.size ≤ g) : EF w w5 g gq m k s M F cs us' vs' := by
  refine ⟨⟨hT.row, by have := hT.len; omega, fun t ht => ?_⟩, (hg5.block gq hRo.lt (by simp; omega)).trans hRo, hvl, fun j h1 h2 => (hNs j h1 h2).grown hg5 (by omega), below_grown hB hg5 hB.size hwg⟩
  have h := hT.ev t (by omega)
  have e : tkf (F (s + 1)) (cs s) ys s m t = F s t := by
    rw [tkf, hFs t]
    by_cases h1 : s ≤ t
    · rw [if_pos ⟨h1, by omega⟩, if_pos h1]
    · rw [if_neg (by omega), if_neg h1, Int.sub_zero]
  rwa [e] at h
set_option maxRecDepth 100000 in
theorem exact_any {w : World} {B C K L : Nat} {p q : Option Addr} {n m k : Nat} {es fs : List Ent} {zs ys : List Int} {cs : Nat → Int} {F : Nat → Nat → Int} (h : PB B w K p n es zs) (hb : PB C w L q (m + 1) fs ys) (hnk : n = m + k) (hk1 : 1 ≤ k) (hn : n ≤ 1000) (hK : K < 80) (hL : L < 80)
    (M : Nat) (hM : M < 80) (hD : DQ zs ys cs F n m k M (k + pb zs + Lib.bitLen n)) :
    Calls Tryz.prog 26 #[.slice p n n, .slice q (m + 1 : Nat) (m + 1 : Nat)] w (XqP F cs (gx ys m) m k M (k + pb zs + Lib.bitLen n) w) := by
  have hpa := h.pa (by omega)
  have hqa := hb.pa (by omega)
  obtain ⟨m1, hm1⟩ : ∃ m1, m1 = m + 1 := ⟨_, rfl⟩
  rw [← hm1] at hb hqa ⊢
  have hn0 : ¬ (n : Int) = 0 := by omega
  have hn0' : ((n : Int) == 0) = false := by rw [beq_eq_false_iff_ne]; exact hn0
  have e1 : (m1 : Int) - 1 = (m : Int) := by omega
  have e2 : IntKind.i64.wrap (m : Int) = (m : Int) := by rw [IntKind.wrap_i64]; omega
  have e3 : (n : Int) - (m : Int) = (k : Int) := by omega
  have e4 : IntKind.i64.wrap (k : Int) = (k : Int) := by rw [IntKind.wrap_i64]; omega
  have HN : Hid (n = m + k ∧ m1 = m + 1) := ⟨hnk, hm1⟩
  have hkn : k ≤ n := by omega
  have hmn : m < n := by omega
  have hmm : m < m1 := by omega
  have hm3 : m1 ≤ 1001 := by omega
  clear hnk hm1
  have hmk := mk_poly k (by omega)
  go_enter Tryz.func26, Tryz.ntmps26
  go_wp2_with fail
  refine (clone_poly hpa (by omega) (by omega)).mono ?_
  rintro r w1 ⟨g, cap, rfl, hg, hc1, hc2, hr, hb1⟩
  go_wp2_with fail
  have hgl := hr.lt
  have hal := bel_al (o := .cells (ca2 (ezs k)) 47) (Below.refl w1.heap.size w1)
  have hQ0 := Row2.new w1 47 (ezs k)
  have hR0 := hr.below hal hgl
  have hB0 := bnext' hb1 hal
  generalize w1.alloc (.cells (ca2 (ezs k)) 47) = W1 at *
  obtain ⟨gq, hgq⟩ : ∃ gq, gq = w1.heap.size := ⟨_, rfl⟩
  rw [← hgq] at hQ0 hgl ⊢
  have HG : Hid (gq = w1.heap.size) := hgq
  have hwg : w.heap.size ≤ gq := by have := hb1.size; omega
  clear hgq hal
  have hfb := factorBits_any (hpa.below hB0) (by omega) (by omega) k (by omega)
  have hel := h.el
  have hpb := pb_le hpa (by omega)
  refine hfb.mono ?_
  rintro r w2 ⟨rfl, hb2⟩
  clear hfb
  have HE0 : Hid (EF w w2 g gq m k k M F cs es (ezs k)) := by
    refine ⟨⟨hR0.below hb2 hR0.lt, by rw [h.el, HN.out.1]; exact Nat.le_refl _, fun t ht => ?_⟩, hQ0.below hb2 hQ0.lt, length_ezs k, fun j h1 h2 => absurd h1 (by omega), bnext' hB0 hb2⟩
    have ht' : t < n := by have := HN.out.1; omega
    have hv := hpa.ev t ht'
    refine ⟨?_, fun h0 => ?_⟩
    · have h1 := (hv.below (bnext' hB0 hb2))
      have := (h.ev t ht').below (bnext' hB0 hb2)
      rw [← hD.z t ht'] at this
      exact this.fitE (hD.mb k (Nat.le_refl _) (fun j h1 h2 => by omega) t)
    · obtain ⟨xs, q1, -⟩ := hv
      exact ⟨q1.rd.off (by omega) (by rw [q1.len]; exact h0), q1.rd.off (by omega) (by rw [q1.len]; exact h0)⟩
  generalize hmost : k + pb zs + Lib.bitLen n = most at *
  have HM := (show Hid _ from hmost)
  have HBD : Hid (DQ zs ys cs F n m k M most) := hD
  have hyt := hb.nrm
  have hyl := hb.zl
  have hyne : gx ys m ≠ 0 := by
    have := tlen_top ys (by omega)
    rw [hyt] at this
    rwa [show m1 - 1 = m from by have := HN.out.2; omega] at this
  have hmB : most ≤ 1000000 := by
    have h1 := HM.out
    have h2 := bitLen_le n
    have h3 : pb zs ≤ 32 * K := hpb
    omega
  clear hmost hD hR0 hQ0 hB0 hb1 hb2 hr hmk hpb h hpa
  have HC2 : Hid (cap ≤ maxLen) := hc2
  have hc3 : cap ≤ 9223372036854775807 := by unfold maxLen at hc2; omega
  clear hc2
  go_wp2_with fail
  go_loopw [10, 11, 12, 13] (fun kv cv lv ev wr => ∃ (i : Nat) (us vs : List Ent), i ≤ k ∧ kv = .int .i64 ((i : Int) - 1) ∧ Hid ((us.length = n ∧ EF w wr g gq m k i M F cs us vs) ∧ ∀ j, i ≤ j → j < k → F (j + 1) (m + j) % gx ys m = 0 ∧ zb (cs j) ≤ most)) (fun kv _ _ _ _ => (intOf kv + 1).toNat)
  case atStart => exact ⟨k, es, ezs k, Nat.le_refl _, by go_num, ⟨hel, HE0.out⟩, fun j h1 h2 => by omega⟩
  case round =>
    clear HE0
    obtain ⟨i, us, vs, hi, rfl, HI⟩ := hrel
    rcases Nat.eq_zero_or_pos i with h0 | h0
    · subst h0
      obtain ⟨⟨hul, hE⟩, hG⟩ := HI.out
      have hP0 : PA wr M (some ⟨g, 0, none⟩) m cap (us.take m) ((List.range m).map (F 0)) := by
        have hl := hE.tr.len
        refine ⟨by simp; omega, by simp, by omega, HC2.out, fun e => by simp at e, hE.tr.row.pl.take m, fun j hj => ?_⟩
        have h1 := (hE.tr.ev j (by omega)).1
        rw [ge_take _ _ _ hj, gx_mem _ _ (by simpa using hj)]
        simpa using h1
      have hzt : tlen ((List.range m).map (F 0)) = 0 ↔ ∀ t, t < m → F 0 t = 0 := by
        have hgx : ∀ t, t < m → gx ((List.range m).map (F 0)) t = F 0 t := fun t ht => by rw [gx_mem _ _ (by simpa using ht)]; simp
        refine ⟨fun h9 t ht => ?_, fun h9 => tlen_eq _ 0 (fun t _ => ?_) (.inl rfl)⟩
        · rw [← hgx t ht]
          exact tlen_zero _ t (by omega)
        · rcases Nat.lt_or_ge t m with h8 | h8
          · rw [hgx t h8]; exact h9 t h8
          · exact gx_past _ m (by simp) t h8
      have htl : tlen ((List.range m).map (F 0)) ≤ m := by have := tlen_le ((List.range m).map (F 0)); simpa using this
      have HZ : Hid ((tlen ((List.range m).map (F 0)) = 0 ↔ ∀ t, t < m → F 0 t = 0) ∧ ∀ j, j < k → F (j + 1) (m + j) % gx ys m = 0 ∧ zb (cs j) ≤ most) := ⟨hzt, fun j hj => hG j (Nat.zero_le _) hj⟩
      have htr := utrim_any M _ _ _ _ _ wr hP0 (by omega)
      have HE : Hid (EF w wr g gq m k 0 M F cs us vs) := hE
      generalize tlen ((List.range m).map (F 0)) = tz at *
      clear hzt hP0 hE hG
      have j1 : (m : Int) ≤ (cap : Int) := by omega
      have j2 : ((0 : Nat) : Int) - 1 = -1 := by omega
      rw [j2]
      go_wp2_with fail
      refine htr.mono ?_
      rintro r w5 ⟨rfl, hb5⟩
      clear htr
      have hcs : Hid (tz = 0 ∨ 0 < tz) := by show _ ∨ _; omega
      rcases hcs.out with h9 | h9
      · subst h9
        clear hcs
        go_wp2
        go_ret2
        obtain ⟨-, h1, h2, h3, h4⟩ := HE.out
        exact ⟨.inl ⟨_, vs, rfl, h2, (h1.below hb5 h1.lt).pl, from_new hwg, fun i hi => ((h3 i (Nat.zero_le _) hi).below hb5).mono (by omega), HZ.out.2, HZ.out.1.1 (by trivial)⟩, bnext' h4 hb5⟩
      · have j3 : (0 : Int) < (tz : Int) := by omega
        clear hcs
        go_wp2
        go_ret2
        exact ⟨.inr ⟨rfl, fun hg => by have := HZ.out.1.2 hg.2; omega⟩, bnext' HE.out.bw hb5⟩
    · obtain ⟨s, rfl⟩ : ∃ s, i = s + 1 := ⟨i - 1, by omega⟩
      have hk1' : ((s + 1 : Nat) : Int) - 1 = (s : Int) := by omega
      rw [hk1']
      clear hk1'
      obtain ⟨⟨hul, hE⟩, hG⟩ := HI.out
      obtain ⟨ms, hms⟩ : ∃ ms, ms = m + s := ⟨_, rfl⟩
      have HMS : Hid (ms = m + s) := hms
      obtain ⟨x0, x1⟩ := hE.tr.row.cell ms (by have := hE.tr.len; omega)
      have hx := (hE.tr.ev ms (by omega)).1
      have hQA := hqa.below hE.bw
      obtain ⟨b, o, hq', hd⟩ := hQA.pl (by rw [hqa.el]; omega)
      subst hq'
      obtain ⟨d0, d1⟩ := hd m (by rw [hqa.el]; omega)
      have hy := hQA.ev m hmm
      have i1 : IntKind.i64.wrap (ms : Int) = (ms : Int) := by rw [IntKind.wrap_i64]; omega
      have i2 : (ms : Int) < (n : Int) := by have := HN.out.1; omega
      have i3 : (m : Int) < (m1 : Int) := by omega
      have i4 : (0 : Int) ≤ (s : Int) := by omega
      have i5 : (s : Int) + (m : Int) = (ms : Int) := by omega
      have HSC : Hid (cs s = F (s + 1) ms / gx ys m ∧ (∀ j, s + 1 ≤ j → j < k → F (j + 1) (m + j) % gx ys m = 0 ∧ zb (cs j) ≤ most) ∧ F (s + 1) ms % gx ys m = F (s + 1) (m + s) % gx ys m) := ⟨by rw [hms]; exact HBD.out.c s (by omega), hG, by rw [hms]⟩
      clear hms hG
      clear hd hQA hE
      go_wp2_with fail
      go_cut [11, 12, 13] from 34 to 74 (fun cv lv ev wc => ∃ (c l : Ent) (g1 g2 : Nat), cv = .pointer (some ⟨g1, 0, none⟩) ∧ lv = .pointer (some ⟨g2, 0, none⟩) ∧ ev = .int .i64 0 ∧ Hid (QX wr wc g1 g2 (M + 3) (M + L + 1) (cs s) (F (s + 1) ms % gx ys m) c l))
      case first =>
        have hlg : g < wr.heap.size := block_lt_of_cell x0
        have hlb : b < wr.heap.size := block_lt_of_cell d0
        go_region_held3 (fun w' => w'.cell? ⟨g, ms * 2, none⟩ = some (.bool (ge us ms).s) ∧ w'.cell? ⟨g, ms * 2 + 1, none⟩ = some (.slice (ge us ms).p (ge us ms).n (ge us ms).c) ∧ w'.cell? ⟨b, o + m * 2, none⟩ = some (.bool (ge fs m).s) ∧ w'.cell? ⟨b, o + m * 2 + 1, none⟩ = some (.slice (ge fs m).p (ge fs m).n (ge fs m).c)) (first | with_reducible exact ⟨x0, x1, d0, d1⟩ | with_reducible exact ⟨y0, y1, y2, y3⟩ | (refine keep4B ⟨x0, x1, d0, d1⟩ hlg hlb ?_; (repeat (first | (with_reducible exact hW1) | (with_reducible exact Below.refl _ _) | (refine Bel_al ?_ (Nat.le_refl _)) | (refine Bel_st ?_ ?_) | (refine Below.drew ?_))); all_goals ((try simp only [World.size_alloc]); (try dsimp only); omega)))
          ((go_at_call 63; refine (Quo_ev (hx.below (by first | exact (Below.refl _ _).drew | exact (bel_al (Below.refl _ _)).drew | exact (bel_al (bel_al (Below.refl _ _))).drew)) (hy.below (by first | exact (Below.refl _ _).drew | exact (bel_al (Below.refl _ _)).drew | exact (bel_al (bel_al (Below.refl _ _))).drew)) hyne (by omega)).mono ?_; rintro r v1 ⟨c, l, rfl, hN1', hN2', hb1⟩; have hN1 := unNV hN1'; have hN2 := unNV hN2'; clear hN1' hN2'; have hB1 := undrew hb1; have hW1 := comp (X2 := wr) (w2 := wr) (Below.refl _ _) (by (repeat apply bel_al); exact Below.refl _ _) hB1; have y0 := cell_later hW1 x0; have y1 := cell_later hW1 x1; have y2 := cell_later hW1 d0; have y3 := cell_later hW1 d1; obtain ⟨hc2, hf2, hz2, -, -⟩ := brules hB1; obtain ⟨o1, o2, o3, o4⟩ := bne hB1; have t1 := hW1.size; have t1b := hB1.size))
        all_goals (go_wp2_with fail; go_meet)
        all_goals
          rw [← HSC.out.1] at hN1
          refine ⟨c, l, _, _, rfl, rfl, rfl, ⟨?_, ?_, ?_, ?_, ?_, ?_⟩⟩
          · (repeat (first | exact Bx_new (by simp; done) | refine Bx_set (u := .bool false) (v := .slice none 0 0) ?_ | refine Bx_oth ?_ (by have h1 := t1; have h2 := t1b; (try simp only [World.size_alloc] at h1 h2); (try simp only [World.size_alloc]); (try dsimp only); omega) | apply Bx_al)); all_goals exact ⟨by simp [go_sem, *], by simp [go_sem, *], by simp [go_sem, *], by simp [go_sem, *]⟩
          · (repeat (first | exact Bx_new (by simp; done) | refine Bx_set (u := .bool false) (v := .slice none 0 0) ?_ | refine Bx_oth ?_ (by have h1 := t1; have h2 := t1b; (try simp only [World.size_alloc] at h1 h2); (try simp only [World.size_alloc]); (try dsimp only); omega) | apply Bx_al)); all_goals exact ⟨by simp [go_sem, *], by simp [go_sem, *], by simp [go_sem, *], by simp [go_sem, *]⟩
          · (repeat (first | apply NV_al | refine NV_st3 hN1.frm (by have h1 := t1; have h2 := t1b; (try simp only [World.size_alloc] at h1 h2); (try simp only [World.size_alloc]); (try dsimp only); omega) ?_ | refine NV_st2 hN1.ltb (by have h1 := t1; have h2 := t1b; (try simp only [World.size_alloc] at h1 h2); (try simp only [World.size_alloc]); (try dsimp only); omega) ?_)); exact hN1.mono (by have h1 := t1; have h2 := t1b; (try simp only [World.size_alloc] at h1 h2); (try simp only [World.size_alloc]); (try dsimp only); omega)
          · (repeat (first | apply NV_al | refine NV_st3 hN2.frm (by have h1 := t1; have h2 := t1b; (try simp only [World.size_alloc] at h1 h2); (try simp only [World.size_alloc]); (try dsimp only); omega) ?_ | refine NV_st2 hN2.ltb (by have h1 := t1; have h2 := t1b; (try simp only [World.size_alloc] at h1 h2); (try simp only [World.size_alloc]); (try dsimp only); omega) ?_)); exact hN2.mono (by have h1 := t1; have h2 := t1b; (try simp only [World.size_alloc] at h1 h2); (try simp only [World.size_alloc]); (try dsimp only); omega)
          · (have h1 := t1; have h2 := t1b; (try simp only [World.size_alloc] at h1 h2); (try simp only [World.size_alloc]); (try dsimp only); omega)
          · (repeat (first | exact hW1 | refine Bel_al ?_ (Nat.le_refl _) | refine Bel_st ?_ (by have h1 := t1; have h2 := t1b; (try simp only [World.size_alloc] at h1 h2); (try simp only [World.size_alloc]); (try dsimp only); omega)))
      case rest =>
        obtain ⟨c, l, g1, g2, rfl, rfl, rfl, HQ⟩ := hcut
        clear x0 x1 d0 d1 hx hy
        obtain ⟨q0, q1, -, -⟩ := id HQ.out.b1
        obtain ⟨q2, q3, -, -⟩ := id HQ.out.b2
        have hl := HQ.out.n2.ev (by omega)
        have hz0 := isZero_any hl
        have hrm : Hid (F (s + 1) ms % gx ys m = 0 ∨ ¬ F (s + 1) ms % gx ys m = 0) := Classical.em _
        go_wp2_with fail
        refine hz0.mono ?_
        rintro r v2 ⟨rfl, hb2⟩
        clear hz0 q2 q3 hl
        rcases hrm.out with hr0 | hr0
        rotate_left
        · rw [decide_eq_false hr0]
          have HNG : Hid (¬ GD F cs (gx ys m) m k most) := fun hg => hr0 (by rw [HSC.out.2.2]; exact (hg.1 s (by omega)).1)
          have HBW : Hid (Below w.heap.size w v2) := bnext' (bnext' HI.out.1.2.bw HQ.out.bw) hb2
          clear hr0 hrm q0 q1 HQ hb2 HI HBD HSC
          go_wp2
          go_ret2
          exact ⟨.inr ⟨rfl, HNG.out⟩, HBW.out⟩
        rw [decide_eq_true hr0]
        have HR0 : Hid (F (s + 1) (m + s) % gx ys m = 0) := by show _ = _; rw [← HSC.out.2.2]; exact hr0
        clear hr0 hrm
        have q4 := cell_later hb2 q0
        have q5 := cell_later hb2 q1
        have hcv := (HQ.out.n1.below hb2).ev (by omega)
        have hzbs : Hid (zb (cs s) ≤ most ∨ most < zb (cs s)) := by show _ ∨ _; omega
        go_wp2_with fail
        refine (Bits_ev hcv).mono ?_
        rintro r v3 ⟨rfl, hb3⟩
        rcases hzbs.out with hzb0 | hzb0
        rotate_left
        · have hzb1 : (most : Int) < (zb (cs s) : Int) := by omega
          have HNG : Hid (¬ GD F cs (gx ys m) m k most) := fun hg => by have := (hg.1 s (by omega)).2; omega
          have HBW : Hid (Below w.heap.size w v3) := bnext' (bnext' (bnext' HI.out.1.2.bw HQ.out.bw) hb2) hb3
          clear hzbs q0 q1 q4 q5 HQ hb2 hb3 HI HBD HSC HR0 hcv
          go_wp2
          go_ret2
          exact ⟨.inr ⟨rfl, HNG.out⟩, HBW.out⟩
        have hzb : (zb (cs s) : Int) ≤ (most : Int) := by omega
        have HGS : Hid (∀ j, s ≤ j → j < k → F (j + 1) (m + j) % gx ys m = 0 ∧ zb (cs j) ≤ most) := fun j h1 h2 => by
          rcases Nat.lt_or_ge s j with h9 | h9
          · exact HSC.out.2.1 j h9 h2
          · obtain rfl : j = s := by omega
            exact ⟨HR0.out, hzb0⟩
        clear hzbs HSC HR0
        have q6 := cell_later hb3 q4
        have q7 := cell_later hb3 q5
        clear q0 q1 q4 q5
        obtain ⟨⟨-, hE⟩, -⟩ := HI.out
        have hqM : ((cs s).natAbs : Int) < pw M := HBD.out.cb s (by omega) hzb0
        have hS := exactf_step hE HQ.out (bnext' hb2 hb3) (by omega) hgl hwg hqM hM
        have hB3 := bnext' HQ.out.bw (bnext' hb2 hb3)
        have hro := hE.row.below hB3 hE.row.lt
        obtain ⟨z0, z1⟩ := hro.cell s (by rw [hE.vl]; omega)
        have f0 := hro.frozen (s * 2)
        have f1 := hro.frozen (s * 2 + 1)
        have HS := (show Hid _ from hS)
        have hvl : (vs.set s c).length = k := by rw [List.length_set]; exact hE.vl
        have j1 : (s : Int) < (k : Int) := by omega
        have j2 : (ms : Int) ≤ (cap : Int) := by omega
        have j3 : (s : Int) ≤ (ms : Int) := by omega
        have j4 : (ms : Int) - (s : Int) = (m : Int) := by omega
        clear hE hS hB3 hro hb2 hb3 HQ hcv hqM
        go_upto_region 14 with fail
        obtain ⟨t1, t2, t3, t4, t5, t6, t7, t8⟩ := HS.out
        clear HS z0 z1 f0 f1 q6 q7
        generalize (v3.setCell ⟨gq, s * 2, none⟩ (.bool c.s)).setCell ⟨gq, s * 2 + 1, none⟩ (.slice c.p c.n c.c) = v4 at *
        obtain ⟨q8, q9, -, -⟩ := id t6
        obtain ⟨rc, hrc⟩ : ∃ rc, rc = cap - s := ⟨_, rfl⟩
        have j5 : (cap : Int) - (s : Int) = (rc : Int) := by omega
        have j6 : ms - s = m := by omega
        have j7 : cap - s = rc := by omega
        have hdr : Below v4.heap.size v4 v4.drew := (Below.refl _ _).drew
        have htk := utake_any (g := g) (g2 := gq) (o := s) (r := m) (rc := rc) (t1.below hdr) t8 ((hqa.below t7).below hdr) (hqa.pl.off hg (by rw [hqa.el]; omega)) (fun j hj h0 => by obtain ⟨xs, k1, -⟩ := hqa.ev j hj; exact k1.rd.off hg (by rw [k1.len]; exact h0)) (t4.below hdr) t5 (by omega) (by omega) (by omega) (by omega) (by omega) (by omega) (by omega) (by omega) (fun t h1 h2 => by
          have e := HBD.out.s s (by omega) t
          rw [if_pos h1] at e
          rw [← e]
          exact HBD.out.mb s (by omega) (fun j h3 h4 => (HGS.out j h3 h4).2) t)
        have HX : Hid (Row2 v4 gq 47 (vs.set s c) ∧ (∀ j, s ≤ j → j < k → NV (gq + 1) v4 M (cs j) (ge (vs.set s c) j)) ∧ Below w.heap.size w v4) := ⟨t2, t3, t7⟩
        clear hrc t1 t2 t3 t4 t5 t6 t7 t8
        go_region_with ((go_at_call 66; go_fit htk; rintro r w5 ⟨us', rfl, hul', hT, hG⟩))
        all_goals
          have hnx := exactf_next (k := k) (HBD.out.s s (by omega)) hT (undrewG hG) HX.out.1 hvl HX.out.2.1 HX.out.2.2 hgl hg
          have HNX := (show Hid _ from hnx)
          clear hnx hT hG htk q8 q9
          go_wp2
          refine ⟨⟨s, us', vs.set s c, by omega, rfl, ⟨?_, HNX.out⟩, HGS.out⟩, ?_⟩
          · rw [hul']; exact hul
          · simp [intOf]
end Go.Proofs.YtkjpeehbhmcojaaGreatDoor
