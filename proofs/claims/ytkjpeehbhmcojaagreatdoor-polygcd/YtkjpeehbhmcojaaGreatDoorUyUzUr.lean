/-
  upoly.exactQuotient, where it goes.
-/
import Derived.Test.YtkjpeehbhmcojaaGreatDoorByUxUtUvUw
import Derived.Test.YtkjpeehbhmcojaaGreatDoorUoDmVtAfBpBnBoAhAdBsDtAgWvUhAiRzVd
import Derived.Test.YtkjpeehbhmcojaaGreatDoorUmVs
import Derived.Deep.CutRange
import Derived.Deep.DeepFit
import Derived.Deep.RegionHeld3
import Derived.Test.YtkjpeehbhmcojaaGreatDoorCyViDsAeVuWxUpUq
import Derived.StillTailTactics
namespace Go.Proofs.YtkjpeehbhmcojaaGreatDoor
open Go.RowKit
set_option linter.unusedVariables false
set_option linter.unusedSimpArgs false
set_option maxHeartbeats 8000000
theorem pb_le {w : World} {K : Nat} {p : Option Addr} {n nc : Nat} {es : List Ent} {zs : List Int} (h : PA w K p n nc es zs) (hn : n ≤ 1000000) : pb zs ≤ 32 * K := by
  have := pb_le_of zs (32 * K) (fun j hj => zb_le (h.ev j (by rw [← h.zl]; exact hj))) zs.length (Nat.le_refl _)
  rwa [List.take_length] at this
theorem NV_al {B : Nat} {w : World} {K : Nat} {z : Int} {e : Ent} {o : Obj} (h : NV B w K z e) : NV B (w.alloc o) K z e := h.below ((Below.refl _ _).alloc (Nat.le_refl _) o)
theorem NV_st2 {B U : Nat} {w : World} {K : Nat} {z : Int} {e : Ent} {a : Addr} {v : Value} (hU : ∀ x, e.p = some x → x.block < U) (ha : U ≤ a.block) (h : NV B w K z e) : NV B (w.setCell a v) K z e := by
  obtain ⟨xs, h1, h2⟩ := h
  exact ⟨xs, NI_st2 hU ha h1, h2⟩
theorem NV_st3 {B F : Nat} {w : World} {K : Nat} {z : Int} {e : Ent} {a : Addr} {v : Value} (hF : Go.Proofs.YtkjpeehbhmcojaaGreatDoor.From F e.p) (ha : a.block < F) (h : NV B w K z e) : NV B (w.setCell a v) K z e := by
  obtain ⟨xs, h1, h2⟩ := h
  exact ⟨xs, NI_st3 hF ha h1, h2⟩
theorem NV.frm {B : Nat} {w : World} {K : Nat} {z : Int} {e : Ent} (h : NV B w K z e) : Go.Proofs.YtkjpeehbhmcojaaGreatDoor.From B e.p := by
  obtain ⟨xs, h1, -⟩ := h
  exact h1.fr
theorem NV.grown {B : Nat} {w w' : World} {K g : Nat} {z : Int} {e : Ent} (h : NV B w K z e) (hg : w.grownBy w' (some g)) (hB : g < B) : NV B w' K z e := by
  obtain ⟨xs, h1, h2⟩ := h
  exact ⟨xs, ⟨h1.len, h1.rd.keptOff hg (off_from h1.fr hB), h1.u, h1.nrm, h1.sg, h1.pn, h1.v, h1.fr, h1.fz.kept hg (fun a ha e => by have := h1.fr a ha; have := Option.some.inj e; omega)⟩, h2⟩
theorem unNV {w v : World} {K : Nat} {z : Int} {e : Ent} (h : NV w.drew.heap.size v K z e) : NV w.heap.size v K z e := h
theorem bset2s {B g o : Nat} {a b : World} (h : Below B a b) (hg : B ≤ g) (u v : Value) : Below B a ((b.setCell ⟨g, o, none⟩ u).setCell ⟨g, o + 1, none⟩ v) := (h.setCell (p := ⟨g, o, none⟩) hg u).setCell (p := ⟨g, o + 1, none⟩) hg v
theorem undrewG {W w1 : World} {row : Option Nat} (h : W.drew.grownBy w1 row) : W.grownBy w1 row := ⟨h.os, h.tape, h.output, h.size, h.block⟩
theorem keep4B {w w' : World} {a c i j k l : Nat} {u v x y : Value} (h : w.cell? ⟨a, i, none⟩ = some u ∧ w.cell? ⟨a, j, none⟩ = some v ∧ w.cell? ⟨c, k, none⟩ = some x ∧ w.cell? ⟨c, l, none⟩ = some y) (ha : a < w.heap.size) (hc : c < w.heap.size) (hb : Below w.heap.size w w') : w'.cell? ⟨a, i, none⟩ = some u ∧ w'.cell? ⟨a, j, none⟩ = some v ∧ w'.cell? ⟨c, k, none⟩ = some x ∧ w'.cell? ⟨c, l, none⟩ = some y :=
  ⟨cell_later hb h.1, cell_later hb h.2.1, cell_later hb h.2.2.1, cell_later hb h.2.2.2⟩
structure QX (wr wc : World) (g1 g2 K1 K2 : Nat) (z r : Int) (c l : Ent) : Prop where
  b1 : Bx wc g1 (.bool c.s) (.slice c.p c.n c.c)
  b2 : Bx wc g2 (.bool l.s) (.slice l.p l.n l.c)
  n1 : NV wr.heap.size wc K1 z c
  n2 : NV wr.heap.size wc K2 r l
  lo : wr.heap.size ≤ g1
  bw : Below wr.heap.size wr wc
theorem EN.fitE {w : World} {K M : Nat} {z : Int} {e : Ent} (h : EN w K z e) (hz : (z.natAbs : Int) < pw M) : EV w M z e := by
  obtain ⟨xs, h1, h2, h3, h4, h5⟩ := h
  refine ⟨xs, h1, h2, ?_⟩
  rcases Nat.eq_zero_or_pos e.n with h0 | h0
  · omega
  · have := val_pos_of_top h1.u (by omega)
    rw [h3] at this
    have h6 : (z.natAbs : Int) = val xs := by rw [← h2, ival]; have := val_nonneg h1.u; split <;> omega
    have h7 := pw_lt_of (a := e.n - 1) (b := M) (by omega)
    omega
theorem ps_top (qs ys : List Int) (i m : Nat) (h : ys.length = m + 1) : ps qs ys (i + 1) (m + i) = gx qs i * gx ys m := by
  rw [ps, ps_far qs ys (m + i) i (by omega), if_pos (by omega), Nat.add_sub_cancel, Int.zero_add]
structure EQ (w wr : World) (g gq m k i M : Nat) (qs ys : List Int) (us vs : List Ent) : Prop where
  tr : TR wr g gq (m + i) M us (ps qs ys i)
  row : Row2 wr gq 47 vs
  vl : vs.length = k
  q : ∀ j, i ≤ j → j < k → NV (gq + 1) wr M (gx qs j) (ge vs j)
  bw : Below w.heap.size w wr
theorem exact_step {w wr wc v3 : World} {g gq g1 g2 m k s M L : Nat} {qs ys : List Int} {us vs : List Ent} {c l : Ent} (hE : EQ w wr g gq m k (s + 1) M qs ys us vs) (hQ : QX wr wc g1 g2 (M + 3) (M + L + 1) (gx qs s) 0 c l) (hb : Below wc.heap.size wc v3) (hsk : s < k) (hgl : g < gq) (hwg : w.heap.size ≤ gq) (hqM : ((gx qs s).natAbs : Int) < pw M) (hM : M < 80) :
    TR ((v3.setCell ⟨gq, s * 2, none⟩ (.bool c.s)).setCell ⟨gq, s * 2 + 1, none⟩ (.slice c.p c.n c.c)) g gq (s + m) M us (ps qs ys (s + 1)) ∧ Row2 ((v3.setCell ⟨gq, s * 2, none⟩ (.bool c.s)).setCell ⟨gq, s * 2 + 1, none⟩ (.slice c.p c.n c.c)) gq 47 (vs.set s c) ∧
      (∀ j, s ≤ j → j < k → NV (gq + 1) ((v3.setCell ⟨gq, s * 2, none⟩ (.bool c.s)).setCell ⟨gq, s * 2 + 1, none⟩ (.slice c.p c.n c.c)) M (gx qs j) (ge (vs.set s c) j)) ∧ EV ((v3.setCell ⟨gq, s * 2, none⟩ (.bool c.s)).setCell ⟨gq, s * 2 + 1, none⟩ (.slice c.p c.n c.c)) M (gx qs s) c ∧
      (0 < c.n → Off g c.p) ∧ Bx ((v3.setCell ⟨gq, s * 2, none⟩ (.bool c.s)).setCell ⟨gq, s * 2 + 1, none⟩ (.slice c.p c.n c.c)) g1 (.bool c.s) (.slice c.p c.n c.c) ∧ Below w.heap.size w ((v3.setCell ⟨gq, s * 2, none⟩ (.bool c.s)).setCell ⟨gq, s * 2 + 1, none⟩ (.slice c.p c.n c.c)) ∧ gq < ((v3.setCell ⟨gq, s * 2, none⟩ (.bool c.s)).setCell ⟨gq, s * 2 + 1, none⟩ (.slice c.p c.n c.c)).heap.size := by
  have hB := bnext' hQ.bw hb
  have hlt := hE.row.lt
  have hN := (hQ.n1.below hb).fit hqM
  have hcf := hN.frm
  have hRo := (hE.row.below hB hlt).set s c (by rw [hE.vl]; exact hsk)
  have hs := hB.size
  have hlo := hQ.lo
  have hN' : NV (gq + 1) ((v3.setCell ⟨gq, s * 2, none⟩ (.bool c.s)).setCell ⟨gq, s * 2 + 1, none⟩ (.slice c.p c.n c.c)) M (gx qs s) c := (hN.mono (by omega)).set2 (Nat.lt_succ_self _) _ _
  refine ⟨⟨?_, by have := hE.tr.len; omega, fun t ht => ?_⟩, hRo, fun j h1 h2 => ?_, hN'.ev (by omega), fun h0 => off_from hcf (by omega), Bx_any (hQ.b1.later hb) (by omega), bset2s (bnext' hE.bw hB) hwg _ _, hRo.lt⟩
  · exact ((hE.tr.row.below hB hE.tr.row.lt).set_other _ _ (by simp; omega)).set_other _ _ (by simp; omega)
  · obtain ⟨h1, h2⟩ := hE.tr.ev t (by omega)
    exact ⟨(h1.below hB).set2 fun h0 => (h2 h0).2, h2⟩
  · rcases Nat.lt_or_ge s j with h | h
    · rw [ge_set_other _ _ _ _ (by omega)]
      exact ((hE.q j (by omega) h2).below hB).set2 (Nat.lt_succ_self _) _ _
    · obtain rfl : j = s := by omega
      rw [ge_set_same _ _ _ (by rw [hE.vl]; exact hsk)]
      exact hN'
theorem exact_next {w v4 w5 : World} {g gq m k s M : Nat} {qs ys : List Int} {us' vs' : List Ent} (hT : TR w5 g gq (s + m) M us' (tkf (ps qs ys (s + 1)) (gx qs s) ys s m)) (hg5 : v4.grownBy w5 (some g)) (hRo : Row2 v4 gq 47 vs') (hvl : vs'.length = k) (hNs : ∀ j, s ≤ j → j < k → NV (gq + 1) v4 M (gx qs j) (ge vs' j)) (hB : Below w.heap.size w v4) (hgl : g < gq) (hwg : w.heap.size ≤ g) : EQ w w5 g gq m k s M qs ys us' vs' := by
  refine ⟨⟨hT.row, by have := hT.len; omega, fun t ht => ?_⟩, (hg5.block gq hRo.lt (by simp; omega)).trans hRo, hvl, fun j h1 h2 => (hNs j h1 h2).grown hg5 (by omega), below_grown hB hg5 hB.size hwg⟩
  have h := hT.ev t (by omega)
  have e : tkf (ps qs ys (s + 1)) (gx qs s) ys s m t = ps qs ys s t := by
    rw [tkf, ps]
    by_cases h1 : s ≤ t
    · rw [if_pos ⟨h1, by omega⟩, if_pos h1]; omega
    · rw [if_neg (by omega), if_neg h1]; omega
  rwa [e] at h
set_option maxRecDepth 100000 in
theorem exact_goes {w : World} {B C K L : Nat} {p q : Option Addr} {n m k : Nat} {es fs : List Ent} {zs ys qs : List Int} (h : PB B w K p n es zs) (hb : PB C w L q (m + 1) fs ys) (hql : qs.length = k) (hnk : n = m + k) (hk1 : 1 ≤ k) (hz : ∀ t, t < n → gx zs t = ps qs ys k t) (hn : n ≤ 1000) (hK : K < 80) (hL : L < 80)
    (hbits : ∀ i, i < k → zb (gx qs i) ≤ k + pb zs + Lib.bitLen n) (M : Nat) (hM : M < 80) (hMb : ∀ i t, i ≤ k → ((ps qs ys i t).natAbs : Int) < pw M) :
    Calls Tryz.prog 26 #[.slice p n n, .slice q (m + 1 : Nat) (m + 1 : Nat)] w fun r w' => ∃ u us, r = .returned (.tuple #[.slice u k k, .bool true]) ∧ us.length = k ∧ PL w' u us ∧ Go.Proofs.YtkjpeehbhmcojaaGreatDoor.From w.heap.size u ∧ (∀ i, i < k → NV w.heap.size w' M (gx qs i) (ge us i)) ∧ Below w.heap.size w w' := by
  have hpa := h.pa (by omega)
  have hqa := hb.pa (by omega)
  obtain ⟨m1, hm1⟩ : ∃ m1, m1 = m + 1 := ⟨_, rfl⟩
  rw [← hm1] at hb hqa ⊢
  have hn0 : ¬ (n : Int) = 0 := by omega
  have hn0' : ((n : Int) == 0) = false := by rw [beq_eq_false_iff_ne]; exact hn0
  have e1 : (m1 : Int) - 1 = (m : Int) := by omega
  have e2 : IntKind.i64.wrap (m : Int) = (m : Int) := by rw [IntKind.wrap_i64]; omega
  have e3 : (n : Int) - (m : Int) = (k : Int) := by omega
  have e4 : IntKind.i64.wrap (k : Int) = (k : Int) := by rw [IntKind.wrap_i64]; omega
  have HN : Hid (n = m + k ∧ m1 = m + 1) := ⟨hnk, hm1⟩
  have hkn : k ≤ n := by omega
  have hmn : m < n := by omega
  have hmm : m < m1 := by omega
  have hm3 : m1 ≤ 1001 := by omega
  clear hnk hm1
  have hmk := mk_poly k (by omega)
  go_enter Tryz.func26, Tryz.ntmps26
  go_wp2_with fail
  refine (clone_poly hpa (by omega) (by omega)).mono ?_
  rintro r w1 ⟨g, cap, rfl, hg, hc1, hc2, hr, hb1⟩
  go_wp2_with fail
  have hgl := hr.lt
  have hal := bel_al (o := .cells (ca2 (ezs k)) 47) (Below.refl w1.heap.size w1)
  have hQ0 := Row2.new w1 47 (ezs k)
  have hR0 := hr.below hal hgl
  have hB0 := bnext' hb1 hal
  generalize w1.alloc (.cells (ca2 (ezs k)) 47) = W1 at *
  obtain ⟨gq, hgq⟩ : ∃ gq, gq = w1.heap.size := ⟨_, rfl⟩
  rw [← hgq] at hQ0 hgl ⊢
  have HG : Hid (gq = w1.heap.size) := hgq
  have hwg : w.heap.size ≤ gq := by have := hb1.size; omega
  clear hgq hal
  have hfb := factorBits_any (hpa.below hB0) (by omega) (by omega) k (by omega)
  have hel := h.el
  have hpb := pb_le hpa (by omega)
  refine hfb.mono ?_
  rintro r w2 ⟨rfl, hb2⟩
  clear hfb
  have HE0 : Hid (EQ w w2 g gq m k k M qs ys es (ezs k)) := by
    refine ⟨⟨hR0.below hb2 hR0.lt, by rw [h.el, HN.out.1]; exact Nat.le_refl _, fun t ht => ?_⟩, hQ0.below hb2 hQ0.lt, length_ezs k, fun j h1 h2 => absurd h1 (by omega), bnext' hB0 hb2⟩
    have ht' : t < n := by have := HN.out.1; omega
    have hv := hpa.ev t ht'
    refine ⟨?_, fun h0 => ?_⟩
    · have h1 := (hv.below (bnext' hB0 hb2))
      rw [hz t ht'] at h1
      have := (h.ev t ht').below (bnext' hB0 hb2)
      rw [hz t ht'] at this
      exact this.fitE (hMb k t (Nat.le_refl _))
    · obtain ⟨xs, q1, -⟩ := hv
      exact ⟨q1.rd.off (by omega) (by rw [q1.len]; exact h0), q1.rd.off (by omega) (by rw [q1.len]; exact h0)⟩
  generalize hmost : k + pb zs + Lib.bitLen n = most at *
  have HM := (show Hid _ from hmost)
  have HBD : Hid ((∀ i, i < k → zb (gx qs i) ≤ most) ∧ (∀ i t, i ≤ k → ((ps qs ys i t).natAbs : Int) < pw M)) := ⟨hbits, hMb⟩
  have hyt := hb.nrm
  have hyl := hb.zl
  have hyne : gx ys m ≠ 0 := by
    have := tlen_top ys (by omega)
    rw [hyt] at this
    rwa [show m1 - 1 = m from by have := HN.out.2; omega] at this
  have hmB : most ≤ 1000000 := by
    have h1 := HM.out
    have h2 := bitLen_le n
    have h3 : pb zs ≤ 32 * K := hpb
    omega
  clear hmost hbits hMb hz hR0 hQ0 hB0 hb1 hb2 hr hmk hpb h hpa
  have HC2 : Hid (cap ≤ maxLen) := hc2
  have hc3 : cap ≤ 9223372036854775807 := by unfold maxLen at hc2; omega
  clear hc2
  go_wp2_with fail
  go_loopw [10, 11, 12, 13] (fun kv cv lv ev wr => ∃ (i : Nat) (us vs : List Ent), i ≤ k ∧ kv = .int .i64 ((i : Int) - 1) ∧ Hid (us.length = n ∧ EQ w wr g gq m k i M qs ys us vs)) (fun kv _ _ _ _ => (intOf kv + 1).toNat)
  case atStart => exact ⟨k, es, ezs k, Nat.le_refl _, by go_num, hel, HE0.out⟩
  case round =>
    clear HE0
    obtain ⟨i, us, vs, hi, rfl, HI⟩ := hrel
    rcases Nat.eq_zero_or_pos i with h0 | h0
    · subst h0
      obtain ⟨hul, hE⟩ := HI.out
      have hP0 : PA wr M (some ⟨g, 0, none⟩) m cap (us.take m) (zeros m) := by
        have hl := hE.tr.len
        refine ⟨by simp; omega, by simp [zeros], by omega, HC2.out, fun e => by simp at e, hE.tr.row.pl.take m, fun j hj => ?_⟩
        have h1 := (hE.tr.ev j (by omega)).1
        rw [ge_take _ _ _ hj, gx_zeros]
        exact h1
      have hT0 : tlen (zeros m) = 0 := tlen_eq _ 0 (fun j _ => gx_zeros m j) (.inl rfl)
      have htr := utrim_any M _ _ _ _ _ wr hP0 (by omega)
      rw [hT0] at htr
      have HE : Hid (EQ w wr g gq m k 0 M qs ys us vs) := hE
      clear hT0 hP0 hE
      have j1 : (m : Int) ≤ (cap : Int) := by omega
      have j2 : ((0 : Nat) : Int) - 1 = -1 := by omega
      rw [j2]
      go_wp2_with fail
      refine htr.mono ?_
      rintro r w5 ⟨rfl, hb5⟩
      clear htr
      go_wp2
      go_ret2
      obtain ⟨-, h1, h2, h3, h4⟩ := HE.out
      refine ⟨_, vs, rfl, h2, (h1.below hb5 h1.lt).pl, from_new hwg, fun i hi => ((h3 i (Nat.zero_le _) hi).below hb5).mono (by omega), bnext' h4 hb5⟩
    · obtain ⟨s, rfl⟩ : ∃ s, i = s + 1 := ⟨i - 1, by omega⟩
      have hk1' : ((s + 1 : Nat) : Int) - 1 = (s : Int) := by omega
      rw [hk1']
      clear hk1'
      obtain ⟨hul, hE⟩ := HI.out
      obtain ⟨ms, hms⟩ : ∃ ms, ms = m + s := ⟨_, rfl⟩
      have HMS : Hid (ms = m + s) := hms
      obtain ⟨x0, x1⟩ := hE.tr.row.cell ms (by have := hE.tr.len; omega)
      have hx := (hE.tr.ev ms (by omega)).1
      have hpt : ps qs ys (s + 1) ms = gx qs s * gx ys m := by rw [hms]; exact ps_top qs ys s m (by rw [hyl]; exact HN.out.2)
      rw [hpt] at hx
      have hQA := hqa.below hE.bw
      obtain ⟨b, o, hq', hd⟩ := hQA.pl (by rw [hqa.el]; omega)
      subst hq'
      obtain ⟨d0, d1⟩ := hd m (by rw [hqa.el]; omega)
      have hy := hQA.ev m hmm
      have i1 : IntKind.i64.wrap (ms : Int) = (ms : Int) := by rw [IntKind.wrap_i64]; omega
      have i2 : (ms : Int) < (n : Int) := by have := HN.out.1; omega
      have i3 : (m : Int) < (m1 : Int) := by omega
      have i4 : (0 : Int) ≤ (s : Int) := by omega
      have i5 : (s : Int) + (m : Int) = (ms : Int) := by omega
      clear hpt hms
      clear hd hQA hE
      go_wp2_with fail
      go_cut [11, 12, 13] from 34 to 74 (fun cv lv ev wc => ∃ (c l : Ent) (g1 g2 : Nat), cv = .pointer (some ⟨g1, 0, none⟩) ∧ lv = .pointer (some ⟨g2, 0, none⟩) ∧ ev = .int .i64 0 ∧ Hid (QX wr wc g1 g2 (M + 3) (M + L + 1) (gx qs s) 0 c l))
      case first =>
        have hlg : g < wr.heap.size := block_lt_of_cell x0
        have hlb : b < wr.heap.size := block_lt_of_cell d0
        go_region_held3 (fun w' => w'.cell? ⟨g, ms * 2, none⟩ = some (.bool (ge us ms).s) ∧ w'.cell? ⟨g, ms * 2 + 1, none⟩ = some (.slice (ge us ms).p (ge us ms).n (ge us ms).c) ∧ w'.cell? ⟨b, o + m * 2, none⟩ = some (.bool (ge fs m).s) ∧ w'.cell? ⟨b, o + m * 2 + 1, none⟩ = some (.slice (ge fs m).p (ge fs m).n (ge fs m).c)) (first | with_reducible exact ⟨x0, x1, d0, d1⟩ | with_reducible exact ⟨y0, y1, y2, y3⟩ | (refine keep4B ⟨x0, x1, d0, d1⟩ hlg hlb ?_; (repeat (first | (with_reducible exact hW1) | (with_reducible exact Below.refl _ _) | (refine Bel_al ?_ (Nat.le_refl _)) | (refine Bel_st ?_ ?_) | (refine Below.drew ?_))); all_goals ((try simp only [World.size_alloc]); (try dsimp only); omega)))
          ((go_at_call 63; refine (Quo_ev (hx.below (by first | exact (Below.refl _ _).drew | exact (bel_al (Below.refl _ _)).drew | exact (bel_al (bel_al (Below.refl _ _))).drew)) (hy.below (by first | exact (Below.refl _ _).drew | exact (bel_al (Below.refl _ _)).drew | exact (bel_al (bel_al (Below.refl _ _))).drew)) hyne (by omega)).mono ?_; rintro r v1 ⟨c, l, rfl, hN1', hN2', hb1⟩; have hN1 := unNV hN1'; have hN2 := unNV hN2'; clear hN1' hN2'; have hB1 := undrew hb1; have hW1 := comp (X2 := wr) (w2 := wr) (Below.refl _ _) (by (repeat apply bel_al); exact Below.refl _ _) hB1; have y0 := cell_later hW1 x0; have y1 := cell_later hW1 x1; have y2 := cell_later hW1 d0; have y3 := cell_later hW1 d1; obtain ⟨hc2, hf2, hz2, -, -⟩ := brules hB1; obtain ⟨o1, o2, o3, o4⟩ := bne hB1; have t1 := hW1.size; have t1b := hB1.size))
        all_goals (go_wp2_with fail; go_meet)
        all_goals
          rw [Int.mul_ediv_cancel _ hyne] at hN1
          rw [Int.mul_emod_left] at hN2
          refine ⟨c, l, _, _, rfl, rfl, rfl, ⟨?_, ?_, ?_, ?_, ?_, ?_⟩⟩
          · (repeat (first | exact Bx_new (by simp; done) | refine Bx_set (u := .bool false) (v := .slice none 0 0) ?_ | refine Bx_oth ?_ (by have h1 := t1; have h2 := t1b; (try simp only [World.size_alloc] at h1 h2); (try simp only [World.size_alloc]); (try dsimp only); omega) | apply Bx_al)); all_goals exact ⟨by simp [go_sem, *], by simp [go_sem, *], by simp [go_sem, *], by simp [go_sem, *]⟩
          · (repeat (first | exact Bx_new (by simp; done) | refine Bx_set (u := .bool false) (v := .slice none 0 0) ?_ | refine Bx_oth ?_ (by have h1 := t1; have h2 := t1b; (try simp only [World.size_alloc] at h1 h2); (try simp only [World.size_alloc]); (try dsimp only); omega) | apply Bx_al)); all_goals exact ⟨by simp [go_sem, *], by simp [go_sem, *], by simp [go_sem, *], by simp [go_sem, *]⟩
          · (repeat (first | apply NV_al | refine NV_st3 hN1.frm (by have h1 := t1; have h2 := t1b; (try simp only [World.size_alloc] at h1 h2); (try simp only [World.size_alloc]); (try dsimp only); omega) ?_ | refine NV_st2 hN1.ltb (by have h1 := t1; have h2 := t1b; (try simp only [World.size_alloc] at h1 h2); (try simp only [World.size_alloc]); (try dsimp only); omega) ?_)); exact hN1.mono (by have h1 := t1; have h2 := t1b; (try simp only [World.size_alloc] at h1 h2); (try simp only [World.size_alloc]); (try dsimp only); omega)
          · (repeat (first | apply NV_al | refine NV_st3 hN2.frm (by have h1 := t1; have h2 := t1b; (try simp only [World.size_alloc] at h1 h2); (try simp only [World.size_alloc]); (try dsimp only); omega) ?_ | refine NV_st2 hN2.ltb (by have h1 := t1; have h2 := t1b; (try simp only [World.size_alloc] at h1 h2); (try simp only [World.size_alloc]); (try dsimp only); omega) ?_)); exact hN2.mono (by have h1 := t1; have h2 := t1b; (try simp only [World.size_alloc] at h1 h2); (try simp only [World.size_alloc]); (try dsimp only); omega)
          · (have h1 := t1; have h2 := t1b; (try simp only [World.size_alloc] at h1 h2); (try simp only [World.size_alloc]); (try dsimp only); omega)
          · (repeat (first | exact hW1 | refine Bel_al ?_ (Nat.le_refl _) | refine Bel_st ?_ (by have h1 := t1; have h2 := t1b; (try simp only [World.size_alloc] at h1 h2); (try simp only [World.size_alloc]); (try dsimp only); omega)))
      case rest =>
        obtain ⟨c, l, g1, g2, rfl, rfl, rfl, HQ⟩ := hcut
        clear x0 x1 d0 d1 hx hy
        obtain ⟨q0, q1, -, -⟩ := id HQ.out.b1
        obtain ⟨q2, q3, -, -⟩ := id HQ.out.b2
        have hl := HQ.out.n2.ev (by omega)
        have hz0 := isZero_any hl
        rw [decide_eq_true rfl] at hz0
        go_wp2_with fail
        refine hz0.mono ?_
        rintro r v2 ⟨rfl, hb2⟩
        clear hz0 q2 q3 hl
        have q4 := cell_later hb2 q0
        have q5 := cell_later hb2 q1
        have hcv := (HQ.out.n1.below hb2).ev (by omega)
        have hzb : (zb (gx qs s) : Int) ≤ (most : Int) := by have := HBD.out.1 s (by omega); omega
        go_wp2_with fail
        refine (Bits_ev hcv).mono ?_
        rintro r v3 ⟨rfl, hb3⟩
        have q6 := cell_later hb3 q4
        have q7 := cell_later hb3 q5
        clear q0 q1 q4 q5
        obtain ⟨-, hE⟩ := HI.out
        have hqM : ((gx qs s).natAbs : Int) < pw M := by
          have h1 := HBD.out.2 (s + 1) (m + s) (by omega)
          rw [ps_top qs ys s m (by rw [hyl]; exact HN.out.2), Int.natAbs_mul] at h1
          have h2 : (gx qs s).natAbs ≤ (gx qs s).natAbs * (gx ys m).natAbs := Nat.le_mul_of_pos_right _ (by omega)
          omega
        have hS := exact_step hE HQ.out (bnext' hb2 hb3) (by omega) hgl hwg hqM hM
        have hB3 := bnext' HQ.out.bw (bnext' hb2 hb3)
        have hro := hE.row.below hB3 hE.row.lt
        obtain ⟨z0, z1⟩ := hro.cell s (by rw [hE.vl]; omega)
        have f0 := hro.frozen (s * 2)
        have f1 := hro.frozen (s * 2 + 1)
        have HS := (show Hid _ from hS)
        have hvl : (vs.set s c).length = k := by rw [List.length_set]; exact hE.vl
        have j1 : (s : Int) < (k : Int) := by omega
        have j2 : (ms : Int) ≤ (cap : Int) := by omega
        have j3 : (s : Int) ≤ (ms : Int) := by omega
        have j4 : (ms : Int) - (s : Int) = (m : Int) := by omega
        clear hE hS hB3 hro hb2 hb3 HQ hcv hqM
        go_upto_region 14 with fail
        obtain ⟨t1, t2, t3, t4, t5, t6, t7, t8⟩ := HS.out
        clear HS z0 z1 f0 f1 q6 q7
        generalize (v3.setCell ⟨gq, s * 2, none⟩ (.bool c.s)).setCell ⟨gq, s * 2 + 1, none⟩ (.slice c.p c.n c.c) = v4 at *
        obtain ⟨q8, q9, -, -⟩ := id t6
        obtain ⟨rc, hrc⟩ : ∃ rc, rc = cap - s := ⟨_, rfl⟩
        have j5 : (cap : Int) - (s : Int) = (rc : Int) := by omega
        have j6 : ms - s = m := by omega
        have j7 : cap - s = rc := by omega
        have hdr : Below v4.heap.size v4 v4.drew := (Below.refl _ _).drew
        have htk := utake_any (g := g) (g2 := gq) (o := s) (r := m) (rc := rc) (t1.below hdr) t8 ((hqa.below t7).below hdr) (hqa.pl.off hg (by rw [hqa.el]; omega)) (fun j hj h0 => by obtain ⟨xs, k1, -⟩ := hqa.ev j hj; exact k1.rd.off hg (by rw [k1.len]; exact h0)) (t4.below hdr) t5 (by omega) (by omega) (by omega) (by omega) (by omega) (by omega) (by omega) (by omega) (fun t h1 h2 => by
          have e : ps qs ys (s + 1) t - gx qs s * gx ys (t - s) = ps qs ys s t := by rw [ps, if_pos h1]; omega
          rw [e]
          exact HBD.out.2 s t (by omega))
        have HX : Hid (Row2 v4 gq 47 (vs.set s c) ∧ (∀ j, s ≤ j → j < k → NV (gq + 1) v4 M (gx qs j) (ge (vs.set s c) j)) ∧ Below w.heap.size w v4) := ⟨t2, t3, t7⟩
        clear hrc t1 t2 t3 t4 t5 t6 t7 t8
        go_region_with ((go_at_call 66; go_fit htk; rintro r w5 ⟨us', rfl, hul', hT, hG⟩))
        all_goals
          have hnx := exact_next (k := k) hT (undrewG hG) HX.out.1 hvl HX.out.2.1 HX.out.2.2 hgl hg
          have HNX := (show Hid _ from hnx)
          clear hnx hT hG htk q8 q9
          go_wp2
          refine ⟨⟨s, us', vs.set s c, by omega, rfl, ?_, HNX.out⟩, ?_⟩
          · rw [hul']; exact hul
          · simp [intOf]
theorem PN.pb {B : Nat} {w : World} {K : Nat} {p : Option Addr} {n : Nat} {es : List Ent} {zs : List Int} (h : PN B w K p n es zs) (hK : K ≤ 1000) : PB B w K p n es zs :=
  ⟨h.el, h.zl, h.nrm, h.pl, h.fr, fun j hj => (h.ev j hj).en hK⟩
structure EG (zs ys qs : List Int) (n m k M : Nat) : Prop where
  ql : qs.length = k
  nk : n = m + k
  k1 : 1 ≤ k
  z : ∀ t, t < n → gx zs t = ps qs ys k t
  n1 : n ≤ 1000
  bits : ∀ i, i < k → zb (gx qs i) ≤ k + pb zs + Lib.bitLen n
  hM : M < 80
  mb : ∀ i t, i ≤ k → ((ps qs ys i t).natAbs : Int) < pw M
theorem divides_goes {w : World} {B C K L : Nat} {p q : Option Addr} {n m k M : Nat} {es fs : List Ent} {zs ys qs : List Int} (h : PB B w K p n es zs) (hb : PB C w L q (m + 1) fs ys) (g : EG zs ys qs n m k M) (hK : K < 80) (hL : L < 80) :
    Calls Tryz.prog 82 #[.slice q (m + 1 : Nat) (m + 1 : Nat), .slice p n n] w fun r w' => r = .returned (.bool true) ∧ Below w.heap.size w w' := by
  have he := exact_goes h hb g.ql g.nk g.k1 g.z g.n1 hK hL g.bits M g.hM g.mb
  generalize hm1 : m + 1 = m1 at *
  clear hm1
  go_enter Tryz.func82, Tryz.ntmps82
  go_wp2_with fail
  refine he.mono ?_
  rintro r w1 ⟨u, us, rfl, -, -, -, -, hb1⟩
  clear he
  go_wp2
  go_ret
  exact ⟨rfl, hb1⟩
theorem uExact_goes {w : World} {K L : Nat} {p q : Option Addr} {n nc m mc : Nat} {es fs : List Ent} {zs ys qs : List Int} {m' k M : Nat} (h : PA w K p n nc es zs) (hb : PA w L q m mc fs ys) (g : EG (tr zs) (tr ys) qs (tlen zs) m' k M) (hm' : tlen ys = m' + 1) (hn : n ≤ 1000) (hm : m ≤ 1000) (hK : K < 80) (hL : L < 80) :
    Calls Tryz.prog 8 #[.slice p n nc, .slice q m mc] w fun r w' => ∃ u us, r = .returned (.tuple #[.slice u k k, .bool true]) ∧ us.length = k ∧ PL w' u us ∧ Go.Proofs.YtkjpeehbhmcojaaGreatDoor.From w.heap.size u ∧ (∀ i, i < k → NV w.heap.size w' M (gx qs i) (ge us i)) ∧ Below w.heap.size w w' := by
  go_enter Tryz.func8, Tryz.ntmps8
  go_wp2_with fail
  refine (read_any K p n nc es zs _ h (by omega) (by omega)).mono ?_
  rintro e w1 ⟨p1, n1, es1, rfl, h1, hb1⟩
  go_wp2_with fail
  refine (read_any L q m mc fs ys _ (hb.below hb1) (by omega) (by omega)).mono ?_
  rintro e w2 ⟨q1, m1, fs1, rfl, k1, hb2⟩
  have hn' := h1.zl
  have hm1 := k1.zl
  rw [length_tr] at hn' hm1
  rw [hn'] at g
  rw [← hm1, hm'] at k1
  have he := exact_goes (h1.below hb2) k1 g.ql g.nk g.k1 g.z g.n1 hK hL g.bits M g.hM g.mb
  rw [← hm', hm1] at he
  have i1 : ¬ (m1 : Int) = 0 := by omega
  have i1' : ((m1 : Int) == 0) = false := by rw [beq_eq_false_iff_ne]; exact i1
  have i2 : (0 : Int) < (n1 : Int) := by have := g.nk; have := g.k1; omega
  have i3 : (m1 : Int) ≤ (n1 : Int) := by have := g.nk; have := g.k1; omega
  have HB := (show Hid _ from bnext' hb1 hb2)
  clear hn' hm1 h1 k1 hm' g hb1 hb2 h hb
  go_wp2_with fail
  refine he.mono ?_
  rintro r w3 ⟨u, us, rfl, r1, r2, r3, r4, hb3⟩
  clear he
  go_wp2
  go_ret2
  have hs := HB.out.size
  exact ⟨u, us, rfl, r1, r2, fun a ha => Nat.le_trans hs (r3 a ha), fun i hi => (r4 i hi).mono hs, bnext' HB.out hb3⟩
theorem eg_start : EG [1, 4, 4] [1, 2] [1, 2] 3 1 2 1 where
  ql := rfl
  nk := rfl
  k1 := by decide
  z := by decide
  n1 := by decide
  bits := by
    intro i hi
    have h : zb (gx [1, 2] i) ≤ 2 := by
      rcases (show i = 0 ∨ i = 1 by omega) with rfl | rfl
      · show zb 1 ≤ 2; decide
      · show zb 2 ≤ 2; decide
    omega
  hM := by decide
  mb := by
    intro i t hi
    rcases Nat.lt_or_ge t 3 with h | h
    · have : (ps [1, 2] [1, 2] i t).natAbs ≤ 4 := by
        rcases (show i = 0 ∨ i = 1 ∨ i = 2 by omega) with rfl | rfl | rfl <;> rcases (show t = 0 ∨ t = 1 ∨ t = 2 by omega) with rfl | rfl | rfl <;> decide
      have e : pw 1 = 4294967296 := by decide
      omega
    · rw [ps_far _ _ _ _ (by simp; omega)]
      decide
def rstep (m c : Int) (bs : List Int) (o : Nat) : Nat → List Int → List Int
  | 0, Z => Z
  | t + 1, Z => (rstep m c bs o t Z).set (o + t) ((gx Z (o + t) + c * gx bs t) % m)
def rrest (m : Int) (bs : List Int) (n : Nat) : Nat → List Int → List Int
  | 0, Z => Z
  | j + 1, Z => rrest m bs n j (if (0 - gx Z (n + j)) % m = 0 then Z else rstep m ((0 - gx Z (n + j)) % m) bs j n Z)
theorem length_rstep (m c : Int) (bs : List Int) (o : Nat) : ∀ t Z, (rstep m c bs o t Z).length = Z.length
  | 0, Z => rfl
  | t + 1, Z => by rw [rstep, List.length_set, length_rstep m c bs o t Z]
theorem length_rrest (m : Int) (bs : List Int) (n : Nat) : ∀ j Z, (rrest m bs n j Z).length = Z.length
  | 0, Z => rfl
  | j + 1, Z => by
    rw [rrest, length_rrest m bs n j]
    split
    · rfl
    · rw [length_rstep]
theorem gx_set_ne' (Z : List Int) (i j : Nat) (v : Int) (h : i ≠ j) : gx (Z.set i v) j = gx Z j := by
  unfold gx
  rw [List.getD_eq_getElem?_getD, List.getD_eq_getElem?_getD, List.getElem?_set_ne h]
theorem gx_rstep_ge (m c : Int) (bs : List Int) (o : Nat) : ∀ t Z j, o + t ≤ j → gx (rstep m c bs o t Z) j = gx Z j
  | 0, Z, j, _ => rfl
  | t + 1, Z, j, h => by
    rw [rstep, gx_set_ne' _ _ _ _ (by omega)]
    exact gx_rstep_ge m c bs o t Z j (by omega)
def Res (m : Int) (xs : List Int) : Prop := ∀ j, 0 ≤ gx xs j ∧ gx xs j < m
theorem Res.set {m : Int} {xs : List Int} (h : Res m xs) (i : Nat) (v : Int) (h0 : 0 ≤ v) (h1 : v < m) : Res m (xs.set i v) := fun j => by
  by_cases e : i = j
  · subst e
    rcases Nat.lt_or_ge i xs.length with hl | hl
    · rw [gx_mem _ _ (by rw [List.length_set]; exact hl)]
      simp [h0, h1]
    · have := h i
      rw [gx_past xs xs.length (Nat.le_refl _) i hl] at this
      rw [gx_past (xs.set i v) xs.length (by simp) i hl]
      exact this
  · rw [gx_set_ne' _ _ _ _ e]
    exact h j
theorem Res.rstep {m c : Int} {bs Z : List Int} {o : Nat} (h : Res m Z) (hm : 2 ≤ m) : ∀ t, Res m (rstep m c bs o t Z)
  | 0 => h
  | t + 1 => by
    rw [Go.Proofs.YtkjpeehbhmcojaaGreatDoor.rstep]
    exact (Res.rstep h hm t).set _ _ (Int.emod_nonneg _ (by omega)) (Int.emod_lt_of_pos _ (by omega))
theorem Res.rrest {m : Int} {bs : List Int} {n : Nat} (hm : 2 ≤ m) : ∀ j {Z : List Int}, Res m Z → Res m (rrest m bs n j Z)
  | 0, _, h => h
  | j + 1, _, h => by
    rw [Go.Proofs.YtkjpeehbhmcojaaGreatDoor.rrest]
    refine Res.rrest hm j ?_
    split
    · exact h
    · exact h.rstep hm n
set_option maxRecDepth 100000 in
theorem rest_any (g na ca : Nat) (Z : List Int) (q : Option Addr) (n nb bc : Nat) (bs : List Int) (m : Int) (w : World) (hnb : nb = n + 1) (hna : na ≤ Z.length) (hca : na ≤ ca) (hcZ : ca ≤ 100000) (hR : Row w g 94 .u64 Z) (hZ : Res m Z) (hl : bs.length = nb) (hn : n ≤ 100000) (hB : Rd w q .u64 bs) (hb : Res m bs) (hoff : Off g q) (hm : 2 ≤ m) (hm2 : m ≤ 2147483647) :
    Calls Tryz.prog 118 #[.int .u64 m, .slice (some ⟨g, 0, none⟩) na ca, .slice q nb bc] w fun e w' => e = .returned (.slice (some ⟨g, 0, none⟩) (tlen ((rrest m bs n (na - n) Z).take (min n na))) ca) ∧ Row w' g 94 .u64 (rrest m bs n (na - n) Z) ∧ w.grownBy w' (some g) := by
  have HB : Hid (Rd w q .u64 bs ∧ Res m bs) := ⟨hB, hb⟩
  clear hB hb
  have HZ : Hid (Res m Z) := hZ
  have HR : Hid (Row w g 94 .u64 Z) := hR
  clear hZ hR
  have hnI : (nb : Int) - 1 = (n : Int) := by omega
  have hn1 : n < nb := by omega
  have hn2 : nb ≤ n + 1 := by omega
  clear hnb
  have hnW : IntKind.i64.wrap (n : Int) = (n : Int) := by rw [IntKind.wrap_i64]; omega
  go_enter Tryz.func118, Tryz.ntmps118
  go_wp2_with fail
  go_loopw [8, 9, 10, 11] (fun kv cv rv jv wr => ∃ (t : Nat) (Y : List Int), t ≤ na - n ∧ kv = .int .i64 (((na : Int) - 1) - ((na - n - t : Nat) : Int)) ∧ Y.length = Z.length ∧ Hid (rrest m bs n t Y = rrest m bs n (na - n) Z ∧ Res m Y ∧ Row wr g 94 .u64 Y ∧ w.grownBy wr (some g))) (fun kv _ _ _ _ => (intOf kv + 1 - n).toNat)
  case atStart => exact ⟨na - n, Z, Nat.le_refl _, by go_num, rfl, rfl, HZ.out, HR.out, grownBy_refl _ _⟩
  case round =>
    obtain ⟨t, Y, ht, rfl, hY, H⟩ := hrel
    rcases Nat.eq_zero_or_pos t with h0 | h0
    · subst h0
      obtain ⟨e1, e2, e3, e4⟩ := H.out
      rw [rrest] at e1
      subst e1
      have hc1 : ¬ (n : Int) ≤ (na : Int) - 1 - ((na - n - 0 : Nat) : Int) := by omega
      obtain ⟨M, hM1, hM2⟩ : ∃ M : Nat, min (n : Int) (na : Int) = (M : Int) ∧ M = min n na := ⟨min n na, by omega, rfl⟩
      have hM3 : (M : Int) ≤ (ca : Int) := by omega
      have HM : Hid (M = min n na) := hM2
      have HI : Hid (Row wr g 94 .u64 (rrest m bs n (na - n) Z) ∧ w.grownBy wr (some g)) := ⟨e3, e4⟩
      clear H e2 e3 e4 hM2
      go_wp2_with fail
      refine (trimRes_any _ M ca ((rrest m bs n (na - n) Z).take M) wr (by rw [List.length_take, hY, HM.out]; omega) (by omega) (by omega) (HI.out.1.rd_take M)).mono ?_
      rintro e w1 ⟨rfl, rfl⟩
      go_wp2
      go_ret
      rw [← HM.out]
      exact ⟨rfl, HI.out⟩
    · obtain ⟨s, rfl⟩ : ∃ s, t = s + 1 := ⟨t - 1, by omega⟩
      have hk : (na : Int) - 1 - ((na - n - (s + 1) : Nat) : Int) = ((n + s : Nat) : Int) := by omega
      rw [hk]
      obtain ⟨e1, e2, e3, e4⟩ := H.out
      rw [rrest] at e1
      have c0 := e3.cell (n + s) (by omega)
      obtain ⟨y0, y1⟩ := e2 (n + s)
      have hbd1 : ((n + s : Nat) : Int) < (na : Int) := by omega
      have HI : Hid (Res m Y ∧ Row wr g 94 .u64 Y ∧ w.grownBy wr (some g)) := ⟨e2, e3, e4⟩
      have HE : Hid (rrest m bs n s (if (0 - gx Y (n + s)) % m = 0 then Y else rstep m ((0 - gx Y (n + s)) % m) bs s n Y) = rrest m bs n (na - n) Z) := e1
      clear H e1 e2 e3 e4
      go_wp2_with fail
      refine (minus_any m 0 (gx Y (n + s)) _ hm hm2 (by decide) (by omega) y0 y1).mono ?_
      rintro e w1 ⟨rfl, rfl⟩
      have q0 := Int.emod_nonneg (0 - gx Y (n + s)) (show m ≠ 0 by omega)
      have q1 := Int.emod_lt_of_pos (0 - gx Y (n + s)) (show 0 < m by omega)
      generalize (0 - gx Y (n + s)) % m = c at *
      by_cases hc : c = 0
      · have HC : Hid (c = 0) := hc
        have hc' : (c == 0) = true := by rw [beq_iff_eq]; exact hc
        clear hc
        go_wp2
        go_roundw
        case rel =>
          refine ⟨s, Y, by omega, by go_num, hY, ?_, HI.out⟩
          have := HE.out
          rwa [if_pos HC.out] at this
        case measure => simp [intOf]; omega
      · have hc' : (c == 0) = false := by rw [beq_eq_false_iff_ne]; exact hc
        have HE2 : Hid (rrest m bs n s (rstep m c bs s n Y) = rrest m bs n (na - n) Z) := by have := HE.out; rwa [if_neg hc] at this
        clear HE
        have hs1 : ((n + s : Nat) : Int) - (n : Int) = (s : Int) := by omega
        have hs2 : ((n + s : Nat) : Int) ≤ (ca : Int) := by omega
        have hs3 : (s : Int) ≤ ((n + s : Nat) : Int) := by omega
        have hs4 : ((n + s : Nat) : Int) - (s : Int) = (n : Int) := by omega
        have hs5 : IntKind.i64.wrap (s : Int) = (s : Int) := by rw [IntKind.wrap_i64]; omega
        have HYr : Hid (Res m Y) := HI.out.1
        go_wp2_with fail
        have hx1 : n + s - n = s := by omega
        have hx2 : n + s - s = n := by omega
        simp only [hx1, hx2]
        clear hx1 hx2
        go_loopw [11, 39] (fun jv kv wi => ∃ j : Nat, j ≤ n ∧ kv = .int .i64 j ∧ Hid (Row wi g 94 .u64 (rstep m c bs s j Y) ∧ w.grownBy wi (some g))) (fun _ kv _ => n - (intOf kv).toNat)
        case atStart => exact ⟨0, Nat.zero_le _, by go_num, HI.out.2⟩
        case round =>
          obtain ⟨j, hj, rfl, H⟩ := hrel
          rcases Nat.lt_or_ge j n with hlt | hge
          · obtain ⟨r1, r2⟩ := H.out
            obtain ⟨b, off, rfl, hcell⟩ := (HB.out.1.keptOff r2 hoff) (by omega)
            have d0 := hcell j (by omega)
            have d1 := r1.cell (s + j) (by rw [length_rstep]; omega)
            rw [gx_rstep_ge m c bs s j Y (s + j) (Nat.le_refl _)] at d1
            have f1 := r1.frozen (s + j)
            obtain ⟨u0, u1⟩ := HYr.out (s + j)
            obtain ⟨v0, v1⟩ := HB.out.2 j
            obtain ⟨p0, p1⟩ := mul_bdp q0 v0 q1 v1 hm2
            have HH : Hid (Row wr g 94 .u64 (rstep m c bs s j Y) ∧ w.grownBy wr (some g)) := ⟨r1, r2⟩
            have hj1 : (j : Int) < (nb : Int) := by omega
            have HV : Hid (rstep m c bs s (j + 1) Y = (rstep m c bs s j Y).set (s + j) ((gx Y (s + j) + c * gx bs j) % m)) := rfl
            clear hcell r1 r2 H
            generalize hP : c * gx bs j = P at *
            have HP := (show Hid _ from hP)
            clear hP
            have hm0 : ¬ m = 0 := by omega
            have hm0' : (m == 0) = false := by rw [beq_eq_false_iff_ne]; exact hm0
            have e1 : IntKind.u64.wrap P = P := by rw [IntKind.wrap_u64]; omega
            have e2 : IntKind.u64.wrap (gx Y (s + j) + P) = gx Y (s + j) + P := by rw [IntKind.wrap_u64]; omega
            have e3 : (gx Y (s + j) + P).tmod m = (gx Y (s + j) + P) % m := Int.tmod_eq_emod_of_nonneg (by omega)
            have e4 := Int.emod_nonneg (gx Y (s + j) + P) hm0
            have e5 := Int.emod_lt_of_pos (gx Y (s + j) + P) (show 0 < m by omega)
            have e6 : IntKind.u64.wrap ((gx Y (s + j) + P) % m) = (gx Y (s + j) + P) % m := by rw [IntKind.wrap_u64]; omega
            go_wp2_with fail
            go_still_tail 15, (by kernel_rfl)
            go_wp2
            go_roundw
            case rel =>
              obtain ⟨r1, r2⟩ := HH.out
              refine ⟨j + 1, by omega, by go_num, ?_, grownBy_drew (grownBy_setCell r2 _ _)⟩
              rw [HV.out, HP.out, e1, e2, e3]
              exact (r1.set (s + j) _).drew
            case measure => simp [intOf]; omega
          · obtain rfl : j = n := by omega
            obtain ⟨r1, r2⟩ := H.out
            have HH : Hid (Row wr g 94 .u64 (rstep m c bs s j Y) ∧ w.grownBy wr (some g)) := ⟨r1, r2⟩
            clear H r1 r2 hge
            go_wp2
            go_roundw
            case rel =>
              refine ⟨s, rstep m c bs s j Y, by omega, by go_num, by rw [length_rstep]; exact hY, HE2.out, HYr.out.rstep hm j, HH.out⟩
            case measure => simp [intOf]; omega
end Go.Proofs.YtkjpeehbhmcojaaGreatDoor
