/-
  ashlarref3.Exact.
-/
import Derived.Test.YtdjjlghlcffflaaGreatDoorUwUyInU0TaTbTc
import Derived.Test.YtdjjlghlcffflaaGreatDoorYq
import Derived.Test.YtdjjlghlcffflaaGreatDoorDfVlVvVnVrCuOaOfJp
import Derived.Test.YtdjjlghlcffflaaGreatDoorWjUlUmVsUoDmVt
import Derived.Test.YtdjjlghlcffflaaGreatDoorAfBpBnBoAhAdBsDtAgWvUhAiRzVdRtDhVeRsVfVcAj
import Derived.Deep.DeepFit
namespace Go.Proofs.YtdjjlghlcffflaaGreatDoor
open Go.RowKit
set_option linter.unusedVariables false
set_option linter.unusedSimpArgs false
set_option maxHeartbeats 8000000
theorem RE.fit' {w : World} {N M : Nat} {z : Int} {e : Ent} (h : RE w N z e) (hz : (z.natAbs : Int) < pw M) : RE w (2 * M) z e := by
  obtain ⟨⟨ds, h1, h2, h3⟩, h4⟩ := h
  subst h2
  exact ⟨⟨ds, h1, rfl, h1.fit (by rw [pd_two]; exact hz)⟩, h4⟩
theorem PR.fit {w : World} {N M : Nat} {p : Option Addr} {n nc : Nat} {es : List Ent} {zs : List Int} (h : PR w N p n nc es zs) (hz : ∀ t, ((gx zs t).natAbs : Int) < pw M) : PR w (2 * M) p n nc es zs :=
  ⟨h.el, h.zl, h.cap, h.bnd, h.pl, fun j hj => (h.ev j hj).fit' (hz j)⟩
theorem rQuo_goes {w : World} {N M : Nat} {x y : Int} {e f : Ent} (h : RE w N x e) (k : RE w M y f) (hy : y ≠ 0) (hd : y ∣ x) (hN : N ≤ 1000) (hM : M ≤ 1000) :
    Calls Tryz.prog 91 #[.agg #[.bool e.s, .slice e.p e.n e.c], .agg #[.bool f.s, .slice f.p f.n f.c]] w fun r w' => ∃ (u : Ent) (p2 : Option Addr), r = .returned (.tuple #[.agg #[.bool u.s, .slice u.p u.n u.c], .agg #[.bool false, .slice p2 0 0]]) ∧ RE w' N (x / y) u ∧ Go.Proofs.YtdjjlghlcffflaaGreatDoor.From w.heap.size u.p ∧ Below w.heap.size w w' := by
  have hb := h.1.bd
  obtain ⟨⟨ds, h1, rfl, h3⟩, h4⟩ := h
  obtain ⟨⟨es, k1, rfl, k3⟩, k4⟩ := k
  rw [h4, k4]
  have hx : ∃ c, vd ds = c * vd es := by
    obtain ⟨c, hc⟩ := hd
    rw [rval_abs e.s h1.u, rval_abs f.s k1.u, hc, Int.natAbs_mul]
    exact ⟨(c.natAbs : Int), by push_cast; rw [Int.mul_comm]⟩
  have hm0 : 0 < f.n := by
    rcases Nat.eq_zero_or_pos f.n with h0 | h0
    · exfalso
      apply hy
      have : vd es = 0 := (tlen_zero_iff16 k1.u).1 (by rw [k1.nrm, h0])
      unfold rval
      split <;> omega
    · exact h0
  refine (rQuo_s e.s f.s e.p f.p e.n f.n ds es w h1 k1 (by omega) (by omega) hm0 hx).mono ?_
  rintro r w' ⟨s1, p1, n1, d1, p2, g1, g2, g3, g4, g5⟩
  have g6 : rval e.s ds / rval f.s es = rval s1 d1 := by rw [← g3, Int.mul_ediv_cancel _ hy]
  have hle : n1 ≤ N := g2.fit (by
    rw [← g6]
    have := Int.natAbs_ediv_le_natAbs (rval e.s ds) (rval f.s es)
    omega)
  rw [g6]
  exact ⟨⟨s1, p1, n1, n1⟩, p2, g1, ⟨⟨d1, g2, rfl, hle⟩, rfl⟩, g4, g5⟩
theorem re_none (w : World) (p : Option Addr) : RE w 0 0 ⟨false, p, 0, 0⟩ := ⟨⟨[], ⟨rfl, Rd.nil, fun j => by simp [gx], rfl, fun _ => rfl, Nat.zero_le _⟩, rfl, Nat.zero_le _⟩, rfl⟩
def slLen : Value → Nat
  | .slice _ n _ => n
  | _ => 0
structure RX (w wr : World) (xs ys : List Int) (n m k j : Nat) (pq pr : Option Addr) (nq nr : Nat) (eq er : List Ent) (qz rz : List Int) : Prop where
  q : PR wr 100 pq nq nq eq qz
  r : PR wr 100 pr nr nr er rz
  qn : tlen qz = nq
  rn : tlen rz = nr
  e : ∀ t, gx xs t = gx (mulp qz ys) t + gx rz t
  qb : ∀ t, ((gx qz t).natAbs : Int) < pw (4 + 5 * j)
  rb : ∀ t, ((gx rz t).natAbs : Int) < pw (4 + 5 * j)
  le : nr + j ≤ n
  ql : nq ≤ k
  bw : Below w.heap.size w wr
  qf : Go.Proofs.YtdjjlghlcffflaaGreatDoor.From w.heap.size pq ∧ ∀ j, j < nq → 0 < (ge eq j).n → Go.Proofs.YtdjjlghlcffflaaGreatDoor.From w.heap.size (ge eq j).p
theorem RX.later {w wr w' : World} {xs ys : List Int} {n m k j : Nat} {pq pr : Option Addr} {nq nr : Nat} {eq er : List Ent} {qz rz : List Int} (h : RX w wr xs ys n m k j pq pr nq nr eq er qz rz) (hb : Below wr.heap.size wr w') : RX w w' xs ys n m k j pq pr nq nr eq er qz rz :=
  ⟨h.q.below hb, h.r.below hb, h.qn, h.rn, h.e, h.qb, h.rb, h.le, h.ql, bnext' h.bw hb, h.qf⟩
theorem PR.lt' {w : World} {N : Nat} {p : Option Addr} {n nc : Nat} {es : List Ent} {zs : List Int} (h : PR w N p n nc es zs) {g : Nat} (hg : w.heap.size ≤ g) : (0 < n → Off g p) ∧ ∀ j, j < n → 0 < (ge es j).n → Off g (ge es j).p := by
  refine ⟨fun h0 a ha e => ?_, fun j hj h0 a ha e => ?_⟩
  · obtain ⟨b, o, hp, hlt⟩ := h.pl.lt (by rw [h.el]; exact h0)
    rw [hp] at ha
    cases ha
    dsimp only at e
    omega
  · have := (lasts_RE N).lt (h.ev j hj) h0 a ha
    omega
theorem RX.gset {w wr : World} {xs ys : List Int} {n m k j : Nat} {pq pr : Option Addr} {nq nr : Nat} {eq er : List Ent} {qz rz : List Int} (h : RX w wr xs ys n m k j pq pr nq nr eq er qz rz) {g o : Nat} {u v : Value} (hw : w.heap.size ≤ g) (hq : (0 < nq → Off g pq) ∧ ∀ j, j < nq → 0 < (ge eq j).n → Off g (ge eq j).p) (hr : (0 < nr → Off g pr) ∧ ∀ j, j < nr → 0 < (ge er j).n → Off g (ge er j).p) : RX w ((wr.setCell ⟨g, o, none⟩ u).setCell ⟨g, o + 1, none⟩ v) xs ys n m k j pq pr nq nr eq er qz rz :=
  ⟨h.q.gset hq.1 hq.2, h.r.gset hr.1 hr.2, h.qn, h.rn, h.e, h.qb, h.rb, h.le, h.ql, Bel_st (Bel_st h.bw hw) hw, h.qf⟩
def mono (d : Nat) (c : Int) : List Int := zeros d ++ [c]
theorem length_mono (d : Nat) (c : Int) : (mono d c).length = d + 1 := by simp [mono, zeros]
theorem gx_mono (d : Nat) (c : Int) (t : Nat) : gx (mono d c) t = if t = d then c else 0 := by
  have hl : (zeros d).length = d := length_zeros d
  rw [mono]
  rcases Nat.lt_or_ge t d with h | h
  · rw [gx_append_left _ _ _ (by omega), gx_zeros, if_neg (by omega)]
  · rw [gx_append_right _ _ _ (by omega), hl]
    by_cases h1 : t = d
    · subst h1; rw [Nat.sub_self, if_pos rfl]; rfl
    · rw [if_neg h1]
      exact gx_past [c] 1 (Nat.le_refl _) _ (by omega)
theorem mono_nrm {d : Nat} {c : Int} (h : c ≠ 0) : tlen (mono d c) = d + 1 := tlen_eq _ _ (fun j hj => gx_past _ (d + 1) (by rw [length_mono]; exact Nat.le_refl _) j hj) (.inr (by rw [Nat.add_sub_cancel, gx_mono, if_pos rfl]; exact h))
theorem rx_step {xs ys qz rz : List Int} {m nr j n k nq : Nat} {c : Int} (hl : ys.length = m + 1) (hyb : ∀ t, ((gx ys t).natAbs : Int) < pw 4) (hrn : tlen rz = nr) (hm : m + 1 ≤ nr) (hc : c * gx ys m = gx rz (nr - 1)) (hc0 : c ≠ 0) (e : ∀ t, gx xs t = gx (mulp qz ys) t + gx rz t) (qb : ∀ t, ((gx qz t).natAbs : Int) < pw (4 + 5 * j)) (rb : ∀ t, ((gx rz t).natAbs : Int) < pw (4 + 5 * j)) (hcb : (c.natAbs : Int) < pw (4 + 5 * j)) (hql : nq ≤ k) (hqn : tlen qz = nq) (hnk : nr - (m + 1) < k) :
    (∀ t, gx xs t = gx (mulp (tr (pz (· + ·) qz (mono (nr - (m + 1)) c))) ys) t + gx (tr (pz (· - ·) rz (mulp (mono (nr - (m + 1)) c) ys))) t) ∧ (∀ t, ((gx (tr (pz (· + ·) qz (mono (nr - (m + 1)) c))) t).natAbs : Int) < pw (4 + 5 * (j + 1))) ∧ (∀ t, ((gx (tr (pz (· - ·) rz (mulp (mono (nr - (m + 1)) c) ys))) t).natAbs : Int) < pw (4 + 5 * (j + 1))) ∧ tlen (tr (pz (· - ·) rz (mulp (mono (nr - (m + 1)) c) ys))) < nr ∧ tlen (tr (pz (· + ·) qz (mono (nr - (m + 1)) c))) ≤ k := by
  have hp := pw_pos (4 + 5 * j)
  have hps : pw (4 + 5 * (j + 1)) = pw (4 + 5 * j + 4) * 4294967296 := by rw [show 4 + 5 * (j + 1) = (4 + 5 * j + 4) + 1 by omega, pw_succ, Int.mul_comm]
  have hpm : pw (4 + 5 * j) ≤ pw (4 + 5 * j + 4) := pw_mono (by omega)
  have hmt := mono_nrm (d := nr - (m + 1)) hc0
  have hmul : ∀ t, gx (mulp (mono (nr - (m + 1)) c) ys) t = if nr - (m + 1) ≤ t then c * gx ys (t - (nr - (m + 1))) else 0 := fun t => by
    rw [gx_mulp]
    have h1 : ∀ i, i ≤ nr - (m + 1) → ps (mono (nr - (m + 1)) c) ys i t = 0 := fun i => by
      induction i with
      | zero => intro _; rfl
      | succ i ih => intro hi; rw [ps_none _ ys i t (by rw [gx_mono, if_neg (by omega)]), ih (by omega)]
    have h2 := ps_more (mono (nr - (m + 1)) c) ys t (nr - (m + 1) + 1) (fun i hi => by rw [gx_mono, if_neg (by omega)]) (t + 1)
    have h3 := ps_late (mono (nr - (m + 1)) c) ys t (nr - (m + 1) + 1)
    rw [← h3, show t + 1 + (nr - (m + 1) + 1) = nr - (m + 1) + 1 + (t + 1) by omega, h2, ps, h1 _ (Nat.le_refl _), Int.zero_add, gx_mono, if_pos rfl]
  refine ⟨fun t => ?_, fun t => ?_, fun t => ?_, ?_, ?_⟩
  · have h1 := mulp_lin1 (a := tr (pz (· + ·) qz (mono (nr - (m + 1)) c))) (b := qz) (c := mono (nr - (m + 1)) c) (ys := ys) (fun j => by rw [gx_tr, gx_pz0 _ rfl]) t
    rw [h1, gx_tr, gx_pz0 _ rfl, e t]
    omega
  · rw [gx_tr, gx_pz0 _ rfl, gx_mono, hps]
    have h1 := qb t
    split <;> omega
  · rw [gx_tr, gx_pz0 _ rfl, hmul, hps]
    have h1 := rb t
    have h2 : ((c * gx ys (t - (nr - (m + 1)))).natAbs : Int) < pw (4 + 5 * j + 4) := term_lt hcb (hyb _)
    split <;> omega
  · rcases Nat.lt_or_ge (tlen (tr (pz (· - ·) rz (mulp (mono (nr - (m + 1)) c) ys)))) nr with h | h
    · exact h
    · exfalso
      have h0 : 0 < tlen (tr (pz (· - ·) rz (mulp (mono (nr - (m + 1)) c) ys))) := by omega
      have h1 := tlen_top _ h0
      generalize hT : tlen (tr (pz (· - ·) rz (mulp (mono (nr - (m + 1)) c) ys))) = T at *
      rw [gx_tr, gx_pz0 _ rfl, hmul, if_pos (by omega)] at h1
      rcases Nat.lt_or_ge nr T with h2 | h2
      · rw [tlen_zero rz (T - 1) (by omega), gx_past ys (m + 1) (by omega) _ (by omega)] at h1
        simp at h1
      · obtain rfl : T = nr := by omega
        rw [show T - 1 - (T - (m + 1)) = m by omega, hc] at h1
        omega
  · rw [tlen_tr]
    rcases Nat.lt_or_ge k (tlen (pz (· + ·) qz (mono (nr - (m + 1)) c))) with h | h
    · exfalso
      have h1 := tlen_top (pz (· + ·) qz (mono (nr - (m + 1)) c)) (by omega)
      rw [gx_pz0 _ rfl, tlen_zero qz _ (by omega), gx_mono, if_neg (by omega)] at h1
      exact h1 rfl
    · exact h
def RxF (xs ys : List Int) (w : World) (r : Ending) (w' : World) : Prop :=
  ((∃ (p : Option Addr) (n : Nat) (es : List Ent) (qz : List Int), r = .returned (.tuple #[.slice p n n, .bool true]) ∧ PR w' 100 p n n es qz ∧ tlen qz = n ∧ n ≤ 9 ∧ (∀ t, gx xs t = gx (mulp qz ys) t) ∧ Go.Proofs.YtdjjlghlcffflaaGreatDoor.From w.heap.size p ∧ ∀ j, j < n → 0 < (ge es j).n → Go.Proofs.YtdjjlghlcffflaaGreatDoor.From w.heap.size (ge es j).p) ∨ (∃ (p : Option Addr) (n c : Nat), r = .returned (.tuple #[.slice p n c, .bool false]) ∧ ¬ Dvd xs ys)) ∧ Below w.heap.size w w'
set_option maxRecDepth 100000 in
theorem rpExact_new {w : World} {p q : Option Addr} {n m m1 : Nat} {es fs : List Ent} {xs ys : List Int} (h : PR w 8 p n n es xs) (k : PR w 8 q m1 m1 fs ys) (hx : tlen xs = n) (hy : tlen ys = m1) (hm1 : m1 = m + 1) (hn : n ≤ 9) (hm9 : m1 ≤ 9) (hxb : ∀ t, ((gx xs t).natAbs : Int) < pw 4) (hyb : ∀ t, ((gx ys t).natAbs : Int) < pw 4) :
    Calls Tryz.prog 44 #[.slice p n n, .slice q m1 m1] w (RxF xs ys w) := by
  have hyt : gx ys m ≠ 0 := by
    have := tlen_top ys (by omega)
    rwa [hy, show m1 - 1 = m by omega] at this
  have HX : Hid (PR w 8 p n n es xs ∧ PR w 8 q m1 m1 fs ys ∧ tlen xs = n ∧ ys.length = m + 1 ∧ (∀ t, ((gx xs t).natAbs : Int) < pw 4) ∧ (∀ t, ((gx ys t).natAbs : Int) < pw 4) ∧ gx ys m ≠ 0 ∧ m1 = m + 1) := ⟨h, k, hx, by rw [k.zl]; exact hm1, hxb, hyb, hyt, hm1⟩
  have i0 : ((m1 : Int) == 0) = false := by rw [beq_eq_false_iff_ne]; omega
  have i1 : ¬ (m1 : Int) = 0 := by omega
  have hm11 : 1 ≤ m1 := by omega
  have HI : Hid (RX w w xs ys n m 9 0 none p 0 n [] es [] xs) := by
    refine ⟨⟨rfl, rfl, Nat.le_refl _, Nat.zero_le _, PL.nil, fun j hj => by omega⟩, ⟨h.el, h.zl, h.cap, h.bnd, h.pl, fun j hj => (h.ev j hj).wide (by decide)⟩, rfl, hx, fun t => ?_, fun t => by simpa [gx] using pw_pos _, hxb, Nat.le_refl _, Nat.zero_le _, Below.refl _ _, ⟨fun a ha => (by cases ha), fun j hj => absurd hj (Nat.not_lt_zero _)⟩⟩
    have h9 : gx (mulp [] ys) t = 0 := by
      rw [gx_mulp]
      have e : ∀ i, ps [] ys i t = 0 := fun i => by
        induction i with
        | zero => rfl
        | succ i ih => rw [ps_none [] ys i t (by simp [gx]), ih]
      exact e _
    rw [h9, Int.zero_add]
  clear h k hx hy hxb hyb hyt hm1
  go_enter Tryz.func44, Tryz.ntmps44
  go_wp2_with fail
  go_loopw [6, 7, 8, 9, 10] (fun qv rv _ _ _ wr => ∃ (j : Nat) (pq pr : Option Addr) (nq nr : Nat) (eq er : List Ent) (qz rz : List Int), qv = .slice pq nq nq ∧ rv = .slice pr nr nr ∧ nr ≤ 9 ∧ j ≤ 9 ∧ Hid (RX w wr xs ys n m 9 j pq pr nq nr eq er qz rz)) (fun _ rv _ _ _ _ => slLen rv)
  case atStart => exact ⟨0, none, p, 0, n, [], es, [], xs, rfl, rfl, hn, by decide, HI.out⟩
  case round =>
    clear HI
    obtain ⟨j, pq, pr, nq, nr, eq, er, qz, rz, rfl, rfl, hnr, hj, HR⟩ := hrel
    have hd1 := rpDeg_any pr nr nr wr (by omega)
    go_wp2_with fail
    refine hd1.mono ?_
    rintro r v1 ⟨rfl, hc1⟩
    have hd2 := rpDeg_any q m1 m1 v1 (by omega)
    clear hd1
    go_wp2_with fail
    refine hd2.mono ?_
    rintro r v2 ⟨rfl, hc2⟩
    clear hd2
    have H2 : Hid (RX w v2 xs ys n m 9 j pq pr nq nr eq er qz rz) := HR.out.later (bnext' hc1 hc2)
    clear HR hc1 hc2
    have hnq : nq ≤ 9 := H2.out.ql
    rcases Nat.lt_or_ge nr m1 with hlt | hge
    · have i2 : ¬ (m1 : Int) - 1 ≤ (nr : Int) - 1 := by omega
      have HG : Hid (RxF xs ys w (.returned (.tuple #[.slice pq nq nq, .bool ((nr : Int) == 0)])) v2) := by
        refine ⟨?_, H2.out.bw⟩
        rcases Nat.eq_zero_or_pos nr with h0 | h0
        · refine .inl ⟨pq, nq, eq, qz, by rw [h0]; rfl, H2.out.q, H2.out.qn, H2.out.ql, fun t => ?_, H2.out.qf⟩
          have h1 := H2.out.e t
          rw [tlen_zero rz t (by rw [H2.out.rn]; omega), Int.add_zero] at h1
          exact h1
        · refine .inr ⟨pq, nq, nq, by rw [show ((nr : Int) == 0) = false by rw [beq_eq_false_iff_ne]; omega], fun hd => ?_⟩
          obtain ⟨pp, hp⟩ := rest_dvd H2.out.e hd
          rcases mult_top HX.out.2.2.2.1 HX.out.2.2.2.2.2.2.1 hp with h1 | ⟨a, -, h1, -⟩
          · have := H2.out.rn; omega
          · have := H2.out.rn; have := HX.out.2.2.2.2.2.2.2; omega
      clear H2
      go_wp2
      go_ret2
      exact HG.out
    · have i2 : (m1 : Int) - 1 ≤ (nr : Int) - 1 := by omega
      have hle1 := rpLead_any H2.out.r (by omega) (by decide)
      go_wp2_with fail
      refine hle1.mono ?_
      rintro r v3 ⟨u3, rfl, hu3, hc3⟩
      clear hle1
      have H3 : Hid (RX w v3 xs ys n m 9 j pq pr nq nr eq er qz rz) := H2.out.later hc3
      have hle2 := rpLead_any (HX.out.2.1.below H3.out.bw) (by omega) (by decide)
      clear H2
      go_wp2_with fail
      refine hle2.mono ?_
      rintro r v4 ⟨u4, rfl, hu4, hc4⟩
      clear hle2
      have hy4 : RE v4 8 (gx ys m) u4 := by
        have h1 := hu4
        rwa [show m1 - 1 = m by have := HX.out.2.2.2.2.2.2.2; omega] at h1
      have hr4 := hu3.below hc4
      have H4 : Hid (RX w v4 xs ys n m 9 j pq pr nq nr eq er qz rz) := H3.out.later hc4
      clear H3 hu3 hu4 hc3 hc4
      have hem : Hid (gx ys m ∣ gx rz (nr - 1) ∨ ¬ gx ys m ∣ gx rz (nr - 1)) := Classical.em _
      rcases hem.out with hdv | hdv
      · have hqu := rQuo_goes hr4 hy4 HX.out.2.2.2.2.2.2.1 hdv (by decide) (by decide)
        clear hem
        go_wp2_with fail
        refine hqu.mono ?_
        rintro r v5 ⟨u5, p5, rfl, hu5, hF5, hc5⟩
        clear hqu hr4 hy4
        have H5 : Hid (RX w v5 xs ys n m 9 j pq pr nq nr eq er qz rz) := H4.out.later hc5
        clear H4
        go_wp2_with fail
        have hal : Below v5.heap.size v5 ((v5.alloc (.cells #[.bool u5.s, .slice u5.p u5.n u5.c] 65)).alloc (.cells #[.bool false, .slice p5 0 0] 65)) := bel_al (bel_al (Below.refl _ _))
        have hX8 : Bx ((v5.alloc (.cells #[.bool u5.s, .slice u5.p u5.n u5.c] 65)).alloc (.cells #[.bool false, .slice p5 0 0] 65)) v5.heap.size (.bool u5.s) (.slice u5.p u5.n u5.c) := (Bx.new _ _ _ rfl).alloc _
        have H6 := (show Hid _ from H5.out.later hal)
        have hu6 := hu5.below hal
        have hult := (lasts_RE 100).lt hu5
        generalize ((v5.alloc (.cells #[.bool u5.s, .slice u5.p u5.n u5.c] 65)).alloc (.cells #[.bool false, .slice p5 0 0] 65)) = W5 at *
        generalize v5.heap.size = g8 at *
        have hsg := rSign_e (re_none W5 p5)
        refine hsg.mono ?_
        rintro r v6 ⟨rfl, hc6⟩
        have his0 : isgn 0 = 0 := by decide
        rw [his0]
        have hX9 := hX8.later hc6
        have hu7 := hu6.below hc6
        have H7 := (show Hid _ from H6.out.later hc6)
        clear hsg hal hX8 hu6 H6 H5 hu5 hc5 hc6 his0 hF5
        have hd1 := rpDeg_any pr nr nr v6 (by omega)
        go_wp2_with fail
        refine hd1.mono ?_
        rintro r v7 ⟨rfl, hc7⟩
        have hd2 := rpDeg_any q m1 m1 v7 (by omega)
        clear hd1
        go_wp2_with fail
        refine hd2.mono ?_
        rintro r v8 ⟨rfl, hc8⟩
        clear hd2
        have hB8 := bnext' hc7 hc8
        obtain ⟨kd, hkd⟩ : ∃ kd, kd = nr - m1 := ⟨_, rfl⟩
        obtain ⟨kt, hkt⟩ : ∃ kt, kt = kd + 1 := ⟨_, rfl⟩
        have j1 : (nr : Int) - 1 - ((m1 : Int) - 1) + 1 = (kt : Int) := by omega
        have j2 : (kt : Int) - 1 = (kd : Int) := by omega
        have j3 : (kd : Int) < (kt : Int) := by omega
        have j4 : (0 : Int) ≤ (kd : Int) := by omega
        have v1' : IntKind.i64.wrap (kd : Int) = (kd : Int) := by rw [IntKind.wrap_i64]; omega
        have v2' : IntKind.i64.wrap (kt : Int) = (kt : Int) := by rw [IntKind.wrap_i64]; omega
        have hkt9 : kt ≤ 9 := by omega
        have HK : Hid (kd = nr - m1 ∧ kt = kd + 1) := ⟨hkd, hkt⟩
        have hmk := mk_rpoly kt (by omega)
        have hX10 := hX9.later hB8
        have hu8 := hu7.below hB8
        have H8 := (show Hid _ from H7.out.later hB8)
        have hg8 : g8 < v8.heap.size := block_lt_of_cell hX10.c0
        have hgq := H8.out.q.lt' (Nat.le_refl _)
        have hgr := H8.out.r.lt' (Nat.le_refl _)
        have hgw : w.heap.size ≤ v8.heap.size := H8.out.bw.size
        clear hkd hkt hX9 hu7 H7 hB8 hc7 hc8
        go_upto_region 10 with fail
        clear hmk
        have hR0 := Row2.new v8 65 (ezs kt)
        have halm : Below v8.heap.size v8 (v8.alloc (.cells (ca2 (ezs kt)) 65)) := bel_al (Below.refl _ _)
        have hX11 := hX10.later halm
        have hu9 := hu8.below halm
        have H9 := (show Hid _ from H8.out.later halm)
        generalize v8.alloc (.cells (ca2 (ezs kt)) 65) = W8 at *
        generalize v8.heap.size = gt at *
        obtain ⟨b0, b1, -, -⟩ := id hX11
        obtain ⟨x0, x1⟩ := hR0.cell kd (by rw [length_ezs]; omega)
        have f0 := hR0.frozen (kd * 2)
        have f1 := hR0.frozen (kd * 2 + 1)
        obtain ⟨cq, hcq⟩ : ∃ cq, cq = gx rz (nr - 1) / gx ys m := ⟨_, rfl⟩
        rw [← hcq] at hu9
        have HT : Hid (PR ((W8.setCell ⟨gt, kd * 2, none⟩ (.bool u5.s)).setCell ⟨gt, kd * 2 + 1, none⟩ (.slice u5.p u5.n u5.c)) 100 (some ⟨gt, 0, none⟩) kt kt ((ezs kt).set kd u5) (mono kd cq) ∧ RX w ((W8.setCell ⟨gt, kd * 2, none⟩ (.bool u5.s)).setCell ⟨gt, kd * 2 + 1, none⟩ (.slice u5.p u5.n u5.c)) xs ys n m 9 j pq pr nq nr eq er qz rz ∧ cq = gx rz (nr - 1) / gx ys m) := by
          have hkk := HK.out
          have hoff : 0 < u5.n → Off gt u5.p := fun h0 a ha e => by have := hult h0 a ha; omega
          refine ⟨⟨by rw [List.length_set, length_ezs], by rw [length_mono]; exact hkk.2.symm, Nat.le_refl _, by unfold maxLen; omega, (hR0.set kd u5 (by rw [length_ezs]; omega)).pl, fun t ht => ?_⟩, ?_, hcq⟩
          · rw [gx_mono]
            by_cases he : t = kd
            · subst he
              rw [if_pos rfl, ge_set_same _ _ _ (by rw [length_ezs]; omega)]
              exact hu9.set2 hoff
            · rw [if_neg he, ge_set_other _ _ _ _ he, ge_ezs]
              exact (RF.ez 0 _ 100).1
          · exact H9.out.gset (by omega) hgq hgr
        clear hX10 hX11 hu8 hu9 H8 H9 hR0 halm hult hcq hgq hgr
        go_wp2_with fail
        clear x0 x1 f0 f1 b0 b1
        generalize (W8.setCell ⟨gt, kd * 2, none⟩ (.bool u5.s)).setCell ⟨gt, kd * 2 + 1, none⟩ (.slice u5.p u5.n u5.c) = W9 at *
        have hcb : (cq.natAbs : Int) < pw (4 + 5 * j) := by
          rw [HT.out.2.2]
          have h1 := Int.natAbs_ediv_le_natAbs (gx rz (nr - 1)) (gx ys m)
          have h2 := HT.out.2.1.rb (nr - 1)
          omega
        have hj8 : j ≤ 8 := by have := HT.out.2.1.le; omega
        have HC : Hid (cq * gx ys m = gx rz (nr - 1) ∧ cq ≠ 0 ∧ (cq.natAbs : Int) < pw (4 + 5 * j)) := by
          have h1 : cq * gx ys m = gx rz (nr - 1) := by rw [HT.out.2.2]; exact Int.ediv_mul_cancel hdv
          refine ⟨h1, fun h0 => ?_, hcb⟩
          rw [h0, Int.zero_mul] at h1
          have h2 := tlen_top rz (by rw [HT.out.2.1.rn]; omega)
          rw [HT.out.2.1.rn] at h2
          exact h2 h1.symm
        clear hcb hdv
        have had := rpAdd_new HT.out.2.1.q HT.out.1 (by omega) (by omega) (by decide) (by decide) (by decide) (by decide)
        refine had.mono ?_
        rintro r x1 ⟨pq2, nq2, eq2, rfl, hq2, hqF, hqt, hqF2, hd1⟩
        clear had
        have hmu := rpMul_any (K := 49) (L := 4) (HT.out.1.below hd1) (HX.out.2.1.below (bnext' HT.out.2.1.bw hd1)) (by rw [mono_nrm HC.out.2.1, length_mono]) (by rw [HX.out.2.1.zl, HX.out.2.2.2.2.2.2.2]; exact tlen_eq _ _ (fun i hi => gx_past ys (m + 1) (by rw [HX.out.2.2.2.1]; exact Nat.le_refl _) i hi) (.inr (by rw [Nat.add_sub_cancel]; exact HX.out.2.2.2.2.2.2.1))) (by omega) (by omega) (by decide) (by decide) (fun i => by
          rw [gx_mono]
          split
          · exact Int.lt_of_lt_of_le HC.out.2.2 (pw_mono (by omega))
          · simpa using pw_pos 49) HX.out.2.2.2.2.2.1 (by decide)
        go_wp2_with fail
        refine hmu.mono ?_
        rintro r x2 ⟨pm, nm, em, rfl, hm2, -, hmt, hd2⟩
        clear hmu
        have hnm : nm ≤ 20 := by
          have h1 := hm2.zl
          unfold mulp at h1
          split at h1
          · simp at h1; omega
          · rw [length_mulz, length_mono, HX.out.2.2.2.1] at h1
            have := HK.out.2; have := HX.out.2.2.2.2.2.2.2; omega
        have hsu := rpSub_any (HT.out.2.1.r.below (bnext' hd1 hd2)) hm2 (by omega) (by omega) (by decide) (by decide) (by decide)
        go_wp2_with fail
        refine hsu.mono ?_
        rintro r x3 ⟨pr2, nr2, er2, rfl, hr2, -, hrt, hd3⟩
        clear hsu
        obtain ⟨k1, k2, k3, k4, k5⟩ := rx_step (nq := nq) (k := 9) (n := n) HX.out.2.2.2.1 HX.out.2.2.2.2.2.1 HT.out.2.1.rn (by have := HX.out.2.2.2.2.2.2.2; omega) HC.out.1 HC.out.2.1 HT.out.2.1.e HT.out.2.1.qb HT.out.2.1.rb HC.out.2.2 HT.out.2.1.ql HT.out.2.1.qn (by omega)
        have hkm : nr - (m + 1) = kd := by have := HK.out.1; have := HX.out.2.2.2.2.2.2.2; omega
        rw [hkm] at k1 k2 k3 k4 k5
        have hnr2 : nr2 < nr := by rw [← hrt]; exact k4
        have HN : Hid (RX w x3 xs ys n m 9 (j + 1) pq2 pr2 nq2 nr2 eq2 er2 (tr (pz (· + ·) qz (mono kd cq))) (tr (pz (· - ·) rz (mulp (mono kd cq) ys)))) := by
          have hw50 : pw (4 + 5 * (j + 1)) ≤ pw 50 := pw_mono (by omega)
          exact ⟨((hq2.below hd2).below hd3).fit (M := 50) (fun t => Int.lt_of_lt_of_le (k2 t) hw50), hr2.fit (M := 50) (fun t => Int.lt_of_lt_of_le (k3 t) hw50), hqt, hrt, k1, k2, k3, by have := HT.out.2.1.le; omega, by rw [← hqt]; exact k5, bnext' (bnext' (bnext' HT.out.2.1.bw hd1) hd2) hd3, ⟨fun a ha => Nat.le_trans HT.out.2.1.bw.size (hqF a ha), fun t ht h0 a ha => Nat.le_trans HT.out.2.1.bw.size (hqF2 t ht h0 a ha)⟩⟩
        clear hq2 hqF hqF2 hm2 hr2 hqt hmt hrt hd1 hd2 hd3 k1 k2 k3 k4 k5 HT HC
        go_wp2
        refine ⟨⟨j + 1, pq2, pr2, nq2, nr2, eq2, er2, _, _, rfl, rfl, by omega, by omega, HN.out⟩, ?_⟩
        simp [slLen]
        omega
      · have hqu := rQuo_left hr4 hy4 HX.out.2.2.2.2.2.2.1 hdv (by decide) (by decide)
        clear hem
        go_wp2_with fail
        refine hqu.mono ?_
        rintro r v5 ⟨u5, u6, rfl, ⟨N, z, hu6, hz⟩, hc5⟩
        clear hqu hr4 hy4
        go_wp2_with fail
        have hal : Below v5.heap.size v5 ((v5.alloc (.cells #[.bool u5.s, .slice u5.p u5.n u5.c] 65)).alloc (.cells #[.bool u6.s, .slice u6.p u6.n u6.c] 65)) := bel_al (bel_al (Below.refl _ _))
        have HNG : Hid (¬ Dvd xs ys) := fun hd => by
          obtain ⟨pp, hp⟩ := rest_dvd H4.out.e hd
          rcases mult_top HX.out.2.2.2.1 HX.out.2.2.2.2.2.2.1 hp with h1 | ⟨a, -, h1, h2⟩
          · have := H4.out.rn; omega
          · refine hdv ?_
            rw [show nr - 1 = m + a by have := H4.out.rn; omega, h2]
            exact ⟨gx pp a, Int.mul_comm _ _⟩
        have HBW : Hid (Below w.heap.size w ((v5.alloc (.cells #[.bool u5.s, .slice u5.p u5.n u5.c] 65)).alloc (.cells #[.bool u6.s, .slice u6.p u6.n u6.c] 65))) := bnext' (bnext' H4.out.bw hc5) hal
        have hsg := rSign_e (hu6.below hal)
        generalize ((v5.alloc (.cells #[.bool u5.s, .slice u5.p u5.n u5.c] 65)).alloc (.cells #[.bool u6.s, .slice u6.p u6.n u6.c] 65)) = W5 at *
        refine hsg.mono ?_
        rintro r v6 ⟨rfl, hc6⟩
        have hi : isgn z = 1 ∨ isgn z = -1 := by
          rcases (show 0 < z ∨ z < 0 by omega) with h1 | h1
          · exact .inl (isgn_pos h1)
          · exact .inr (isgn_neg h1)
        have HF : Hid (RxF xs ys w (.returned (.tuple #[.slice none (0 : Nat) (0 : Nat), .bool false])) v6) := ⟨.inr ⟨none, 0, 0, rfl, HNG.out⟩, bnext' HBW.out hc6⟩
        clear hsg hal hu6 hz hdv H4 HNG HBW hc5 hc6
        rcases hi with hi | hi
        all_goals
          rw [hi]
          go_wp2
          go_ret2
          exact HF.out
end Go.Proofs.YtdjjlghlcffflaaGreatDoor
