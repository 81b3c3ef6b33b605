/-
  RootsTimes' walk: its beginning.
-/
import Derived.Test.YtejnhpjejcpekaaGreatDoorDnU7W1U9
import Derived.Test.YtejnhpjejcpekaaGreatDoorKdRzCwDjVkJoDwIqDeDgIp
import Derived.Test.YtejnhpjejcpekaaGreatDoorIrItUzUrUsHaHbHcHdHeVdRsVfPcVcDuDiIu
import Derived.Test.YtejnhpjejcpekaaGreatDoorVbDaCxRbCyViVuWxUpUq
import Derived.Test.YtejnhpjejcpekaaGreatDoorOaOfJpDhFr
namespace Go.Proofs.YtejnhpjejcpekaaGreatDoor
open Go.RowKit
set_option linter.unusedVariables false
set_option linter.unusedSimpArgs false
set_option maxHeartbeats 8000000
theorem cutOne_any {w W : World} {e : Ent} {g : Nat} (he : RawE w e) (hW : Below w.heap.size w W) (c0 : W.cell? ⟨g, 0, none⟩ = some (.bool e.s)) (c1 : W.cell? ⟨g, 1, none⟩ = some (.slice e.p e.n e.c)) (L : Nat) (hL : L ≤ 24) :
    Calls Tryz.prog 11 #[.slice (some ⟨g, 0, none⟩) (1 : Nat) (1 : Nat), .int .i64 1, .int .i64 L] W fun r w' => ∃ (b o c : Nat) (u : Ent) (y : Int), r = .returned (.slice (some ⟨b, o, none⟩) (1 : Nat) c) ∧ w'.cell? ⟨b, o, none⟩ = some (.bool u.s) ∧ w'.cell? ⟨b, o + 1, none⟩ = some (.slice u.p u.n u.c) ∧ EV w' L y u ∧ (0 < u.n → Go.Proofs.YtejnhpjejcpekaaGreatDoor.From W.heap.size u.p) ∧ Below W.heap.size W w' := by
  refine (Cut3_any (pz_lit c0 c1 (he.below hW)) 1 L (by decide) hL).mono ?_
  rintro r w' ⟨q, m, mc, fs, zs, rfl, hP, hm, hF, hF2, hb⟩
  obtain rfl : m = 1 := by omega
  obtain ⟨b, o, hp, hc⟩ := hP.pl (by rw [hP.el]; decide)
  subst hp
  obtain ⟨d0, d1⟩ := hc 0 (by rw [hP.el]; decide)
  simp only [Nat.zero_mul, Nat.add_zero] at d0 d1
  exact ⟨b, o, mc, ge fs 0, gx zs 0, rfl, d0, d1, hP.ev 0 (by decide), hF2 0 (by decide), hb⟩
theorem pa_one {W : World} {K g : Nat} {z : Int} {e : Ent} (h0 : W.cell? ⟨g, 0, none⟩ = some (.bool e.s)) (h1 : W.cell? ⟨g, 1, none⟩ = some (.slice e.p e.n e.c)) (hv : EV W K z e) : PA W K (some ⟨g, 0, none⟩) 1 1 [e] [z] :=
  ⟨rfl, rfl, Nat.le_refl _, by decide, nofun, fun _ => ⟨g, 0, rfl, fun j hj => by
    obtain rfl : j = 0 := by simp at hj; omega
    exact ⟨h0, h1⟩⟩, fun j hj => by
    obtain rfl : j = 0 := by omega
    exact hv⟩
def mlk (x : Int) (zs : List Int) : Nat → List Int
  | 0 => zs
  | i + 1 => mulp (mlk x zs i) (lin x)
theorem mlk_nrm {x : Int} {zs : List Int} (h : tlen zs = zs.length) : ∀ i, tlen (mlk x zs i) = (mlk x zs i).length
  | 0 => h
  | i + 1 => mlin_nrm x (mlk_nrm h i)
theorem mlk_len {x : Int} {zs : List Int} : ∀ i, (mlk x zs i).length ≤ zs.length + i
  | 0 => Nat.le_refl _
  | i + 1 => by
    have ih := mlk_len (x := x) (zs := zs) i
    rw [mlk]
    rcases Nat.eq_zero_or_pos (mlk x zs i).length with h0 | h0
    · rw [List.length_eq_zero_iff.1 h0, mlin_nil]
      simp
    · rw [mlin_len _ h0]
      omega
theorem mlk_bd {x : Int} {zs : List Int} {K : Nat} (hz : ∀ t, ((gx zs t).natAbs : Int) < pw K) (hx : (x.natAbs : Int) < pw 2) : ∀ i t, ((gx (mlk x zs i) t).natAbs : Int) < pw (K + 3 * i)
  | 0, t => hz t
  | i + 1, t => by
    have h := mlin_lt (L := 2) (mlk_bd hz hx i) hx t
    rwa [show K + 3 * (i + 1) = K + 3 * i + 2 + 1 by omega]
structure RtS (w v : World) (gn : Nat) (xe ne : Ent) (x : Int) : Prop where
  xv : EV v 2 x xe
  xb : Bx v w.heap.size (.bool xe.s) (.slice xe.p xe.n xe.c)
  nv : RE v 4 x ne
  nb : Bx v gn (.bool ne.s) (.slice ne.p ne.n ne.c)
  b : Below w.heap.size w v
theorem RtS.later {w v v' : World} {gn : Nat} {xe ne : Ent} {x : Int} (k : RtS w v gn xe ne x) (hb : Below v.heap.size v v') : RtS w v' gn xe ne x := ⟨k.xv.below hb, k.xb.later hb, k.nv.below hb, k.nb.later hb, bnext' k.b hb⟩
structure RtL (w v : World) (gn : Nat) (xe ne : Ent) (x : Int) (zs : List Int) (i : Nat) (q : Option Addr) (m : Nat) (qs : List Ent) : Prop where
  s : RtS w v gn xe ne x
  p : PR v 40 q m m qs (mlk x zs i)
theorem RtL.later {w v v' : World} {gn : Nat} {xe ne : Ent} {x : Int} {zs : List Int} {i : Nat} {q : Option Addr} {m : Nat} {qs : List Ent} (k : RtL w v gn xe ne x zs i q m qs) (hb : Below v.heap.size v v') : RtL w v' gn xe ne x zs i q m qs := ⟨k.s.later hb, k.p.below hb⟩
theorem times_told {w : World} {K L : Nat} {p : Option Addr} {n nc : Nat} {es : List Ent} {zs : List Int} {x : Int} {e : Ent} (h : PA w K p n nc es zs) (hx : EV w L x e) (hn : n ≤ 1000) (hK : K + n ≤ 70) (hL : L ≤ 70) :
    Calls Tryz.prog 15 #[.slice p n nc, .agg #[.bool e.s, .slice e.p e.n e.c]] w fun r w' => ∃ (t : Nat) (er : Int), r = .returned (.tuple #[.int .i64 t, .int .i64 er]) ∧ Hid ((tlen zs = 0 → t = 0 ∧ er = 2) ∧ (tlen zs ≠ 0 → er = 0 ∧ ∃ ys, Rsd x (tr zs) ys t)) ∧ Below w.heap.size w w' := by
  refine (rtTimes_any h hx hn hK hL).mono ?_
  rintro r w' ⟨h1, h2, h3⟩
  by_cases h0 : tlen zs = 0
  · exact ⟨0, 2, h1 h0, ⟨fun _ => ⟨rfl, rfl⟩, fun h => absurd h0 h⟩, h3⟩
  · obtain ⟨k, ys, h4, h5⟩ := h2 h0
    exact ⟨k, 0, h4, ⟨fun h => absurd h h0, fun _ => ⟨rfl, ys, h5⟩⟩, h3⟩
theorem without_told {w : World} {K L : Nat} {p : Option Addr} {n nc : Nat} {es : List Ent} {zs : List Int} {xp : Option Addr} {nx xc : Nat} {xes : List Ent} {xs : List Int} (h : PA w K p n nc es zs) (hx : PA w L xp nx xc xes xs) (hn : n ≤ 1000) (hK : K + (nx + 1) * n ≤ 70) (hL : L ≤ 70) (hnx : nx ≤ 1000) :
    Calls Tryz.prog 17 #[.slice p n nc, .slice xp nx xc] w fun r w' => ∃ (q : Option Addr) (m c : Nat) (er : Int), r = .returned (.tuple #[.slice q m c, .int .i64 er]) ∧ Hid ((tlen zs = 0 → m = 0 ∧ er = 2) ∧ (tlen zs ≠ 0 → er = 0 ∧ ∃ qs ys, PC w.heap.size w' (K + nx * n) q m c qs ys ∧ m ≤ n ∧ chn xs nx (tr zs) ys)) ∧ Below w.heap.size w w' := by
  refine (rtWithout_any h hx hn hK hL hnx).mono ?_
  rintro r w' ⟨h1, h2, h3⟩
  by_cases h0 : tlen zs = 0
  · exact ⟨none, 0, 0, 2, h1 h0, ⟨fun _ => ⟨rfl, rfl⟩, fun h => absurd h0 h⟩, h3⟩
  · obtain ⟨q, m, c, qs, ys, h4, h5, h6, h7⟩ := h2 h0
    exact ⟨q, m, c, 0, h4, ⟨fun h => absurd h h0, fun _ => ⟨rfl, qs, ys, h5, h6, h7⟩⟩, h3⟩
theorem to_nine {w : World} {q : Option Addr} {m : Nat} {qs : List Ent} {Z : List Int} (h : PR w 40 q m m qs Z) (hm : m ≤ 9) : Calls Tryz.prog 16 #[.slice q m m] w fun r w' => ∃ (q' : Option Addr) (m' mc : Nat) (fs : List Ent), r = .returned (.slice q' m' mc) ∧ PA w' 20 q' m' mc fs Z ∧ m' ≤ 9 ∧ Below w.heap.size w w' := by
  refine (rpTo_any (K := 20) h (by omega) (by decide) (by decide)).mono ?_
  rintro r w' ⟨q', m', mc, fs, rfl, hA, hb⟩
  exact ⟨q', m', mc, fs, rfl, hA, by rw [← hA.zl, h.zl]; exact hm, hb⟩
set_option maxRecDepth 100000 in
theorem RootsTimes_walk {w : World} {e : Ent} {p : Option Addr} {n nc : Nat} {es0 : List Ent} {kz : Int} (he : RawE w e) (h : PZ w p n nc es0) (hkz : -9223372036854775808 ≤ kz ∧ kz ≤ 9223372036854775807) :
    Calls Tryz.prog 3 #[.slice p n nc, .agg #[.bool e.s, .slice e.p e.n e.c], .int .i64 kz] w fun r w' => r = .returned (.bool true) ∧ Below w.heap.size w w' := by
  have HX : Hid (RawE w e ∧ PZ w p n nc es0) := ⟨he, h⟩
  clear h he
  have hW0 : Below w.heap.size w (w.alloc (.cells #[.bool e.s, .slice e.p e.n e.c] 26)) := (Below.refl _ _).alloc (Nat.le_refl _) _
  have hBx : Bx (w.alloc (.cells #[.bool e.s, .slice e.p e.n e.c] 26)) w.heap.size (.bool e.s) (.slice e.p e.n e.c) := Bx.new _ _ _ rfl
  go_enter Tryz.func3, Tryz.ntmps3
  go_wp2_with fail
  go_fit (begun4_any _)
  rintro e1 W ⟨rfl, hb1⟩
  have hW := bnext' hW0 hb1
  have HBx : Hid (Bx W w.heap.size (.bool e.s) (.slice e.p e.n e.c)) := hBx.later hb1
  clear hBx hb1 hW0
  go_wp2_with fail
  go_fit (Cut3_any (HX.out.2.below hW) 5 2 (by decide) (by decide))
  rintro r w1 ⟨q1, m1, c1, f1, zs, rfl, hP1, hm1, -, -, hb1⟩
  have hm5 : m1 ≤ 5 := by omega
  clear hm1
  have hfr := rpFrom_new hP1 (by omega) (by decide)
  have HP1 : Hid (PA w1 2 q1 m1 c1 f1 zs ∧ Below w.heap.size w w1 ∧ Bx w1 w.heap.size (.bool e.s) (.slice e.p e.n e.c)) := ⟨hP1, bnext' hW hb1, HBx.out.later hb1⟩
  clear hP1 hb1 hW HBx
  go_wp2_with fail
  go_fit hfr
  rintro r w2 ⟨q2, m2, f2, rfl, hP2, hF2, ht2, hE2, hb2⟩
  have HP2 : Hid (PR w2 4 q2 m2 m2 f2 (tr zs) ∧ tlen (tr zs) = m2 ∧ m2 ≤ 5 ∧ Below w.heap.size w w2 ∧ Bx w2 w.heap.size (.bool e.s) (.slice e.p e.n e.c) ∧ (∀ t, ((gx (tr zs) t).natAbs : Int) < pw 2) ∧ (0 < m2 → Off w.heap.size q2) ∧ ∀ j, j < m2 → 0 < (ge f2 j).n → Off w.heap.size (ge f2 j).p) := ⟨hP2, ht2, by have := hP2.zl; have := HP1.out.1.zl; have h9 := length_tr zs; have := tlen_le zs; omega, bnext' HP1.out.2.1 hb2, HP1.out.2.2.later hb2, fun t => by rw [gx_tr]; exact HP1.out.1.gbd t, fun _ => off_from hF2 (block_lt_of_cell HP1.out.2.2.c0), fun j hj h0 => off_from (hE2 j hj h0) (block_lt_of_cell HP1.out.2.2.c0)⟩
  obtain ⟨x0, x1, -, -⟩ := id HP2.out.2.2.2.2.1
  clear hfr hP2 hF2 hE2 ht2 hb2 HP1 hm5
  have hal := bel_al (o := .cells #[.bool e.s, .slice e.p e.n e.c] 26) (Below.refl w2.heap.size w2)
  obtain ⟨d0, d1⟩ := cells_lit w2 (.bool e.s) (.slice e.p e.n e.c) 26
  have hcut := cutOne_any HX.out.1 (bnext' HP2.out.2.2.2.1 hal) d0 d1 2 (by decide)
  go_wp2_with fail
  clear d0 d1
  have HA : Hid (Below w2.heap.size w2 (w2.alloc (.cells #[.bool e.s, .slice e.p e.n e.c] 26))) := hal
  generalize w2.alloc (.cells #[.bool e.s, .slice e.p e.n e.c] 26) = W2 at *
  go_fit hcut
  rintro r w3 ⟨b3, o3, c3, xe, x, rfl, d0, d1, hxv, hxf, hb3⟩
  have HB3 : Hid (Below w2.heap.size w2 w3) := bnext' HA.out hb3
  have hXb := HP2.out.2.2.2.2.1.later HB3.out
  obtain ⟨-, -, g0, g1⟩ := id hXb
  have y0 := hXb.c0
  have y1 := hXb.c1
  have hlt : w.heap.size < W2.heap.size := Nat.lt_of_lt_of_le (block_lt_of_cell HP2.out.2.2.2.2.1.c0) HA.out.size
  have hxo : 0 < xe.n → Off w.heap.size xe.p := fun h0 => off_from (hxf h0) hlt
  have HS : Hid (EV ((w3.setCell ⟨w.heap.size, 0, none⟩ (.bool xe.s)).setCell ⟨w.heap.size, 1, none⟩ (.slice xe.p xe.n xe.c)) 2 x xe ∧ Bx ((w3.setCell ⟨w.heap.size, 0, none⟩ (.bool xe.s)).setCell ⟨w.heap.size, 1, none⟩ (.slice xe.p xe.n xe.c)) w.heap.size (.bool xe.s) (.slice xe.p xe.n xe.c) ∧ Below w.heap.size w ((w3.setCell ⟨w.heap.size, 0, none⟩ (.bool xe.s)).setCell ⟨w.heap.size, 1, none⟩ (.slice xe.p xe.n xe.c)) ∧ PR ((w3.setCell ⟨w.heap.size, 0, none⟩ (.bool xe.s)).setCell ⟨w.heap.size, 1, none⟩ (.slice xe.p xe.n xe.c)) 4 q2 m2 m2 f2 (tr zs)) :=
    ⟨hxv.set2 hxo, Bx_set hXb, bset2 (bnext' HP2.out.2.2.2.1 HB3.out) (Nat.le_refl _) _ _, (HP2.out.1.below HB3.out).gset HP2.out.2.2.2.2.2.2.1 HP2.out.2.2.2.2.2.2.2⟩
  have HZ : Hid (tlen (tr zs) = m2 ∧ m2 ≤ 5 ∧ ∀ t, ((gx (tr zs) t).natAbs : Int) < pw 2) := ⟨HP2.out.2.1, HP2.out.2.2.1, HP2.out.2.2.2.2.2.1⟩
  clear hcut hxf hxv hxo hlt hb3 HB3 hXb HA HP2 hal x0 x1
  go_wp2_with fail
  clear g0 g1 y0 y1 d0 d1
  generalize (w3.setCell ⟨w.heap.size, 0, none⟩ (.bool xe.s)).setCell ⟨w.heap.size, 1, none⟩ (.slice xe.p xe.n xe.c) = W3 at *
  go_fit (rFrom_e HS.out.1)
  rintro r w4 ⟨ne, rfl, hne, -, hb4⟩
  have hal := bel_al (o := .cells #[.bool ne.s, .slice ne.p ne.n ne.c] 34) (Below.refl w4.heap.size w4)
  have hB5 := bnext' hb4 hal
  have HT : Hid (RtL w (w4.alloc (.cells #[.bool ne.s, .slice ne.p ne.n ne.c] 34)) w4.heap.size xe ne x (tr zs) 0 q2 m2 f2) := ⟨⟨HS.out.1.below hB5, HS.out.2.1.later hB5, hne.below hal, Bx.new _ _ _ rfl, bnext' HS.out.2.2.1 hB5⟩, (HS.out.2.2.2.below hB5).wide (by decide)⟩
  have HV : Hid (tlen (tr zs) = (tr zs).length ∧ (tr zs).length = m2 ∧ m2 ≤ 5 ∧ (∀ t, ((gx (tr zs) t).natAbs : Int) < pw 2) ∧ (x.natAbs : Int) < pw 2) := by
    have h1 := HS.out.2.2.2.zl
    exact ⟨by rw [HZ.out.1, h1], h1, HZ.out.2.1, HZ.out.2.2, HS.out.1.bd⟩
  clear hne hb4 hal hB5 HS HZ HX
  go_wp2_with fail
  generalize w4.alloc (.cells #[.bool ne.s, .slice ne.p ne.n ne.c] 34) = W5 at *
  generalize w4.heap.size = gn at *
  generalize tr zs = z0 at *
  go_loopw [8, 10] (fun qv iv wr => ∃ (i : Nat) (q : Option Addr) (m : Nat) (qs : List Ent), i ≤ 4 ∧ qv = .slice q m m ∧ iv = .int .i64 i ∧ Hid (RtL w wr gn xe ne x z0 i q m qs)) (fun _ iv _ => 4 - (intOf iv).toNat)
  case atStart => exact ⟨0, q2, m2, f2, by decide, rfl, by go_num, HT.out⟩
  case round =>
    clear HT
    obtain ⟨i, q, m, qs, hi, rfl, rfl, H⟩ := hrel
    by_cases hik : (i : Int) < kz ∧ i < 4
    · obtain ⟨hk1, hk2⟩ := hik
      have hk3 : (i : Int) < 4 := by omega
      obtain ⟨x0, x1, -, -⟩ := id H.out.s.nb
      have hli := rLine_any H.out.s.nv
      go_wp2_with fail
      go_fit hli
      rintro r w6 ⟨g6, f6, rfl, hL, -, hb6⟩
      have hml := mlk_nrm (x := x) HV.out.1 i
      have hlen := mlk_len (x := x) (zs := z0) i
      have hlx : ∀ t, ((gx (lin x) t).natAbs : Int) < pw 2 := fun t => by
        rcases t with _ | _ | t
        · show ((-x).natAbs : Int) < pw 2
          rw [Int.natAbs_neg]
          exact HV.out.2.2.2.2
        · show ((1 : Int).natAbs : Int) < pw 2
          decide
        · rw [gx_past (lin x) 2 (by simp [lin]) _ (by omega)]
          exact pw_pos 2
      have hmu := rpMul_any (K := 2 + 3 * i) (L := 2) (H.out.p.below hb6) hL hml (by rw [lin_tl]; rfl) (by have := H.out.p.zl; have := HV.out.2.1; have := HV.out.2.2.1; omega) (by decide) (by decide) (by decide) (mlk_bd HV.out.2.2.2.1 HV.out.2.2.2.2 i) hlx (by omega)
      have H6 : Hid (RtL w w6 gn xe ne x z0 i q m qs) := H.out.later hb6
      clear hli hL hb6 H x0 x1 hml hlx hlen
      go_wp2_with fail
      go_fit hmu
      rintro r w7 ⟨q7, m7, f7, rfl, hP7, -, -, hb7⟩
      have H7 : Hid (RtL w w7 gn xe ne x z0 (i + 1) q7 m7 f7) := ⟨H6.out.s.later hb7, hP7.wide (by omega)⟩
      clear hmu hP7 hb7 H6
      go_wp2
      exact ⟨⟨i + 1, q7, m7, f7, by omega, rfl, by go_num, H7.out⟩, by simp [intOf]; omega⟩
    · have hml := mlk_nrm (x := x) HV.out.1 i
      have hlen := mlk_len (x := x) (zs := z0) i
      have HZ : Hid (tlen (mlk x z0 i) = m ∧ m ≤ 9 ∧ (∀ t, ((gx (mlk x z0 i) t).natAbs : Int) < pw 14)) := by
        have h1 := H.out.p.zl
        have h2 := HV.out.2.1
        have h3 := HV.out.2.2.1
        exact ⟨by omega, by omega, fun t => Int.lt_of_lt_of_le (mlk_bd HV.out.2.2.2.1 HV.out.2.2.2.2 i t) (pw_mono (by omega))⟩
      have HQ : Hid (RtS w wr gn xe ne x ∧ PR wr 40 q m m qs (mlk x z0 i)) := ⟨H.out.s, H.out.p⟩
      have hcs : Hid ((¬ (i : Int) < kz) ∨ ((i : Int) < kz ∧ i = 4)) := by show _ ∨ _; omega
      clear hml hlen H HV hik
      generalize mlk x z0 i = Z at *
      have hto := fun v (hb : Below wr.heap.size wr v) => to_nine (HQ.out.2.below hb) HZ.out.2.1
      obtain ⟨x0, x1, -, -⟩ := id HQ.out.1.xb
      rcases hcs.out with h9 | ⟨h9, h8⟩
      all_goals
        clear hcs
        (try subst h8)
        go_wp2_with fail
        go_region_held3 (fun w' => w'.cell? ⟨w.heap.size, 0, none⟩ = some (.bool xe.s) ∧ w'.cell? ⟨w.heap.size, 1, none⟩ = some (.slice xe.p xe.n xe.c)) (first | with_reducible exact ⟨x0, x1⟩ | with_reducible exact ⟨p0, p1⟩ | with_reducible exact ⟨q0, q1⟩ | (simp [go_sem, *]; done))
          (first
            | (go_at_call 16; go_fit (hto _ (Below.refl _ _).drew); rintro r' v2 ⟨q2', m2', c2', f2', rfl, hA, hm2, hb2⟩; have hV2 := undrew hb2; have p0 := cell_later hV2 x0; have p1 := cell_later hV2 x1)
            | (go_at_call 15; go_fit (times_told hA (HQ.out.1.xv.below hV2) (by omega) (by omega) (by decide)); rintro r' v3 ⟨tt, et, rfl, HTI, hb3⟩; have hV3 := bnext' hV2 hb3; have q0 := cell_later hb3 p0; have q1 := cell_later hb3 p1))
        all_goals
          have H3 : Hid (RtS w v3 gn xe ne x ∧ PR v3 40 q m m qs Z) := ⟨HQ.out.1.later hV3, HQ.out.2.below hV3⟩
          clear hto x0 x1 hA hm2 hb2 hV2 p0 p1 hb3 hV3 HQ
          have hto := fun v (hb : Below v3.heap.size v3 v) => to_nine (H3.out.2.below hb) HZ.out.2.1
          have hxv := H3.out.1.xv
          go_wp2_with fail
          go_region_held3 (fun w' => w'.cell? ⟨w.heap.size, 0, none⟩ = some (.bool xe.s) ∧ w'.cell? ⟨w.heap.size, 1, none⟩ = some (.slice xe.p xe.n xe.c)) (first | with_reducible exact ⟨q0, q1⟩ | with_reducible exact keepc2 ⟨q0, q1⟩ (bel_al (Below.refl _ _)) | with_reducible exact keepc2 ⟨q0, q1⟩ (bel_al (Below.refl _ _)).drew | with_reducible exact ⟨r0, r1⟩ | with_reducible exact keepc2 ⟨r0, r1⟩ (bel_al (Below.refl _ _)) | with_reducible exact ⟨s0, s1⟩ | (simp [go_sem, *]; done))
            (first
              | (go_at_call 16; go_fit (hto _ (by first | exact (Below.refl _ _).drew | exact (bel_al (Below.refl _ _)).drew)); rintro r' v4 ⟨q4, m4, c4, f4, rfl, hA4, hm4, hb4⟩; have hU4 := undrew hb4; have hV4 := comp (X2 := v3) (w2 := v3) (Below.refl _ _) (by (repeat apply bel_al); exact Below.refl _ _) hU4; have r0 := cell_later hV4 q0; have r1 := cell_later hV4 q1)
              | (go_at_call 17; first | (go_fit (without_told (xs := [x]) (hA4.below (bel_al (Below.refl _ _))) (pa_one (cells_lit v4 _ _ _).1 (cells_lit v4 _ _ _).2 ((hxv.below hV4).below (bel_al (Below.refl _ _)))) (by omega) (by omega) (by decide) (by decide)); rintro r' v5 ⟨q5, m5, c5, e5, rfl, HWI, hb5⟩; have hV5 := comp (X2 := v3) (w2 := v4) hV4 (by (repeat apply bel_al); exact Below.refl _ _) hb5; have s0 := cell_later hV5 q0; have s1 := cell_later hV5 q1) | (go_fit (without_told (xs := [x]) hA4 (pa_one (cell_later hU4 (cells_lit v3 _ _ _).1) (cell_later hU4 (cells_lit v3 _ _ _).2) (hxv.below hV4)) (by omega) (by omega) (by decide) (by decide)); rintro r' v5 ⟨q5, m5, c5, e5, rfl, HWI, hb5⟩; have hV5 := comp (X2 := v3) (w2 := v4) hV4 (by (repeat apply bel_al); exact Below.refl _ _) hb5; have s0 := cell_later hV5 q0; have s1 := cell_later hV5 q1)))
          all_goals
            have H5 : Hid (RtS w v5 gn xe ne x ∧ PR v5 40 q m m qs Z) := ⟨H3.out.1.later hV5, H3.out.2.below hV5⟩
            have HG : Hid ((tlen Z = 0 → m5 = 0 ∧ e5 = 2) ∧ (tlen Z ≠ 0 → e5 = 0 ∧ ∃ qs ys, PC 0 v5 29 q5 m5 c5 qs ys ∧ chn [x] 1 (tr Z) ys)) := ⟨HWI.out.1, fun h0 => by
              obtain ⟨a1, qs', ys', a2, a3, a4⟩ := HWI.out.2 h0
              exact ⟨a1, qs', ys', ⟨(a2.pn.mono (Nat.zero_le _)).wider (by omega), a2.cap, a2.bnd, a2.nil⟩, a4⟩⟩
            clear hto q0 q1 H3 hxv hA4 hm4 hb4 hU4 hV4 r0 r1 HWI hb5 hV5 s0 s1
            have hmc : Hid (m = 0 ∨ 0 < m) := by show _ ∨ _; omega
            rcases hmc.out with h7 | h7
            · subst h7
              obtain ⟨rfl, rfl⟩ := HTI.out.1 HZ.out.1
              obtain ⟨rfl, rfl⟩ := HG.out.1 HZ.out.1
              have HB : Hid (Below w.heap.size w v5) := H5.out.1.b
              clear H5 HG HTI HZ hmc
              go_wp2_with fail
              go_ret
              exact ⟨rfl, HB.out⟩
            have hne0 : tlen Z ≠ 0 := by have := HZ.out.1; omega
            obtain ⟨rfl, y1, hR1⟩ := HTI.out.2 hne0
            obtain ⟨rfl, qs5, y5, hP5, hC5⟩ := HG.out.2 hne0
            have htz : tr Z = Z := tr_self (by rw [HZ.out.1, H5.out.2.zl])
            rw [htz] at hR1 hC5
            have HK : Hid (Rsd x Z y1 tt ∧ Rsd x Z y5 tt ∧ PC 0 v5 29 q5 m5 c5 qs5 y5) := by
              obtain ⟨u, k5, a1, a2⟩ := hC5
              have a3 : u = Z := a1
              subst a3
              have a4 : Rsd x u y5 k5 := a2
              obtain ⟨-, h8⟩ := res_one hR1 a4
              exact ⟨hR1, by rw [h8]; exact a4, hP5⟩
            clear hR1 hC5 hP5 HTI HG hmc hne0 htz
            obtain ⟨z0', z1', -, -⟩ := id H5.out.1.nb
            have hrw := rrWithout_any (k0 := 0) (H5.out.2.wide (by decide)) HZ.out.1 h7 (by have := HZ.out.2.1; omega) (fun t => by
              have h1 := HZ.out.2.2 t
              have h2 := pw_mono (show 14 ≤ 15 by decide)
              rw [Int.pow_zero, Int.one_mul]
              omega) H5.out.1.nv
            have g7 : ((m : Int) == 0) = false := by rw [beq_eq_false_iff_ne]; omega
            go_wp2_with fail
            go_fit hrw
            rintro r v6 ⟨q6, m6, f6, y6, k6, rfl, hP6, -, -, h69, hR6, -, -, hb6⟩
            obtain ⟨h8, h9'⟩ := res_one HK.out.2.1 hR6
            subst h8
            subst h9'
            have his := rpIs_c (pc := c5) (HK.out.2.2.pn.below hb6) hP6 (by decide) (by decide) (by have e8 := HK.out.2.2.pn.zl; have e9 := hP6.zl; omega)
            have HB6 : Hid (Below w.heap.size w v6) := bnext' H5.out.1.b hb6
            clear hrw hP6 hR6 hb6 H5 HK HZ z0' z1' g7
            go_wp2_with fail
            go_fit his
            rintro r v7 ⟨rfl, hb7⟩
            have HB7 : Hid (Below w.heap.size w v7) := bnext' HB6.out hb7
            clear his hb7 HB6
            go_wp2
            go_ret
            exact ⟨rfl, HB7.out⟩
open Go.ChangeShapes Go.WideShapes Go.ChangeAt Go.RowKit Go.Joins
theorem cellsInt : Tryz.prog.cellsOf 26 = 2 := by kernel_rfl
theorem cellsLimb : Tryz.prog.cellsOf 88 = 1 := by kernel_rfl
def IntArg (W : World) (v : Value) : Prop := ∃ (s : Bool) (pa : Option Addr) (n nc : Nat) (xs : List Int), v = .agg #[.bool s, .slice pa n nc] ∧ xs.length = n ∧ n ≤ nc ∧ nc ≤ maxLen ∧ Rd W pa .u32 xs ∧ U32 xs ∧ (pa = none → nc = 0)
set_option maxRecDepth 100000 in
theorem openInt {H : Type} {enc : TypeId × Value → H} {W : World} {base : Nat} {v0 : Value} {d0 : DataW H} {p0 : List MemPlace} (hv : Value.okWide Tryz.prog W .any base 26 v0)
    (h0 : DataW.Trod enc Tryz.prog W 0 (fun _ => true) true 26 v0 d0 p0) : IntArg W v0 := by
  obtain ⟨c0, c1, y0, y1, k, rfl, -, -, hy0, hy1⟩ := open_agg2 Tryz.underlying26 (by kernel_rfl) cellsInt hv h0
  obtain ⟨s, e0, -⟩ := DataW.trod_bool Tryz.underlying4 hy0
  simp only [List.cons.injEq, and_true] at e0
  subst e0
  rcases open_ints Tryz.underlying24 Tryz.underlying88 cellsLimb hy1 with ⟨hcs, -⟩ | ⟨a, len, cap, zs, hcs, -, hl, hm, hz, -, hcell, hwz⟩
  · simp only [List.cons.injEq, and_true] at hcs
    subst hcs
    exact ⟨s, none, 0, 0, [], rfl, rfl, Nat.le_refl _, Nat.zero_le _, Rd.nil, u32_nil, fun _ => rfl⟩
  · simp only [List.cons.injEq, and_true] at hcs
    subst hcs
    simp only [if_true] at hz
    refine ⟨s, some a, len, cap, zs.take len, rfl, by simp; omega, hl, hm, ?_, ?_, fun h => by cases h⟩
    · intro hp
      have hp' : 0 < zs.length := by simp at hp; omega
      obtain ⟨b, off, rfl, hc⟩ := ints_at hcell hp'
      refine ⟨b, off, rfl, fun j hj => ?_⟩
      have hj' : j < len ∧ j < zs.length := by simp at hj; omega
      rw [gx_take _ _ _ hj'.1]
      exact hc j hj'.2
    · refine u32_take (fun j => ?_) len
      by_cases hj : j < zs.length
      · have := hwz zs[j] (List.getElem_mem hj)
        rw [gx_mem zs j hj]
        have h4 : 0 ≤ zs[j] ∧ zs[j] ≤ 4294967295 := by
          simpa [Lit.wf, IntKind.min, IntKind.max, IntKind.signed, IntKind.bits] using this
        exact ⟨h4.1, by omega⟩
      · rw [gx_past zs _ (Nat.le_refl _) j (by omega)]; decide
end Go.Proofs.YtejnhpjejcpekaaGreatDoor
