/-
  ore.product.
-/
import Derived.Test.YtifebbacnlhggaaGreatDoorKqNtNuNv
import Derived.Deep.DeepFit
import Derived.Test.YtifebbacnlhggaaGreatDoorCbNgNsPq
import Derived.Test.YtifebbacnlhggaaGreatDoorAf
import Derived.Test.YtifebbacnlhggaaGreatDoorBpBnBoAhAdBsDtAgWvUhAiRzVd
import Derived.Test.YtifebbacnlhggaaGreatDoorProg
import Derived.Test.YtifebbacnlhggaaGreatDoorFpCdDeGaGbKpGcGdGeQaQbQcQdQgQhGfGgUnWfUuByUxUtUvUwUyUzUrUsHaHbHcHeVv
import Derived.Lib.Mul64
import Derived.Laws.Bits64b
import Derived.StillTailTactics
namespace Go.Proofs.YtifebbacnlhggaaGreatDoor
open Go.RowKit
set_option linter.unusedVariables false
set_option linter.unusedSimpArgs false
set_option maxHeartbeats 8000000
theorem hr_bd {D K E : Nat} {w : World} {B T : Nat} {l : List (List Int)} {h : Hdr} (H : HR D (EZ K E) w B T l h) (j t : Nat) : ((gx (gt l j) t).natAbs : Int) < pw K := by
  obtain ⟨hs, k⟩ := H
  rcases Nat.lt_or_ge j h.n with hj | hj
  · obtain ⟨fs, hP, -⟩ := k.ev j hj
    exact hP.gbd t
  · rw [gt_out _ _ (by rw [k.tl]; exact hj)]
    exact pw_pos K
theorem no_nil (B : Nat) (w : World) (K E : Nat) : NO B w K E [] none 0 [] := ⟨rfl, rfl, fun h => absurd h (Nat.not_lt_zero _), (fun a h => nomatch h), fun j hj => absurd hj (Nat.not_lt_zero _)⟩
theorem len_LXz (al y : Int) (b : List (List Int)) : olen (LXz al y b) ≤ olen b + 1 := by
  have h1 := olen_le (LXz al y b)
  have h2 : (LXz al y b).length = max (olen ([] :: otr (omp (SGM al y) b))) (olen (otr (omp (DLM al) b))) := by simp [LXz, opz]
  have h3 := olen_le ([] :: otr (omp (SGM al y) b))
  have h4 := olen_le (otr (omp (DLM al) b))
  have h5 := olen_le (omp (SGM al y) b)
  have h6 := olen_le (omp (DLM al) b)
  have h7 : (omp (SGM al y) b).length = olen b := by simp [omp]
  have h8 : (omp (DLM al) b).length = olen b := by simp [omp]
  rw [List.length_cons, length_otr] at h3
  rw [length_otr] at h4
  omega
theorem len_opz (a b : List (List Int)) : olen (opz (· + ·) a b) ≤ max a.length b.length := by
  have h1 := olen_le (opz (· + ·) a b)
  have h2 : (opz (· + ·) a b).length = max (olen a) (olen b) := by simp [opz]
  have h3 := olen_le a
  have h4 := olen_le b
  omega
theorem len_Szs (c : List Int) (b : List (List Int)) : olen (Szs c b) ≤ b.length := by
  have h1 := olen_le (Szs c b)
  have h2 : (Szs c b).length = olen b := by simp [Szs]
  have h3 := olen_le b
  omega
structure MuI (w wr : World) (g : Nat) (al y : Int) (B T : Nat) (zss yss : List (List Int)) (h : Hdr) (i : Nat) (bp : Option Addr) (bn bc : Nat) (op : Option Addr) (on : Nat) : Prop where
  r : RuleQ wr g al y
  a : HR 5 (EZ 2 4) wr B T zss h
  t : T ≤ wr.heap.size
  b : ∃ D B' T', D ≤ 5 + i ∧ HR D (EZ (2 + 9 * (i - 1)) 4) wr B' T' (Bzs al y yss (i - 1)) ⟨bp, bn, bc⟩ ∧ T' ≤ wr.heap.size
  o : ∃ hs, NO w.heap.size wr (60 * i) 8 (Pzs al y zss yss i) op on hs
  on : on ≤ 100
  bw : Below w.heap.size w wr
section
variable {w wr w2 w3 : World} {g : Nat} {al y : Int} {B T : Nat} {zss yss : List (List Int)} {h : Hdr} {i : Nat} {bp cp : Option Addr} {bn bc cn cc : Nat} {op q : Option Addr} {on m : Nat} {hs' : List Hdr}
theorem MuI.entry (k : MuI w wr g al y B T zss yss h i bp bn bc op on) (hi : i < olen zss) : ∃ b o p n nc es, h.p = some ⟨b, o, none⟩ ∧ wr.cell? ⟨b, o + i, none⟩ = some (.slice p n nc) ∧ PA wr 2 p n nc es (gt zss i) ∧ n ≤ 4 := by
  obtain ⟨hs, q⟩ := k.a
  have h1 := olen_le zss
  have h2 := q.tl
  obtain ⟨b, o, hp, hc⟩ := q.hl (by rw [q.el]; omega)
  have c0 := hc i (by rw [q.el]; omega)
  obtain ⟨es2, hP2, hd3, -, -⟩ := q.ev i (by omega)
  exact ⟨b, o, _, _, _, es2, hp, c0, hP2, hd3⟩
theorem MuI.next (k : MuI w wr g al y B T zss yss h i bp bn bc op on) (hb : Below wr.heap.size wr w3) {B0 K D B' T' : Nat} (hs0 : w.heap.size ≤ B0) (hA : NO B0 w3 K 8 (otr (opz (· + ·) (Pzs al y zss yss i) (otr (Szs (gt zss i) (Bzs al y yss i))))) q m hs') (hK : K ≤ 60 * (i + 1)) (hD : D ≤ 5 + i + 1) (hi : i ≤ 5) (hg : HR D (EZ (2 + 9 * i) 4) w3 B' T' (Bzs al y yss i) ⟨cp, cn, cc⟩) (hT' : T' ≤ w3.heap.size) : MuI w w3 g al y B T zss yss h (i + 1) cp cn cc q m := by
  refine ⟨k.r.below hb, (lasts_HR (lasts_EZ 2 4)).below k.a k.t hb, Nat.le_trans k.t hb.size, ⟨D, B', T', by omega, hg, hT'⟩, ⟨hs', ?_⟩, ?_, bnext' k.bw hb⟩
  · obtain ⟨a1, a2, a3, a4, a5⟩ := hA.mono hs0
    exact ⟨a1, a2, a3, a4, fun j hj => let ⟨x1, x2, es, x3⟩ := a5 j hj; ⟨x1, x2, es, x3.wider hK⟩⟩
  · have h1 := hA.tl
    rw [length_otr] at h1
    have h2 := len_opz (Pzs al y zss yss i) (otr (Szs (gt zss i) (Bzs al y yss i)))
    rw [length_otr] at h2
    have h3 := len_Szs (gt zss i) (Bzs al y yss i)
    obtain ⟨hs2, h4⟩ := hg
    have h5 := h4.tl
    have h6 := h4.few
    obtain ⟨oe, h7⟩ := k.o
    have h8 := h7.tl
    have h9 := k.on
    simp only at h5 h6
    omega
end
set_option maxRecDepth 100000 in
theorem oproduct_any {w : World} {g : Nat} {al y : Int} (hr : RuleQ w g al y) {B T B2 T2 : Nat} {zss yss : List (List Int)} {h k : Hdr} (H : HR 5 (EZ 2 4) w B T zss h) (hT : T ≤ w.heap.size) (G : HR 5 (EZ 2 4) w B2 T2 yss k) (hT2 : T2 ≤ w.heap.size) :
    Calls Tryz.prog 62 #[.slice h.p h.n h.c, .slice k.p k.n k.c, .func (.func 16) #[.pointer (some ⟨g, 0, none⟩)] #[], .func (.func 19) #[.pointer (some ⟨g, 0, none⟩)] #[]] w fun r w' => ∃ q n hs, r = .returned (.slice q n n) ∧ NO w.heap.size w' 300 8 (Pzs al y zss yss (olen zss)) q n hs ∧ Below w.heap.size w w' := by
  have HX : Hid (RuleQ w g al y ∧ HR 5 (EZ 2 4) w B T zss h ∧ T ≤ w.heap.size ∧ HR 5 (EZ 2 4) w B2 T2 yss k ∧ T2 ≤ w.heap.size) := ⟨hr, H, hT, G, hT2⟩
  have hot := otrim_any H hT (by decide) (by decide)
  have hszl : olen zss ≤ 5 := by
    obtain ⟨hs, k⟩ := H
    have h1 := k.few
    have h2 := k.tl
    have h3 := olen_le zss
    omega
  obtain ⟨hp, hn, hc⟩ := h
  obtain ⟨kp, kn, kc⟩ := k
  dsimp only at hot ⊢
  clear hr H hT G hT2
  go_enter Tryz.func62, Tryz.ntmps62
  go_wp2_with fail
  go_fit hot
  rintro r w1 ⟨rfl, hb1⟩
  clear hot
  go_wp2_with fail
  have G0 : Hid (MuI w w1 g al y B T zss yss ⟨hp, hn, hc⟩ 0 kp kn kc none 0) := ⟨HX.out.1.below hb1, (lasts_HR (lasts_EZ 2 4)).below HX.out.2.1 HX.out.2.2.1 hb1, Nat.le_trans HX.out.2.2.1 hb1.size, ⟨5, B2, T2, by omega, (lasts_HR (lasts_EZ 2 4)).below HX.out.2.2.2.1 HX.out.2.2.2.2 hb1, Nat.le_trans HX.out.2.2.2.2 hb1.size⟩, ⟨[], no_nil _ _ _ _⟩, by decide, hb1⟩
  clear hb1 HX
  go_loopw [1, 9, 10, 11, 15] (fun bv ov _ _ kv wr => ∃ (i : Nat) (bp : Option Addr) (bn bc : Nat) (op : Option Addr) (on : Nat), i ≤ olen zss ∧ bv = .slice bp bn bc ∧ ov = .slice op on on ∧ kv = .int .i64 i ∧ Hid (MuI w wr g al y B T zss yss ⟨hp, hn, hc⟩ i bp bn bc op on)) (fun _ _ _ _ kv _ => olen zss - (intOf kv).toNat)
  case atStart => exact ⟨0, kp, kn, kc, none, 0, Nat.zero_le _, rfl, rfl, by go_num, G0.out⟩
  case round =>
    clear G0
    obtain ⟨i, bp, bn, bc, op, on, hi, rfl, rfl, rfl, G⟩ := hrel
    rcases Nat.lt_or_ge i (olen zss) with hlt | hge
    · obtain ⟨b, o, p2, n2, nc2, es2, hpb, c1, hP2, hn2⟩ := G.out.entry hlt
      simp only at hpb
      subst hpb
      have i1 : (i : Int) < ((olen zss : Nat) : Int) := by omega
      have HP2 : Hid (PA wr 2 p2 n2 nc2 es2 (gt zss i) ∧ n2 ≤ 4) := ⟨hP2, hn2⟩
      clear hP2 hn2
      by_cases hi0 : i = 0
      · subst hi0
        rw [Nat.add_zero] at c1
        obtain ⟨D, CB, CT, hD, hH, hHT⟩ := G.out.b
        have HGH : HR D (EZ (2 + 9 * 0) 4) wr CB CT (Bzs al y yss 0) ⟨bp, bn, bc⟩ ∧ CT ≤ wr.heap.size := ⟨hH, hHT⟩
        have HGB : Below wr.heap.size wr wr := Below.refl _ _
        clear hH hHT
        have hsc := oScale_gen (N := 4) (HP2.out.1.below HGB) HP2.out.2 (by decide) (by decide) (by omega) HGH.1 HGH.2 (by omega)
        dsimp only at hsc
        have HG' : Hid (HR D (EZ (2 + 9 * 0) 4) wr CB CT (Bzs al y yss 0) ⟨bp, bn, bc⟩ ∧ CT ≤ wr.heap.size ∧ Below wr.heap.size wr wr) := ⟨HGH.1, HGH.2, HGB⟩
        clear HGH HGB
        go_wp2_with fail
        go_fit hsc
        rintro r w2 ⟨q2, hs2, rfl, hN2, hb2⟩
        have hN2' : NO wr.heap.size w2 (2 + (2 + 9 * 0) + 1) 8 (otr (Szs (gt zss 0) (Bzs al y yss 0))) q2 (olen (Szs (gt zss 0) (Bzs al y yss 0))) hs2 := hN2
        have hm2 : olen (Szs (gt zss 0) (Bzs al y yss 0)) ≤ 100 := by
          have h3 := len_Szs (gt zss 0) (Bzs al y yss 0)
          obtain ⟨hs3, h4⟩ := HG'.out.1
          have h5 := h4.tl
          have h6 := h4.few
          simp only at h5 h6
          omega
        have hB2 := bnext' HG'.out.2.2 hb2
        obtain ⟨hso, hO⟩ := G.out.o
        have hadd := oAdd_any ((lasts_HR (lasts_EZ (60 * 0) 8)).below (hO.hr (by omega) (by decide) (by have := G.out.on; omega)) (Nat.le_refl _) hB2) (hN2'.hr (by omega) (by decide) (by omega)) hB2.size (Nat.le_refl _) (by have := G.out.on; omega) (by omega) (by decide) (by omega)
        dsimp only at hadd
        have HB2 : Hid (Below wr.heap.size wr w2 ∧ Below wr.heap.size wr w2) := ⟨hB2, hb2⟩
        change _ at hN2
        clear hsc hN2 hN2' hO
        have e9 : olen ((List.range (olen (Bzs al y yss 0))).map fun i => mulp (tr (gt zss 0)) (tr (gt (Bzs al y yss 0) i))) = olen (Szs (gt zss 0) (Bzs al y yss 0)) := rfl
        rw [e9]
        clear e9
        generalize olen (Szs (gt zss 0) (Bzs al y yss 0)) = m2 at *
        go_wp2_with fail
        go_fit hadd
        rintro r w3 ⟨q3, hs3, rfl, hN3, hb3⟩
        have HN : Hid (MuI w w3 g al y B T zss yss ⟨some ⟨b, o, none⟩, hn, hc⟩ (0 + 1) bp bn bc q3 (olen (opz (· + ·) (Pzs al y zss yss 0) (otr (Szs (gt zss 0) (Bzs al y yss 0)))))) := G.out.next (bnext' HB2.out.1 hb3) (Nat.le_trans G.out.bw.size (Nat.le_trans HB2.out.1.size (Nat.le_refl _))) hN3 (by omega) (by omega) (by omega) ((lasts_HR (lasts_EZ (2 + 9 * 0) 4)).below HG'.out.1 HG'.out.2.1 (bnext' HB2.out.2 hb3)) (Nat.le_trans HG'.out.2.1 (bnext' HB2.out.2 hb3).size)
        clear hadd hN3 hb3 hB2 hb2 c1
        generalize olen (opz (· + ·) (Pzs al y zss yss 0) (otr (Szs (gt zss 0) (Bzs al y yss 0)))) = m3 at *
        go_wp2
        exact ⟨⟨1, bp, bn, bc, q3, m3, by omega, rfl, rfl, by go_num, HN.out⟩, by simp [intOf]; omega⟩
      · obtain ⟨k, rfl⟩ : ∃ k, i = k + 1 := ⟨i - 1, by omega⟩
        have i2 : (0 : Int) < ((k + 1 : Nat) : Int) := by omega
        obtain ⟨D, CB, CT, hD, hH, hHT⟩ := G.out.b
        rw [Nat.add_sub_cancel] at hH
        have hlt' := LXz_lt (al := al) (y := y) (hr_bd hH) (hr_len hH) (by decide) G.out.r.bd
        have hbl : olen (LXz al y (Bzs al y yss k)) ≤ D + 1 := by
          have h1 := len_LXz al y (Bzs al y yss k)
          have h2 := olen_le (Bzs al y yss k)
          obtain ⟨hs3, h4⟩ := hH
          have h5 := h4.tl
          have h6 := h4.few
          simp only at h5 h6
          omega
        have hl := letterTimes_any G.out.r hH hHT (by omega) (by decide) (by omega)
        dsimp only at hl
        have HLT : Hid (∀ j t, ((gx (gt (LXz al y (Bzs al y yss k)) j) t).natAbs : Int) < pw (2 + 9 * k + 4 * 2 + 1)) := hlt'
        clear hH hHT hlt'
        go_wp2_with fail
        go_fit hl
        rintro r w1' ⟨q1, hs1, rfl, hN1, hb1'⟩
        have hN1' := (hN1.fit (M := 2 + 9 * (k + 1)) (fun j t => by rw [gx_gtotr]; exact Int.lt_of_lt_of_le (HLT.out j t) (pw_mono (by omega)))).hr (by omega) (by decide) (by omega)
        have HGH : HR (olen (LXz al y (Bzs al y yss k))) (EZ (2 + 9 * (k + 1)) 4) w1' wr.heap.size w1'.heap.size (Bzs al y yss (k + 1)) ⟨q1, olen (LXz al y (Bzs al y yss k)), olen (LXz al y (Bzs al y yss k))⟩ ∧ w1'.heap.size ≤ w1'.heap.size := ⟨hN1', Nat.le_refl _⟩
        have HGB := hb1'
        clear hl hN1 hN1' hb1' HLT
        generalize olen (LXz al y (Bzs al y yss k)) = bm at *
        have hsc := oScale_gen (N := 4) (HP2.out.1.below HGB) HP2.out.2 (by decide) (by decide) (by omega) HGH.1 HGH.2 (by omega)
        dsimp only at hsc
        have HG' : Hid (HR bm (EZ (2 + 9 * (k + 1)) 4) w1' wr.heap.size w1'.heap.size (Bzs al y yss (k + 1)) ⟨q1, bm, bm⟩ ∧ w1'.heap.size ≤ w1'.heap.size ∧ Below wr.heap.size wr w1') := ⟨HGH.1, HGH.2, HGB⟩
        clear HGH HGB
        go_wp2_with fail
        go_fit hsc
        rintro r w2 ⟨q2, hs2, rfl, hN2, hb2⟩
        have hN2' : NO w1'.heap.size w2 (2 + (2 + 9 * (k + 1)) + 1) 8 (otr (Szs (gt zss (k + 1)) (Bzs al y yss (k + 1)))) q2 (olen (Szs (gt zss (k + 1)) (Bzs al y yss (k + 1)))) hs2 := hN2
        have hm2 : olen (Szs (gt zss (k + 1)) (Bzs al y yss (k + 1))) ≤ 100 := by
          have h3 := len_Szs (gt zss (k + 1)) (Bzs al y yss (k + 1))
          obtain ⟨hs3, h4⟩ := HG'.out.1
          have h5 := h4.tl
          have h6 := h4.few
          simp only at h5 h6
          omega
        have hB2 := bnext' HG'.out.2.2 hb2
        obtain ⟨hso, hO⟩ := G.out.o
        have hadd := oAdd_any ((lasts_HR (lasts_EZ (60 * (k + 1)) 8)).below (hO.hr (by omega) (by decide) (by have := G.out.on; omega)) (Nat.le_refl _) hB2) (hN2'.hr (by omega) (by decide) (by omega)) hB2.size (Nat.le_refl _) (by have := G.out.on; omega) (by omega) (by decide) (by omega)
        dsimp only at hadd
        have HB2 : Hid (Below wr.heap.size wr w2 ∧ Below w1'.heap.size w1' w2) := ⟨hB2, hb2⟩
        change _ at hN2
        clear hsc hN2 hN2' hO
        have e9 : olen ((List.range (olen (Bzs al y yss (k + 1)))).map fun i => mulp (tr (gt zss (k + 1))) (tr (gt (Bzs al y yss (k + 1)) i))) = olen (Szs (gt zss (k + 1)) (Bzs al y yss (k + 1))) := rfl
        rw [e9]
        clear e9
        generalize olen (Szs (gt zss (k + 1)) (Bzs al y yss (k + 1))) = m2 at *
        go_wp2_with fail
        go_fit hadd
        rintro r w3 ⟨q3, hs3, rfl, hN3, hb3⟩
        have HN : Hid (MuI w w3 g al y B T zss yss ⟨some ⟨b, o, none⟩, hn, hc⟩ ((k + 1) + 1) q1 bm bm q3 (olen (opz (· + ·) (Pzs al y zss yss (k + 1)) (otr (Szs (gt zss (k + 1)) (Bzs al y yss (k + 1))))))) := G.out.next (bnext' HB2.out.1 hb3) (Nat.le_trans G.out.bw.size (Nat.le_trans HB2.out.1.size (Nat.le_refl _))) hN3 (by omega) (by omega) (by omega) ((lasts_HR (lasts_EZ (2 + 9 * (k + 1)) 4)).below HG'.out.1 HG'.out.2.1 (bnext' HB2.out.2 hb3)) (Nat.le_trans HG'.out.2.1 (bnext' HB2.out.2 hb3).size)
        clear hadd hN3 hb3 hB2 hb2 c1
        generalize olen (opz (· + ·) (Pzs al y zss yss (k + 1)) (otr (Szs (gt zss (k + 1)) (Bzs al y yss (k + 1))))) = m3 at *
        go_wp2
        exact ⟨⟨k + 1 + 1, q1, bm, bm, q3, m3, by omega, rfl, rfl, by go_num, HN.out⟩, by simp [intOf]; omega⟩
    · obtain rfl : i = olen zss := by omega
      have HG : Hid (∃ hs, NO w.heap.size wr 300 8 (Pzs al y zss yss (olen zss)) op on hs ∧ Below w.heap.size w wr) := by
        obtain ⟨hs, a1, a2, a3, a4, a5⟩ := G.out.o
        exact ⟨hs, ⟨a1, a2, a3, a4, fun j hj => let ⟨x1, x2, es, x3⟩ := a5 j hj; ⟨x1, x2, es, x3.wider (by omega)⟩⟩, G.out.bw⟩
      clear G
      go_wp2
      go_ret
      obtain ⟨hs, h1, h2⟩ := HG.out
      exact ⟨op, on, hs, rfl, h1, h2⟩
def tmf (c x : Int) : Int := min (c * max x 1) 4611686018427387904
def tms (xs : List Int) : Int := xs.foldl tmf 1
theorem tms_take (c : Int) (xs : List Int) (k : Nat) (h : k < xs.length) : (xs.take (k + 1)).foldl tmf c = tmf ((xs.take k).foldl tmf c) (gx xs k) := by
  rw [List.take_succ_eq_append_getElem h, List.foldl_append, gx_mem xs k h]
  rfl
theorem tmf_bd {c x : Int} (h0 : 1 ≤ c) : 1 ≤ tmf c x ∧ tmf c x ≤ 4611686018427387904 := by
  have h := Int.mul_le_mul h0 (Int.le_max_right x 1) (by decide) (by omega)
  unfold tmf
  omega
theorem tms_bd : ∀ (xs : List Int) (c : Int), 1 ≤ c → c ≤ 4611686018427387904 → 1 ≤ xs.foldl tmf c ∧ xs.foldl tmf c ≤ 4611686018427387904
  | [], c, h0, h1 => ⟨h0, h1⟩
  | x :: xs, c, h0, h1 => tms_bd xs (tmf c x) (tmf_bd h0).1 (tmf_bd h0).2
theorem m64_mask (a : Nat) (ha : a < 18446744073709551616) : bits .and .u64 (a : Int) 4294967295 = ((a % 4294967296 : Nat) : Int) := by
  have h := bits_and_u64_nat a 4294967295 ha (by omega)
  have e : a &&& 4294967295 = a % 4294967296 := Nat.and_two_pow_sub_one_eq_mod a 32
  rw [e] at h
  exact h
theorem m64_div (a : Nat) : (a : Int) / 4294967296 = ((a / 4294967296 : Nat) : Int) := by omega
theorem m64_mul (a b : Nat) : (a : Int) * (b : Int) = ((a * b : Nat) : Int) := (Int.natCast_mul a b).symm
theorem m64_add (a b : Nat) : (a : Int) + (b : Int) = ((a + b : Nat) : Int) := (Int.natCast_add a b).symm
theorem m64_wrap (a : Nat) (ha : a < 18446744073709551616) : IntKind.u64.wrap (a : Int) = (a : Int) := by rw [IntKind.wrap_u64]; omega
theorem m64_wrapM (a : Nat) : IntKind.u64.wrap (a : Int) = ((a % 18446744073709551616 : Nat) : Int) := by rw [IntKind.wrap_u64]; omega
set_option maxRecDepth 100000 in
theorem Mul64_any (x y : Nat) (hx : x < 18446744073709551616) (hy : y < 18446744073709551616) (w : World) :
    Calls Tryz.prog 172 #[.int .u64 x, .int .u64 y] w fun e w' => e = .returned (.tuple #[.int .u64 ((x * y / 18446744073709551616 : Nat) : Int), .int .u64 ((x * y % 18446744073709551616 : Nat) : Int)]) ∧ w' = w := by
  obtain ⟨bd, bt, bw, hhi⟩ := Lib.mul64_hi x y hx hy
  have ba := Lib.half_mul_le (a := x / 4294967296) (b := y / 4294967296) (by omega) (by omega)
  have bb := Lib.half_mul_le (a := x / 4294967296) (b := y % 4294967296) (by omega) (by omega)
  have bc := Lib.half_mul_le (a := x % 4294967296) (b := y / 4294967296) (by omega) (by omega)
  have ba' : x / 4294967296 * (y / 4294967296) < 18446744073709551616 := by omega
  have bb' : x / 4294967296 * (y % 4294967296) < 18446744073709551616 := by omega
  have bc' : x % 4294967296 * (y / 4294967296) < 18446744073709551616 := by omega
  have bh1 : x / 4294967296 * (y / 4294967296) + (x / 4294967296 * (y % 4294967296) + x % 4294967296 * (y % 4294967296) / 4294967296) / 4294967296 < 18446744073709551616 := by omega
  have bh : x / 4294967296 * (y / 4294967296) + (x / 4294967296 * (y % 4294967296) + x % 4294967296 * (y % 4294967296) / 4294967296) / 4294967296 + ((x / 4294967296 * (y % 4294967296) + x % 4294967296 * (y % 4294967296) / 4294967296) % 4294967296 + x % 4294967296 * (y / 4294967296)) / 4294967296 < 18446744073709551616 := by omega
  go_enter Tryz.func172, Tryz.ntmps172
  go_wp2
  simp only [m64_mask x hx, m64_mask y hy, m64_div, m64_mul, m64_add, m64_wrap _ bd, m64_wrap _ bb', m64_wrap _ bt, m64_mask _ bt, m64_wrap _ bc', m64_wrap _ bw, m64_wrap _ ba', m64_wrap _ bh1, m64_wrap _ bh, m64_wrapM (x * y)]
  rw [hhi]
  go_ret2
  exact ⟨rfl, rfl⟩
structure TmP (r : Nat) (v : Int) (w w' : World) : Prop where
  cell : w'.cell? ⟨r, 0, none⟩ = some (.int .i64 v)
  fz : w'.frozen? ⟨r, 0, none⟩ = false
  kp : Kp r r w w'
set_option maxRecDepth 100000 in
theorem emul_any {w : World} {r : Nat} {c n : Int} (hc : w.cell? ⟨r, 0, none⟩ = some (.int .i64 c)) (hf : w.frozen? ⟨r, 0, none⟩ = false) (h0 : 0 ≤ c) (h1 : c ≤ 4611686018427387904) (h2 : 0 ≤ n) (h3 : n ≤ 9223372036854775807) :
    Calls Tryz.prog 144 #[.pointer (some ⟨r, 0, none⟩), .int .i64 n] w fun e w' => e = .returned (.tuple #[]) ∧ TmP r (min (c * n) 4611686018427387904) w w' := by
  obtain ⟨x, rfl⟩ := Int.eq_ofNat_of_zero_le h0
  obtain ⟨y, rfl⟩ := Int.eq_ofNat_of_zero_le h2
  have hm := fun w => Mul64_any x y (by omega) (by omega) w
  have e0 : x * y = 18446744073709551616 * (x * y / 18446744073709551616) + x * y % 18446744073709551616 := (Nat.div_add_mod _ _).symm
  have e1 : x * y % 18446744073709551616 < 18446744073709551616 := Nat.mod_lt _ (by decide)
  have v1 : IntKind.u64.wrap (x : Int) = x := m64_wrap x (by omega)
  have v2 : IntKind.u64.wrap (y : Int) = y := m64_wrap y (by omega)
  have HM : Hid (((x : Int) * (y : Int)) = ((x * y : Nat) : Int)) := m64_mul x y
  generalize x * y / 18446744073709551616 = H at *
  generalize x * y % 18446744073709551616 = L at *
  generalize hq : x * y = q at *
  clear hq
  have fin : ∀ v : Int, v = min ((x : Int) * (y : Int)) 4611686018427387904 → TmP r (min ((x : Int) * (y : Int)) 4611686018427387904) w (w.setCell ⟨r, 0, none⟩ (.int .i64 v)) := fun v hv => by
    subst hv
    refine ⟨?_, ?_, ?_⟩
    · simp [go_sem, hc]
    · simp [go_sem, hf]
    · exact ⟨fun i hi a b => heap_setCell_other w ⟨r, 0, none⟩ i _ a, rfl, rfl, rfl, by simp [World.setCell]⟩
  go_enter Tryz.func144, Tryz.ntmps144
  go_wp2_with fail
  refine (hm _).mono ?_
  rintro e w1 ⟨rfl, rfl⟩
  have HF : Hid (∀ v : Int, v = min ((x : Int) * (y : Int)) 4611686018427387904 → TmP r (min ((x : Int) * (y : Int)) 4611686018427387904) w1 (w1.setCell ⟨r, 0, none⟩ (.int .i64 v))) := fin
  have HE : Hid (q = 18446744073709551616 * H + L) := e0
  clear fin hm v1 v2 e0
  rcases Nat.lt_or_ge 0 H with hH | hH
  · have i1 : (0 : Int) < (H : Int) := by omega
    have hv : (4611686018427387904 : Int) = min ((x : Int) * (y : Int)) 4611686018427387904 := by have := HM.out; have := HE.out; omega
    have HV : Hid _ := HF.out _ hv
    clear hv
    go_wp2
    go_end0
    exact ⟨rfl, HV.out⟩
  · have i1 : ¬ (0 : Int) < (H : Int) := by omega
    rcases Nat.lt_or_ge 4611686018427387904 L with hL | hL
    · have i2 : (4611686018427387904 : Int) < (L : Int) := by omega
      have hv : (4611686018427387904 : Int) = min ((x : Int) * (y : Int)) 4611686018427387904 := by have := HM.out; have := HE.out; omega
      have HV : Hid _ := HF.out _ hv
      clear hv
      go_wp2
      go_end0
      exact ⟨rfl, HV.out⟩
    · have i2 : ¬ (4611686018427387904 : Int) < (L : Int) := by omega
      have v3 : wrap64 (L : Int) = L := by unfold wrap64; omega
      have hv : (L : Int) = min ((x : Int) * (y : Int)) 4611686018427387904 := by have := HM.out; have := HE.out; omega
      have HV : Hid _ := HF.out _ hv
      clear hv
      go_wp2
      go_end0
      exact ⟨rfl, HV.out⟩
set_option maxRecDepth 100000 in
theorem eraise_any {w : World} {r : Nat} {c n : Int} (hc : w.cell? ⟨r, 0, none⟩ = some (.int .i64 c)) (hf : w.frozen? ⟨r, 0, none⟩ = false) (h0 : 1 ≤ c) (h1 : c ≤ 4611686018427387904) (h3 : n ≤ 9223372036854775807) :
    Calls Tryz.prog 145 #[.pointer (some ⟨r, 0, none⟩), .int .i64 n] w fun e w' => e = .returned (.tuple #[]) ∧ TmP r (tmf c n) w w' := by
  have ht : tmf c n = min (c * max n 1) 4611686018427387904 := by unfold tmf; rfl
  rcases Int.lt_or_le n 1 with hn | hn
  · have h4 : max n 1 = 1 := by omega
    rw [h4] at ht
    have hm := emul_any (n := 1) hc hf (by omega) h1 (by omega) (by omega)
    rw [← ht] at hm
    clear ht
    have hn' : ¬ 1 ≤ n := by omega
    go_enter Tryz.func145, Tryz.ntmps145
    go_wp2_with fail
    all_goals first
      | omega
      | (go_fit hm
         rintro e w1 ⟨rfl, h⟩
         have H : Hid (TmP r (tmf c n) w w1) := h
         clear h
         go_wp2
         go_end0
         exact ⟨rfl, H.out⟩)
  · have h4 : max n 1 = n := by omega
    rw [h4] at ht
    have hm := emul_any (n := n) hc hf (by omega) h1 (by omega) (by omega)
    rw [← ht] at hm
    clear ht
    have hn' : ¬ n < 1 := by omega
    go_enter Tryz.func145, Tryz.ntmps145
    go_wp2_with fail
    all_goals first
      | omega
      | (go_fit hm
         rintro e w1 ⟨rfl, h⟩
         have H : Hid (TmP r (tmf c n) w w1) := h
         clear h
         go_wp2
         go_end0
         exact ⟨rfl, H.out⟩)
theorem Kp.comp {r : Nat} {a b c : World} (h : Kp r r a b) (k : Kp r r b c) : Kp r r a c :=
  ⟨fun i hi x y => (k.block i (Nat.lt_of_lt_of_le hi h.size) x y).trans (h.block i hi x y), k.os.trans h.os, k.tape.trans h.tape, k.output.trans h.output, Nat.le_trans h.size k.size⟩
theorem Kp.cells {r : Nat} {a b : World} (h : Kp r r a b) {x : Addr} {v : Value} (hx : x.block ≠ r) (hc : a.cell? x = some v) : b.cell? x = some v :=
  (World.cell?_of_block (h.block x.block (block_lt_of_cell hc) hx hx)).trans hc
theorem Kp.bel {r B : Nat} {w0 a b : World} (h : Kp r r a b) (hB : Below B w0 a) (h1 : B ≤ r) (h2 : B ≤ a.heap.size) : Below B w0 b :=
  ⟨h.os.trans hB.os, h.tape.trans hB.tape, h.output.trans hB.output, Nat.le_trans hB.size h.size, fun k hk => (h.block k (by omega) (by omega) (by omega)).trans (hB.block k hk)⟩
set_option maxRecDepth 100000 in
theorem eeach_any {w : World} {p : Option Addr} {n nc r : Nat} {xs : List Int} (hl : xs.length = n) (hX : Rd w p .i64 xs) (hn : n ≤ 1000000) (hx : ∀ j, j < n → gx xs j ≤ 9223372036854775807) (hr : ∀ a, p = some a → 0 < n → a.block ≠ r)
    (hc : w.cell? ⟨r, 0, none⟩ = some (.int .i64 1)) (hf : w.frozen? ⟨r, 0, none⟩ = false) :
    Calls Tryz.prog 142 #[.slice p n nc, .func (.func 145) #[.pointer (some ⟨r, 0, none⟩)] #[]] w fun e w' => e = .returned (.tuple #[]) ∧ TmP r (tms xs) w w' := by
  have HX : Hid (xs.length = n ∧ Rd w p .i64 xs ∧ (∀ j, j < n → gx xs j ≤ 9223372036854775807) ∧ ∀ a, p = some a → 0 < n → a.block ≠ r) := ⟨hl, hX, hx, hr⟩
  have H0 : Hid (TmP r 1 w w) := ⟨hc, hf, ⟨fun _ _ _ _ => rfl, rfl, rfl, rfl, Nat.le_refl _⟩⟩
  clear hl hX hx hr hc hf
  go_enter Tryz.func142, Tryz.ntmps142
  go_wp2_with fail
  go_loopw [5, 8] (fun nv iv wr => ∃ k : Nat, k ≤ n ∧ iv = .int .i64 k ∧ Hid (TmP r (tms (xs.take k)) w wr)) (fun _ iv _ => n - (intOf iv).toNat)
  case atStart => exact ⟨0, Nat.zero_le _, by go_num, H0.out⟩
  case round =>
    obtain ⟨k, hk, rfl, H⟩ := hrel
    obtain ⟨hl, hX, hx, hr⟩ := HX.out
    rcases Nat.lt_or_ge k n with hlt | hge
    · obtain ⟨b, o, hp, hc⟩ := hX (by omega)
      subst hp
      have c0 := H.out.kp.cells (x := ⟨b, o + k, none⟩) (hr ⟨b, o, none⟩ rfl (by omega)) (hc k (by omega))
      obtain ⟨d1, d2⟩ := tms_bd (xs.take k) 1 (by decide) (by decide)
      have hm := eraise_any H.out.cell H.out.fz d1 d2 (hx k hlt)
      have HT : Hid (tms (xs.take (k + 1)) = tmf (tms (xs.take k)) (gx xs k)) := tms_take 1 xs k (by omega)
      have i1 : (k : Int) < (n : Int) := by omega
      clear hl hX hx hr hc d1 d2
      go_wp2_with fail
      refine hm.mono ?_
      rintro e w1 ⟨rfl, h⟩
      have H1 : Hid (TmP r (tms (xs.take (k + 1))) w w1) := ⟨by rw [HT.out]; exact h.cell, h.fz, H.out.kp.comp h.kp⟩
      clear h hm c0
      go_wp2_with fail
      refine ⟨⟨k + 1, by omega, by go_num, H1.out⟩, by simp [intOf]; omega⟩
    · obtain rfl : k = n := by omega
      have HE : Hid (TmP r (tms xs) w wr) := by have h := H.out; rw [List.take_of_length_le (by omega)] at h; exact h
      have i1 : ¬ (k : Int) < (k : Int) := by omega
      clear hX hx hl hr
      go_wp2
      go_end0
      exact ⟨rfl, HE.out⟩
set_option maxRecDepth 100000 in
theorem eTimes_any {w : World} {p : Option Addr} {n nc : Nat} {xs : List Int} (hl : xs.length = n) (hX : Rd w p .i64 xs) (hn : n ≤ 1000000) (hx : ∀ j, j < n → gx xs j ≤ 9223372036854775807) :
    Calls Tryz.prog 110 #[.slice p n nc] w fun e w' => e = .returned (.int .i64 (tms xs)) ∧ Below w.heap.size w w' := by
  have hp : ∀ a, p = some a → 0 < n → a.block < w.heap.size := fun a ha h0 => by
    obtain ⟨b, o, e, hlt⟩ := hX.lt (by omega)
    rw [e] at ha
    cases ha
    exact hlt
  have HX : Hid (xs.length = n ∧ Rd w p .i64 xs ∧ (∀ j, j < n → gx xs j ≤ 9223372036854775807) ∧ ∀ a, p = some a → 0 < n → a.block < w.heap.size) := ⟨hl, hX, hx, hp⟩
  clear hl hX hx hp
  go_enter Tryz.func110, Tryz.ntmps110
  go_wp2_with fail
  obtain ⟨hl, hX, hx, hp⟩ := HX.out
  have hb0 : Below w.heap.size w (w.alloc (.cells #[.int .i64 1] 148)) := (Below.refl _ _).alloc (Nat.le_refl _) _
  refine (eeach_any (xs := xs) hl (hX.below hb0) hn hx (fun a ha h0 => Nat.ne_of_lt (hp a ha h0)) (by simp [go_sem]) (by simp [go_sem])).mono ?_
  rintro e w1 ⟨rfl, h⟩
  have c1 := h.cell
  have HB : Hid (Below w.heap.size w w1) := h.kp.bel hb0 (Nat.le_refl _) (by simp)
  clear h hb0 hl hX hx hp
  go_wp2
  go_ret
  exact ⟨rfl, HB.out⟩
theorem fold_take (f : Int → Int → Int) (c : Int) (xs : List Int) (k : Nat) (h : k < xs.length) : (xs.take (k + 1)).foldl f c = f ((xs.take k).foldl f c) (gx xs k) := by
  rw [List.take_succ_eq_append_getElem h, List.foldl_append, gx_mem xs k h]
  rfl
theorem fold_inv (f : Int → Int → Int) (P Q : Int → Prop) (hP : ∀ c x, P c → Q x → P (f c x)) : ∀ (xs : List Int) (c : Int), P c → (∀ x ∈ xs, Q x) → P (xs.foldl f c)
  | [], c, h, _ => h
  | x :: xs, c, h, hq => fold_inv f P Q hP xs (f c x) (hP c x h (hq x (by simp))) fun y hy => hq y (by simp [hy])
set_option maxRecDepth 100000 in
theorem eeach_gen {w : World} {p : Option Addr} {n nc r : Nat} {xs : List Int} {c0 : Int} (J : Nat) (hE0 : ∀ args w', Sem.run Tryz.prog (callFunc J args) w' = .ok (.enter J args) w') (f : Int → Int → Int) (P Q : Int → Prop) (hP : ∀ c x, P c → Q x → P (f c x))
    (hJ : ∀ wq c x, wq.cell? ⟨r, 0, none⟩ = some (.int .i64 c) → wq.frozen? ⟨r, 0, none⟩ = false → P c → Q x → Calls Tryz.prog J #[.pointer (some ⟨r, 0, none⟩), .int .i64 x] wq fun e w' => e = .returned (.tuple #[]) ∧ TmP r (f c x) wq w')
    (hl : xs.length = n) (hX : Rd w p .i64 xs) (hn : n ≤ 1000000) (hx : ∀ j, j < n → Q (gx xs j)) (hr : ∀ a, p = some a → 0 < n → a.block ≠ r)
    (hc : w.cell? ⟨r, 0, none⟩ = some (.int .i64 c0)) (hf : w.frozen? ⟨r, 0, none⟩ = false) (h0 : P c0) :
    Calls Tryz.prog 142 #[.slice p n nc, .func (.func J) #[.pointer (some ⟨r, 0, none⟩)] #[]] w fun e w' => e = .returned (.tuple #[]) ∧ TmP r (xs.foldl f c0) w w' := by
  have HX : Hid (xs.length = n ∧ Rd w p .i64 xs ∧ (∀ j, j < n → Q (gx xs j)) ∧ ∀ a, p = some a → 0 < n → a.block ≠ r) := ⟨hl, hX, hx, hr⟩
  have H0 : Hid (TmP r c0 w w ∧ P c0) := ⟨⟨hc, hf, ⟨fun _ _ _ _ => rfl, rfl, rfl, rfl, Nat.le_refl _⟩⟩, h0⟩
  have HJ := (show Hid _ from hJ)
  have HP := (show Hid _ from hP)
  clear hl hX hx hr hc hf hJ hP h0
  go_enter Tryz.func142, Tryz.ntmps142
  go_wp2_with fail
  go_loopw [5, 8] (fun nv iv wr => ∃ k : Nat, k ≤ n ∧ iv = .int .i64 k ∧ Hid (TmP r ((xs.take k).foldl f c0) w wr ∧ P ((xs.take k).foldl f c0))) (fun _ iv _ => n - (intOf iv).toNat)
  case atStart => exact ⟨0, Nat.zero_le _, by go_num, H0.out⟩
  case round =>
    obtain ⟨k, hk, rfl, H⟩ := hrel
    obtain ⟨hl, hX, hx, hr⟩ := HX.out
    rcases Nat.lt_or_ge k n with hlt | hge
    · obtain ⟨b, o, hp, hc⟩ := hX (by omega)
      subst hp
      have c1 := H.out.1.kp.cells (x := ⟨b, o + k, none⟩) (hr ⟨b, o, none⟩ rfl (by omega)) (hc k (by omega))
      have hm := HJ.out wr _ _ H.out.1.cell H.out.1.fz H.out.2 (hx k hlt)
      have HT : Hid ((xs.take (k + 1)).foldl f c0 = f ((xs.take k).foldl f c0) (gx xs k) ∧ P (f ((xs.take k).foldl f c0) (gx xs k))) := ⟨fold_take f c0 xs k (by omega), HP.out _ _ H.out.2 (hx k hlt)⟩
      have i1 : (k : Int) < (n : Int) := by omega
      clear hl hX hx hr hc
      go_wp2_with fail
      go_fit hm
      rintro e w1 ⟨rfl, h⟩
      have H1 : Hid (TmP r ((xs.take (k + 1)).foldl f c0) w w1 ∧ P ((xs.take (k + 1)).foldl f c0)) := ⟨⟨by rw [HT.out.1]; exact h.cell, h.fz, H.out.1.kp.comp h.kp⟩, by rw [HT.out.1]; exact HT.out.2⟩
      clear h hm c1
      go_wp2_with fail
      refine ⟨⟨k + 1, by omega, by go_num, H1.out⟩, by simp [intOf]; omega⟩
    · obtain rfl : k = n := by omega
      have HE : Hid (TmP r (xs.foldl f c0) w wr) := by have h := H.out.1; rw [List.take_of_length_le (by omega)] at h; exact h
      have i1 : ¬ (k : Int) < (k : Int) := by omega
      clear hX hx hl hr
      go_wp2
      go_end0
      exact ⟨rfl, HE.out⟩
def smf (c x : Int) : Int := min (c + x) 4611686018427387904
def sms (xs : List Int) : Int := xs.foldl smf 0
def pmf (c x : Int) : Int := min (c * x) 4611686018427387904
def pms (xs : List Int) : Int := xs.foldl pmf 1
theorem smf_bd (c x : Int) (h : 0 ≤ c ∧ c ≤ 4611686018427387904) (hx : 0 ≤ x ∧ x ≤ 9223372036854775807) : 0 ≤ smf c x ∧ smf c x ≤ 4611686018427387904 := by unfold smf; omega
theorem pmf_bd (c x : Int) (h : 0 ≤ c ∧ c ≤ 4611686018427387904) (hx : 0 ≤ x ∧ x ≤ 9223372036854775807) : 0 ≤ pmf c x ∧ pmf c x ≤ 4611686018427387904 := by
  have := Int.mul_nonneg h.1 hx.1
  unfold pmf
  omega
set_option maxRecDepth 100000 in
theorem eadd_any {w : World} {r : Nat} {c n : Int} (hc : w.cell? ⟨r, 0, none⟩ = some (.int .i64 c)) (hf : w.frozen? ⟨r, 0, none⟩ = false) (h0 : 0 ≤ c ∧ c ≤ 4611686018427387904) (h2 : 0 ≤ n ∧ n ≤ 9223372036854775807) :
    Calls Tryz.prog 143 #[.pointer (some ⟨r, 0, none⟩), .int .i64 n] w fun e w' => e = .returned (.tuple #[]) ∧ TmP r (smf c n) w w' := by
  have v1 : wrap64 (4611686018427387904 - c) = 4611686018427387904 - c := by unfold wrap64; omega
  have v2 : n ≤ 4611686018427387904 - c → wrap64 (c + n) = c + n := fun h => by unfold wrap64; omega
  have v3 : wrap64 (c + (4611686018427387904 - c)) = c + (4611686018427387904 - c) := by unfold wrap64; omega
  have fin : ∀ v : Int, v = smf c n → TmP r (smf c n) w (w.setCell ⟨r, 0, none⟩ (.int .i64 v)).drew := fun v hv => by
    subst hv
    refine ⟨?_, ?_, ?_⟩
    · simp [go_sem, hc]
    · simp [go_sem, hf]
    · exact ⟨fun i hi a b => heap_setCell_other w ⟨r, 0, none⟩ i _ a, rfl, rfl, rfl, by simp [World.setCell, World.drew]⟩
  have HF := (show Hid _ from fin)
  clear fin
  rcases Int.lt_or_le (4611686018427387904 - c) n with h | h
  · clear v2
    have h' : ¬ n ≤ 4611686018427387904 - c := by omega
    have hm : min n (4611686018427387904 - c) = 4611686018427387904 - c := by omega
    go_enter Tryz.func143, Tryz.ntmps143
    go_wp2_with fail
    go_still_tail 12, (by kernel_rfl)
    go_wp2
    all_goals first
      | omega
      | (go_end0
         exact ⟨rfl, HF.out _ (by unfold smf; omega)⟩)
  · have v4 := v2 h
    have h' : ¬ 4611686018427387904 - c < n := by omega
    have hm : min n (4611686018427387904 - c) = n := by omega
    clear v2
    go_enter Tryz.func143, Tryz.ntmps143
    go_wp2_with fail
    go_still_tail 12, (by kernel_rfl)
    go_wp2
    all_goals first
      | omega
      | (go_end0
         exact ⟨rfl, HF.out _ (by unfold smf; omega)⟩)
theorem callEadd (args : Array Value) (w' : World) : Sem.run Tryz.prog (callFunc 143 args) w' = .ok (.enter 143 args) w' := by
  have h1 : ¬ Tryz.f143.name = "runtime.NumGoroutine" := of_decide_eq_false (by kernel_rfl)
  have h2 : ¬ Tryz.f143.body = none := fun h => by cases h
  simp only [callFunc, Tryz.func143, go_sem]
  simp [h1, h2, go_sem]
theorem callEmul (args : Array Value) (w' : World) : Sem.run Tryz.prog (callFunc 144 args) w' = .ok (.enter 144 args) w' := by
  have h1 : ¬ Tryz.f144.name = "runtime.NumGoroutine" := of_decide_eq_false (by kernel_rfl)
  have h2 : ¬ Tryz.f144.body = none := fun h => by cases h
  simp only [callFunc, Tryz.func144, go_sem]
  simp [h1, h2, go_sem]
def InT (c : Int) : Prop := 0 ≤ c ∧ c ≤ 4611686018427387904
def InI (c : Int) : Prop := 0 ≤ c ∧ c ≤ 9223372036854775807
set_option maxRecDepth 100000 in
theorem eSum_any {w : World} {p : Option Addr} {n nc : Nat} {xs : List Int} (hl : xs.length = n) (hX : Rd w p .i64 xs) (hn : n ≤ 1000000) (hx : ∀ j, j < n → InI (gx xs j)) :
    Calls Tryz.prog 108 #[.slice p n nc] w fun e w' => e = .returned (.int .i64 (xs.foldl smf 0)) ∧ Below w.heap.size w w' := by
  have hp : ∀ a, p = some a → 0 < n → a.block < w.heap.size := fun a ha h0 => by
    obtain ⟨b, o, e, hlt⟩ := hX.lt (by omega)
    rw [e] at ha
    cases ha
    exact hlt
  have HX : Hid (xs.length = n ∧ Rd w p .i64 xs ∧ (∀ j, j < n → InI (gx xs j)) ∧ ∀ a, p = some a → 0 < n → a.block < w.heap.size) := ⟨hl, hX, hx, hp⟩
  clear hl hX hx hp
  go_enter Tryz.func108, Tryz.ntmps108
  go_wp2_with fail
  obtain ⟨hl, hX, hx, hp⟩ := HX.out
  have hb0 : Below w.heap.size w (w.alloc (.cells #[.int .i64 0] 148)) := (Below.refl _ _).alloc (Nat.le_refl _) _
  have hc := eeach_gen (nc := nc) (r := w.heap.size) (c0 := 0) 143 callEadd smf InT InI smf_bd (fun wq c x h1 h2 h3 h4 => eadd_any h1 h2 h3 h4) hl (hX.below hb0) hn hx (fun a ha h0 => Nat.ne_of_lt (hp a ha h0)) (by simp [go_sem]) (by simp [go_sem]) (by unfold InT; omega)
  go_fit hc
  rintro e w1 ⟨rfl, h⟩
  have c1 := h.cell
  have HB : Hid (Below w.heap.size w w1) := h.kp.bel hb0 (Nat.le_refl _) (by simp)
  clear h hb0 hl hX hx hp hc
  go_wp2
  go_ret
  exact ⟨rfl, HB.out⟩
set_option maxRecDepth 100000 in
theorem eProduct_any {w : World} {p : Option Addr} {n nc : Nat} {xs : List Int} (hl : xs.length = n) (hX : Rd w p .i64 xs) (hn : n ≤ 1000000) (hx : ∀ j, j < n → InI (gx xs j)) :
    Calls Tryz.prog 109 #[.slice p n nc] w fun e w' => e = .returned (.int .i64 (xs.foldl pmf 1)) ∧ Below w.heap.size w w' := by
  have hp : ∀ a, p = some a → 0 < n → a.block < w.heap.size := fun a ha h0 => by
    obtain ⟨b, o, e, hlt⟩ := hX.lt (by omega)
    rw [e] at ha
    cases ha
    exact hlt
  have HX : Hid (xs.length = n ∧ Rd w p .i64 xs ∧ (∀ j, j < n → InI (gx xs j)) ∧ ∀ a, p = some a → 0 < n → a.block < w.heap.size) := ⟨hl, hX, hx, hp⟩
  clear hl hX hx hp
  go_enter Tryz.func109, Tryz.ntmps109
  go_wp2_with fail
  obtain ⟨hl, hX, hx, hp⟩ := HX.out
  have hb0 : Below w.heap.size w (w.alloc (.cells #[.int .i64 1] 148)) := (Below.refl _ _).alloc (Nat.le_refl _) _
  have hc := eeach_gen (nc := nc) (r := w.heap.size) (c0 := 1) 144 callEmul pmf InT InI pmf_bd (fun wq c x h1 h2 h3 h4 => emul_any h1 h2 h3.1 h3.2 h4.1 h4.2) hl (hX.below hb0) hn hx (fun a ha h0 => Nat.ne_of_lt (hp a ha h0)) (by simp [go_sem]) (by simp [go_sem]) (by unfold InT; omega)
  go_fit hc
  rintro e w1 ⟨rfl, h⟩
  have c1 := h.cell
  have HB : Hid (Below w.heap.size w w1) := h.kp.bel hb0 (Nat.le_refl _) (by simp)
  clear h hb0 hl hX hx hp hc
  go_wp2
  go_ret
  exact ⟨rfl, HB.out⟩
end Go.Proofs.YtifebbacnlhggaaGreatDoor
