/-
  ore.product.
-/
import Derived.Test.YtejnhpjejcpekaaGreatDoorNuNvT1
import Derived.Deep.DeepFit
import Derived.Test.YtejnhpjejcpekaaGreatDoorAvAw
import Derived.Test.YtejnhpjejcpekaaGreatDoorAcDsAeAfBnBoBrBpAh
import Derived.Test.YtejnhpjejcpekaaGreatDoorAyNlQl
import Derived.Test.YtejnhpjejcpekaaGreatDoorKqOr
import Derived.Test.YtejnhpjejcpekaaGreatDoorAdDtAgAiVdRtDhVeRsVfVcAjDrBmBqDuAkAl
import Derived.Test.YtejnhpjejcpekaaGreatDoorApEpGiGj
import Derived.Test.YtejnhpjejcpekaaGreatDoorT2T5
namespace Go.Proofs.YtejnhpjejcpekaaGreatDoor
open Go.RowKit
set_option linter.unusedVariables false
set_option linter.unusedSimpArgs false
set_option maxHeartbeats 8000000
theorem hr_bd {D K E : Nat} {w : World} {B T : Nat} {l : List (List Int)} {h : Hdr} (H : HR D (EZ K E) w B T l h) (j t : Nat) : ((gx (gt l j) t).natAbs : Int) < pw K := by
  obtain ⟨hs, k⟩ := H
  rcases Nat.lt_or_ge j h.n with hj | hj
  · obtain ⟨fs, hP, -⟩ := k.ev j hj
    exact hP.gbd t
  · rw [gt_out _ _ (by rw [k.tl]; exact hj)]
    exact pw_pos K
theorem no_nil (B : Nat) (w : World) (K E : Nat) : NO B w K E [] none 0 [] := ⟨rfl, rfl, fun h => absurd h (Nat.not_lt_zero _), (fun a h => nomatch h), fun j hj => absurd hj (Nat.not_lt_zero _)⟩
theorem len_LXz (al y : Int) (b : List (List Int)) : olen (LXz al y b) ≤ olen b + 1 := by
  have h1 := olen_le (LXz al y b)
  have h2 : (LXz al y b).length = max (olen ([] :: otr (omp (SGM al y) b))) (olen (otr (omp (DLM al) b))) := by simp [LXz, opz]
  have h3 := olen_le ([] :: otr (omp (SGM al y) b))
  have h4 := olen_le (otr (omp (DLM al) b))
  have h5 := olen_le (omp (SGM al y) b)
  have h6 := olen_le (omp (DLM al) b)
  have h7 : (omp (SGM al y) b).length = olen b := by simp [omp]
  have h8 : (omp (DLM al) b).length = olen b := by simp [omp]
  rw [List.length_cons, length_otr] at h3
  rw [length_otr] at h4
  omega
theorem len_opz (a b : List (List Int)) : olen (opz (· + ·) a b) ≤ max a.length b.length := by
  have h1 := olen_le (opz (· + ·) a b)
  have h2 : (opz (· + ·) a b).length = max (olen a) (olen b) := by simp [opz]
  have h3 := olen_le a
  have h4 := olen_le b
  omega
theorem len_Szs (c : List Int) (b : List (List Int)) : olen (Szs c b) ≤ b.length := by
  have h1 := olen_le (Szs c b)
  have h2 : (Szs c b).length = olen b := by simp [Szs]
  have h3 := olen_le b
  omega
section
variable {w wr w2 w3 : World} {g : Nat} {al y : Int} {B T : Nat} {zss yss : List (List Int)} {h : Hdr} {i : Nat} {bp cp : Option Addr} {bn bc cn cc : Nat} {op q : Option Addr} {on m : Nat} {hs' : List Hdr}
end
def rszO (l : List (List Int)) : Int := if l.length = 0 then 0 else (l.length : Int) - 1
def rszD (l : List (List Int)) : Int := if l.length = 0 then 0 else odeg l
def rszB (l : List (List Int)) : Int := if l.length = 0 then 0 else (obit l : Int)
def SzB (x : List (List Int)) : Prop := (0 ≤ rszO x ∧ rszO x ≤ 1000000) ∧ (0 ≤ rszD x ∧ rszD x ≤ 1000000) ∧ (0 ≤ rszB x ∧ rszB x ≤ 1000000000)
theorem pmf_one {a : Int} (h : InT a) : pmf 1 a = a := by
  unfold pmf
  rw [Int.one_mul]
  have := h.2
  omega
theorem pms_two {a b : Int} (h : InT a) : pms [a, b] = pmf a b := by
  show pmf (pmf 1 a) b = _
  rw [pmf_one h]
theorem pms_three {a b c : Int} (h : InT a) : pms [a, b, c] = pmf (pmf a b) c := by
  show pmf (pmf (pmf 1 a) b) c = _
  rw [pmf_one h]
theorem sms_small1 {a b : Int} (h0 : 0 ≤ a) (h1 : 0 ≤ b) (h2 : a + b ≤ 4611686018427387904) : sms [a, b] = a + b := by
  show smf (smf 0 a) b = _
  unfold smf
  omega
theorem sms_small2 {a b c : Int} (h0 : 0 ≤ a) (h1 : 0 ≤ b) (h3 : 0 ≤ c) (h2 : a + b + c ≤ 4611686018427387904) : sms [a, b, c] = a + b + c := by
  show smf (smf (smf 0 a) b) c = _
  unfold smf
  omega
theorem pmf_in {a b : Int} (ha : 0 ≤ a) (hb : 0 ≤ b) : 0 ≤ pmf a b ∧ pmf a b ≤ 4611686018427387904 := by
  have := Int.mul_nonneg ha hb
  unfold pmf
  omega
theorem emul_ref {r d k s e l m : Int} (hr : 0 ≤ r ∧ r ≤ 1000000) (hd : 0 ≤ d ∧ d ≤ 1000000) (hk : 0 ≤ k ∧ k ≤ 1000000000) (hs : 0 ≤ s ∧ s ≤ 1000000) (he : 0 ≤ e ∧ e ≤ 1000000) (hl : 0 ≤ l ∧ l ≤ 1000000000) (hm : 0 ≤ m) :
    tms [sms [r, 1], sms [s, 1], sms [d, e, 2], sms [k, l, sms [pms [sms [r, 1], sms [e, 1]], pms [r, sms [e, 1], m]], 8]] = tms [r + 1, s + 1, d + e + 2, sms [k, l, pmf (r + 1) (e + 1), pmf (pmf r (e + 1)) m, 8]] := by
  rw [sms_small1 (a := r) hr.1 (by decide) (by omega), sms_small1 (a := s) hs.1 (by decide) (by omega), sms_small1 (a := e) he.1 (by decide) (by omega), sms_small2 (a := d) hd.1 he.1 (by decide) (by omega), pms_two ⟨by omega, by omega⟩, pms_three ⟨by omega, by omega⟩]
  have p1 := pmf_in (a := r + 1) (b := e + 1) (by omega) (by omega)
  have p2 := pmf_in (a := r) (b := e + 1) (by omega) (by omega)
  have p3 := pmf_in (a := pmf r (e + 1)) (b := m) p2.1 hm
  generalize pmf (r + 1) (e + 1) = x at *
  generalize pmf (pmf r (e + 1)) m = y at *
  have e1 : sms [k, l, sms [x, y], 8] = sms [k, l, x, y, 8] := by
    show smf (smf (smf (smf 0 k) l) (smf (smf 0 x) y)) 8 = smf (smf (smf (smf (smf 0 k) l) x) y) 8
    unfold smf
    omega
  rw [e1]
theorem szO_oz (z : List (List Int)) : max ((olen z : Int) - 1) 0 = rszO (oz z) := by
  rw [rszO, length_oz]
  split <;> omega
theorem oz_nil {z : List (List Int)} (h : olen z = 0) : oz z = [] := by rw [oz, h]; rfl
theorem szD_oz (z : List (List Int)) : max (odeg z) 0 = rszD (oz z) := by
  rw [rszD, length_oz, ← odeg_oz]
  split
  · rename_i h
    rw [oz_nil h]
    rfl
  · rename_i h
    rw [odeg_oz]
    have h0 : 0 < olen z := by omega
    have hl : olen z ≤ z.length := olen_le z
    have h1 := odeg_take z (olen z - 1) (by omega)
    have h2 : tlen (gt z (olen z - 1)) ≠ 0 := by
      intro e
      have h3 := tlen_top (z.map fun z => (tlen z : Int)) h0
      rw [gx_tlens] at h3
      exact h3 (by show (tlen (gt z (olen z - 1)) : Int) = 0; rw [e]; rfl)
    have h5 : ∀ k, olen z - 1 + 1 + k ≤ z.length → 0 ≤ odeg (z.take (olen z - 1 + 1 + k)) := by
      intro k
      induction k with
      | zero => intro _; rw [Nat.add_zero, h1]; omega
      | succ k ih =>
        intro hk
        have := ih (by omega)
        rw [← Nat.add_assoc, odeg_take z _ (by omega)]
        omega
    have h6 := h5 (z.length - olen z) (by omega)
    rw [show olen z - 1 + 1 + (z.length - olen z) = z.length by omega, List.take_length] at h6
    omega
theorem szB_oz (z : List (List Int)) : (obit z : Int) = rszB (oz z) := by
  rw [rszB, length_oz, ← obit_oz]
  split
  · rename_i h
    rw [oz_nil h]
    rfl
  · rfl
theorem szb_op {D E K : Nat} {w : World} {B T : Nat} {z : List (List Int)} {h : Hdr} (H : HR D (EZ K E) w B T z h) (hD : D ≤ 1000000) (hE : E ≤ 1000000) (hK : K ≤ 1000) : SzB (oz z) := by
  unfold SzB
  rw [← szO_oz, ← szD_oz, ← szB_oz]
  have hlen := hr_len H
  obtain ⟨hs, k⟩ := H
  have h1 := olen_le z
  have h2 := k.tl
  have h3 := k.few
  have h4 := odeg_bd z hlen z.length (Nat.le_refl _)
  have h5 := obit_bd (E := 32 * K) z (fun j hj => by
    obtain ⟨fs, a, -⟩ := k.ev j (by omega)
    exact pb_few a) z.length (Nat.le_refl _)
  rw [List.take_length] at h4 h5
  omega
section
variable {D E K N lo lo' D' E' : Nat} {X Y : Nat → Prop} {w v : World} {z y : List (List Int)} {h g : Hdr} {zq : Int} {uq un : Ent}
theorem inI_of {x : Int} {m : Int} (h : 0 ≤ x ∧ x ≤ m) (hm : m ≤ 9223372036854775807) : InI x := ⟨h.1, by omega⟩
def vMul (x y : List (List Int)) (q : Int) : Int := tms [rszO x + 1, rszO y + 1, rszD x + rszD y + 2, sms [rszB x, rszB y, pmf (rszO x + 1) (rszD y + 1), pmf (pmf (rszO x) (rszD y + 1)) (zb q : Int), 8]]
end
structure MuJ (w wr : World) (g : Nat) (al y : Int) (B T : Nat) (zss yss : List (List Int)) (h : Hdr) (i : Nat) (bp : Option Addr) (bn bc : Nat) (op : Option Addr) (on : Nat) : Prop where
  r : RuleQ wr g al y
  a : HR 5 (EZ 12 5) wr B T zss h
  t : T ≤ wr.heap.size
  b : ∃ D B' T', D ≤ 5 + i ∧ HR D (EZ (12 + 6 * (i - 1)) 5) wr B' T' (Bzs al y yss (i - 1)) ⟨bp, bn, bc⟩ ∧ T' ≤ wr.heap.size
  o : ∃ hs, NO w.heap.size wr (60 * i) 10 (Pzs al y zss yss i) op on hs
  on : on ≤ 100
  bw : Below w.heap.size w wr
section
variable {w wr w2 w3 : World} {g : Nat} {al y : Int} {B T : Nat} {zss yss : List (List Int)} {h : Hdr} {i : Nat} {bp cp : Option Addr} {bn bc cn cc : Nat} {op q : Option Addr} {on m : Nat} {hs' : List Hdr}
theorem MuJ.entry (k : MuJ w wr g al y B T zss yss h i bp bn bc op on) (hi : i < olen zss) : ∃ b o p n nc es, h.p = some ⟨b, o, none⟩ ∧ wr.cell? ⟨b, o + i, none⟩ = some (.slice p n nc) ∧ PA wr 12 p n nc es (gt zss i) ∧ n ≤ 5 := by
  obtain ⟨hs, q⟩ := k.a
  have h1 := olen_le zss
  have h2 := q.tl
  obtain ⟨b, o, hp, hc⟩ := q.hl (by rw [q.el]; omega)
  have c0 := hc i (by rw [q.el]; omega)
  obtain ⟨es2, hP2, hd3, -, -⟩ := q.ev i (by omega)
  exact ⟨b, o, _, _, _, es2, hp, c0, hP2, hd3⟩
theorem MuJ.next (k : MuJ w wr g al y B T zss yss h i bp bn bc op on) (hb : Below wr.heap.size wr w3) {B0 K D B' T' : Nat} (hs0 : w.heap.size ≤ B0) (hA : NO B0 w3 K 10 (otr (opz (· + ·) (Pzs al y zss yss i) (otr (Szs (gt zss i) (Bzs al y yss i))))) q m hs') (hK : K ≤ 60 * (i + 1)) (hD : D ≤ 5 + i + 1) (hi : i ≤ 5) (hg : HR D (EZ (12 + 6 * i) 5) w3 B' T' (Bzs al y yss i) ⟨cp, cn, cc⟩) (hT' : T' ≤ w3.heap.size) : MuJ w w3 g al y B T zss yss h (i + 1) cp cn cc q m := by
  refine ⟨k.r.below hb, (lasts_HR (lasts_EZ 12 5)).below k.a k.t hb, Nat.le_trans k.t hb.size, ⟨D, B', T', by omega, hg, hT'⟩, ⟨hs', ?_⟩, ?_, bnext' k.bw hb⟩
  · obtain ⟨a1, a2, a3, a4, a5⟩ := hA.mono hs0
    exact ⟨a1, a2, a3, a4, fun j hj => let ⟨x1, x2, es, x3⟩ := a5 j hj; ⟨x1, x2, es, x3.wider hK⟩⟩
  · have h1 := hA.tl
    rw [length_otr] at h1
    have h2 := len_opz (Pzs al y zss yss i) (otr (Szs (gt zss i) (Bzs al y yss i)))
    rw [length_otr] at h2
    have h3 := len_Szs (gt zss i) (Bzs al y yss i)
    obtain ⟨hs2, h4⟩ := hg
    have h5 := h4.tl
    have h6 := h4.few
    obtain ⟨oe, h7⟩ := k.o
    have h8 := h7.tl
    have h9 := k.on
    simp only at h5 h6
    omega
end
set_option maxRecDepth 100000 in
theorem oproduct_mid {w : World} {g : Nat} {al y : Int} (hr : RuleQ w g al y) {B T B2 T2 : Nat} {zss yss : List (List Int)} {h k : Hdr} (H : HR 5 (EZ 12 5) w B T zss h) (hT : T ≤ w.heap.size) (G : HR 5 (EZ 12 5) w B2 T2 yss k) (hT2 : T2 ≤ w.heap.size) :
    Calls Tryz.prog 62 #[.slice h.p h.n h.c, .slice k.p k.n k.c, .func (.func 63) #[.pointer (some ⟨g, 0, none⟩)] #[], .func (.func 64) #[.pointer (some ⟨g, 0, none⟩)] #[]] w fun r w' => ∃ q n hs, r = .returned (.slice q n n) ∧ NO w.heap.size w' 300 10 (Pzs al y zss yss (olen zss)) q n hs ∧ Below w.heap.size w w' := by
  have HX : Hid (RuleQ w g al y ∧ HR 5 (EZ 12 5) w B T zss h ∧ T ≤ w.heap.size ∧ HR 5 (EZ 12 5) w B2 T2 yss k ∧ T2 ≤ w.heap.size) := ⟨hr, H, hT, G, hT2⟩
  have hot := otrim_any H hT (by decide) (by decide)
  have hszl : olen zss ≤ 5 := by
    obtain ⟨hs, k⟩ := H
    have h1 := k.few
    have h2 := k.tl
    have h3 := olen_le zss
    omega
  obtain ⟨hp, hn, hc⟩ := h
  obtain ⟨kp, kn, kc⟩ := k
  dsimp only at hot ⊢
  clear hr H hT G hT2
  go_enter Tryz.func62, Tryz.ntmps62
  go_wp2_with fail
  go_fit hot
  rintro r w1 ⟨rfl, hb1⟩
  clear hot
  go_wp2_with fail
  have G0 : Hid (MuJ w w1 g al y B T zss yss ⟨hp, hn, hc⟩ 0 kp kn kc none 0) := ⟨HX.out.1.below hb1, (lasts_HR (lasts_EZ 12 5)).below HX.out.2.1 HX.out.2.2.1 hb1, Nat.le_trans HX.out.2.2.1 hb1.size, ⟨5, B2, T2, by omega, (lasts_HR (lasts_EZ 12 5)).below HX.out.2.2.2.1 HX.out.2.2.2.2 hb1, Nat.le_trans HX.out.2.2.2.2 hb1.size⟩, ⟨[], no_nil _ _ _ _⟩, by decide, hb1⟩
  clear hb1 HX
  go_loopw [1, 9, 10, 11, 15] (fun bv ov _ _ kv wr => ∃ (i : Nat) (bp : Option Addr) (bn bc : Nat) (op : Option Addr) (on : Nat), i ≤ olen zss ∧ bv = .slice bp bn bc ∧ ov = .slice op on on ∧ kv = .int .i64 i ∧ Hid (MuJ w wr g al y B T zss yss ⟨hp, hn, hc⟩ i bp bn bc op on)) (fun _ _ _ _ kv _ => olen zss - (intOf kv).toNat)
  case atStart => exact ⟨0, kp, kn, kc, none, 0, Nat.zero_le _, rfl, rfl, by go_num, G0.out⟩
  case round =>
    clear G0
    obtain ⟨i, bp, bn, bc, op, on, hi, rfl, rfl, rfl, G⟩ := hrel
    rcases Nat.lt_or_ge i (olen zss) with hlt | hge
    · obtain ⟨b, o, p2, n2, nc2, es2, hpb, c1, hP2, hn2⟩ := G.out.entry hlt
      simp only at hpb
      subst hpb
      have i1 : (i : Int) < ((olen zss : Nat) : Int) := by omega
      have HP2 : Hid (PA wr 12 p2 n2 nc2 es2 (gt zss i) ∧ n2 ≤ 5) := ⟨hP2, hn2⟩
      clear hP2 hn2
      by_cases hi0 : i = 0
      · subst hi0
        rw [Nat.add_zero] at c1
        obtain ⟨D, CB, CT, hD, hH, hHT⟩ := G.out.b
        have HGH : HR D (EZ (12 + 6 * 0) 5) wr CB CT (Bzs al y yss 0) ⟨bp, bn, bc⟩ ∧ CT ≤ wr.heap.size := ⟨hH, hHT⟩
        have HGB : Below wr.heap.size wr wr := Below.refl _ _
        clear hH hHT
        have hsc := oScale_gen (N := 5) (HP2.out.1.below HGB) HP2.out.2 (by decide) (by decide) (by omega) HGH.1 HGH.2 (by omega)
        dsimp only at hsc
        have HG' : Hid (HR D (EZ (12 + 6 * 0) 5) wr CB CT (Bzs al y yss 0) ⟨bp, bn, bc⟩ ∧ CT ≤ wr.heap.size ∧ Below wr.heap.size wr wr) := ⟨HGH.1, HGH.2, HGB⟩
        clear HGH HGB
        go_wp2_with fail
        go_fit hsc
        rintro r w2 ⟨q2, hs2, rfl, hN2, hb2⟩
        have hN2' : NO wr.heap.size w2 (12 + (12 + 6 * 0) + 1) 10 (otr (Szs (gt zss 0) (Bzs al y yss 0))) q2 (olen (Szs (gt zss 0) (Bzs al y yss 0))) hs2 := hN2
        have hm2 : olen (Szs (gt zss 0) (Bzs al y yss 0)) ≤ 100 := by
          have h3 := len_Szs (gt zss 0) (Bzs al y yss 0)
          obtain ⟨hs3, h4⟩ := HG'.out.1
          have h5 := h4.tl
          have h6 := h4.few
          simp only at h5 h6
          omega
        have hB2 := bnext' HG'.out.2.2 hb2
        obtain ⟨hso, hO⟩ := G.out.o
        have hadd := oAdd_any ((lasts_HR (lasts_EZ (60 * 0) 10)).below (hO.hr (by omega) (by decide) (by have := G.out.on; omega)) (Nat.le_refl _) hB2) (hN2'.hr (by omega) (by decide) (by omega)) hB2.size (Nat.le_refl _) (by have := G.out.on; omega) (by omega) (by decide) (by omega)
        dsimp only at hadd
        have HB2 : Hid (Below wr.heap.size wr w2 ∧ Below wr.heap.size wr w2) := ⟨hB2, hb2⟩
        change _ at hN2
        clear hsc hN2 hN2' hO
        have e9 : olen ((List.range (olen (Bzs al y yss 0))).map fun i => mulp (tr (gt zss 0)) (tr (gt (Bzs al y yss 0) i))) = olen (Szs (gt zss 0) (Bzs al y yss 0)) := rfl
        rw [e9]
        clear e9
        generalize olen (Szs (gt zss 0) (Bzs al y yss 0)) = m2 at *
        go_wp2_with fail
        go_fit hadd
        rintro r w3 ⟨q3, hs3, rfl, hN3, hb3⟩
        have HN : Hid (MuJ w w3 g al y B T zss yss ⟨some ⟨b, o, none⟩, hn, hc⟩ (0 + 1) bp bn bc q3 (olen (opz (· + ·) (Pzs al y zss yss 0) (otr (Szs (gt zss 0) (Bzs al y yss 0)))))) := G.out.next (bnext' HB2.out.1 hb3) (Nat.le_trans G.out.bw.size (Nat.le_trans HB2.out.1.size (Nat.le_refl _))) hN3 (by omega) (by omega) (by omega) ((lasts_HR (lasts_EZ (12 + 6 * 0) 5)).below HG'.out.1 HG'.out.2.1 (bnext' HB2.out.2 hb3)) (Nat.le_trans HG'.out.2.1 (bnext' HB2.out.2 hb3).size)
        clear hadd hN3 hb3 hB2 hb2 c1
        generalize olen (opz (· + ·) (Pzs al y zss yss 0) (otr (Szs (gt zss 0) (Bzs al y yss 0)))) = m3 at *
        go_wp2
        exact ⟨⟨1, bp, bn, bc, q3, m3, by omega, rfl, rfl, by go_num, HN.out⟩, by simp [intOf]; omega⟩
      · obtain ⟨k, rfl⟩ : ∃ k, i = k + 1 := ⟨i - 1, by omega⟩
        have i2 : (0 : Int) < ((k + 1 : Nat) : Int) := by omega
        obtain ⟨D, CB, CT, hD, hH, hHT⟩ := G.out.b
        rw [Nat.add_sub_cancel] at hH
        have hlt' := LXz_tight (al := al) (y := y) (hr_bd hH) (hr_len hH) (by decide) G.out.r.bd
        have hbl : olen (LXz al y (Bzs al y yss k)) ≤ D + 1 := by
          have h1 := len_LXz al y (Bzs al y yss k)
          have h2 := olen_le (Bzs al y yss k)
          obtain ⟨hs3, h4⟩ := hH
          have h5 := h4.tl
          have h6 := h4.few
          simp only at h5 h6
          omega
        have hl := letterTimes_any G.out.r hH hHT (by omega) (by decide) (by omega)
        dsimp only at hl
        have HLT : Hid (∀ j t, ((gx (gt (LXz al y (Bzs al y yss k)) j) t).natAbs : Int) < pw (12 + 6 * k + 5 + 1)) := hlt'
        clear hH hHT hlt'
        go_wp2_with fail
        go_fit hl
        rintro r w1' ⟨q1, hs1, rfl, hN1, hb1'⟩
        have hN1' := (hN1.fit (M := 12 + 6 * (k + 1)) (fun j t => by rw [gx_gtotr]; exact Int.lt_of_lt_of_le (HLT.out j t) (pw_mono (by omega)))).hr (by omega) (by decide) (by omega)
        have HGH : HR (olen (LXz al y (Bzs al y yss k))) (EZ (12 + 6 * (k + 1)) 5) w1' wr.heap.size w1'.heap.size (Bzs al y yss (k + 1)) ⟨q1, olen (LXz al y (Bzs al y yss k)), olen (LXz al y (Bzs al y yss k))⟩ ∧ w1'.heap.size ≤ w1'.heap.size := ⟨hN1', Nat.le_refl _⟩
        have HGB := hb1'
        clear hl hN1 hN1' hb1' HLT
        generalize olen (LXz al y (Bzs al y yss k)) = bm at *
        have hsc := oScale_gen (N := 5) (HP2.out.1.below HGB) HP2.out.2 (by decide) (by decide) (by omega) HGH.1 HGH.2 (by omega)
        dsimp only at hsc
        have HG' : Hid (HR bm (EZ (12 + 6 * (k + 1)) 5) w1' wr.heap.size w1'.heap.size (Bzs al y yss (k + 1)) ⟨q1, bm, bm⟩ ∧ w1'.heap.size ≤ w1'.heap.size ∧ Below wr.heap.size wr w1') := ⟨HGH.1, HGH.2, HGB⟩
        clear HGH HGB
        go_wp2_with fail
        go_fit hsc
        rintro r w2 ⟨q2, hs2, rfl, hN2, hb2⟩
        have hN2' : NO w1'.heap.size w2 (12 + (12 + 6 * (k + 1)) + 1) 10 (otr (Szs (gt zss (k + 1)) (Bzs al y yss (k + 1)))) q2 (olen (Szs (gt zss (k + 1)) (Bzs al y yss (k + 1)))) hs2 := hN2
        have hm2 : olen (Szs (gt zss (k + 1)) (Bzs al y yss (k + 1))) ≤ 100 := by
          have h3 := len_Szs (gt zss (k + 1)) (Bzs al y yss (k + 1))
          obtain ⟨hs3, h4⟩ := HG'.out.1
          have h5 := h4.tl
          have h6 := h4.few
          simp only at h5 h6
          omega
        have hB2 := bnext' HG'.out.2.2 hb2
        obtain ⟨hso, hO⟩ := G.out.o
        have hadd := oAdd_any ((lasts_HR (lasts_EZ (60 * (k + 1)) 10)).below (hO.hr (by omega) (by decide) (by have := G.out.on; omega)) (Nat.le_refl _) hB2) (hN2'.hr (by omega) (by decide) (by omega)) hB2.size (Nat.le_refl _) (by have := G.out.on; omega) (by omega) (by decide) (by omega)
        dsimp only at hadd
        have HB2 : Hid (Below wr.heap.size wr w2 ∧ Below w1'.heap.size w1' w2) := ⟨hB2, hb2⟩
        change _ at hN2
        clear hsc hN2 hN2' hO
        have e9 : olen ((List.range (olen (Bzs al y yss (k + 1)))).map fun i => mulp (tr (gt zss (k + 1))) (tr (gt (Bzs al y yss (k + 1)) i))) = olen (Szs (gt zss (k + 1)) (Bzs al y yss (k + 1))) := rfl
        rw [e9]
        clear e9
        generalize olen (Szs (gt zss (k + 1)) (Bzs al y yss (k + 1))) = m2 at *
        go_wp2_with fail
        go_fit hadd
        rintro r w3 ⟨q3, hs3, rfl, hN3, hb3⟩
        have HN : Hid (MuJ w w3 g al y B T zss yss ⟨some ⟨b, o, none⟩, hn, hc⟩ ((k + 1) + 1) q1 bm bm q3 (olen (opz (· + ·) (Pzs al y zss yss (k + 1)) (otr (Szs (gt zss (k + 1)) (Bzs al y yss (k + 1))))))) := G.out.next (bnext' HB2.out.1 hb3) (Nat.le_trans G.out.bw.size (Nat.le_trans HB2.out.1.size (Nat.le_refl _))) hN3 (by omega) (by omega) (by omega) ((lasts_HR (lasts_EZ (12 + 6 * (k + 1)) 5)).below HG'.out.1 HG'.out.2.1 (bnext' HB2.out.2 hb3)) (Nat.le_trans HG'.out.2.1 (bnext' HB2.out.2 hb3).size)
        clear hadd hN3 hb3 hB2 hb2 c1
        generalize olen (opz (· + ·) (Pzs al y zss yss (k + 1)) (otr (Szs (gt zss (k + 1)) (Bzs al y yss (k + 1))))) = m3 at *
        go_wp2
        exact ⟨⟨k + 1 + 1, q1, bm, bm, q3, m3, by omega, rfl, rfl, by go_num, HN.out⟩, by simp [intOf]; omega⟩
    · obtain rfl : i = olen zss := by omega
      have HG : Hid (∃ hs, NO w.heap.size wr 300 10 (Pzs al y zss yss (olen zss)) op on hs ∧ Below w.heap.size w wr) := by
        obtain ⟨hs, a1, a2, a3, a4, a5⟩ := G.out.o
        exact ⟨hs, ⟨a1, a2, a3, a4, fun j hj => let ⟨x1, x2, es, x3⟩ := a5 j hj; ⟨x1, x2, es, x3.wider (by omega)⟩⟩, G.out.bw⟩
      clear G
      go_wp2
      go_ret
      obtain ⟨hs, h1, h2⟩ := HG.out
      exact ⟨op, on, hs, rfl, h1, h2⟩
end Go.Proofs.YtejnhpjejcpekaaGreatDoor
