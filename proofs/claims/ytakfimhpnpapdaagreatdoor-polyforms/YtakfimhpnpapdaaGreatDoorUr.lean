/-
  upoly: (prime).rest.
-/
import Derived.Test.YtakfimhpnpapdaaGreatDoorUpUq
import Derived.StillTailTactics
namespace Go.Proofs.YtakfimhpnpapdaaGreatDoor
open Go.RowKit
set_option linter.unusedVariables false
set_option linter.unusedSimpArgs false

/-- A row of rest: c times bs is added from the place o on. -/
def rstep (m c : Int) (bs : List Int) (o : Nat) : Nat → List Int → List Int
  | 0, Z => Z
  | t + 1, Z => (rstep m c bs o t Z).set (o + t) ((gx Z (o + t) + c * gx bs t) % m)
/-- What rest makes of a. -/
def rrest (m : Int) (bs : List Int) (n : Nat) : Nat → List Int → List Int
  | 0, Z => Z
  | j + 1, Z => rrest m bs n j (if (0 - gx Z (n + j)) % m = 0 then Z else rstep m ((0 - gx Z (n + j)) % m) bs j n Z)
theorem length_rstep (m c : Int) (bs : List Int) (o : Nat) : ∀ t Z, (rstep m c bs o t Z).length = Z.length
  | 0, Z => rfl
  | t + 1, Z => by rw [rstep, List.length_set, length_rstep m c bs o t Z]
theorem length_rrest (m : Int) (bs : List Int) (n : Nat) : ∀ j Z, (rrest m bs n j Z).length = Z.length
  | 0, Z => rfl
  | j + 1, Z => by
    rw [rrest, length_rrest m bs n j]
    split
    · rfl
    · rw [length_rstep]
theorem gx_set_ne' (Z : List Int) (i j : Nat) (v : Int) (h : i ≠ j) : gx (Z.set i v) j = gx Z j := by
  unfold gx
  rw [List.getD_eq_getElem?_getD, List.getD_eq_getElem?_getD, List.getElem?_set_ne h]
theorem gx_rstep_ge (m c : Int) (bs : List Int) (o : Nat) : ∀ t Z j, o + t ≤ j → gx (rstep m c bs o t Z) j = gx Z j
  | 0, Z, j, _ => rfl
  | t + 1, Z, j, h => by
    rw [rstep, gx_set_ne' _ _ _ _ (by omega)]
    exact gx_rstep_ge m c bs o t Z j (by omega)
/-- Residues. -/
def Res (m : Int) (xs : List Int) : Prop := ∀ j, 0 ≤ gx xs j ∧ gx xs j < m
theorem Res.set {m : Int} {xs : List Int} (h : Res m xs) (i : Nat) (v : Int) (h0 : 0 ≤ v) (h1 : v < m) : Res m (xs.set i v) := fun j => by
  by_cases e : i = j
  · subst e
    rcases Nat.lt_or_ge i xs.length with hl | hl
    · rw [gx_mem _ _ (by rw [List.length_set]; exact hl)]
      simp [h0, h1]
    · have := h i
      rw [gx_past xs xs.length (Nat.le_refl _) i hl] at this
      rw [gx_past (xs.set i v) xs.length (by simp) i hl]
      exact this
  · rw [gx_set_ne' _ _ _ _ e]
    exact h j
theorem Res.rstep {m c : Int} {bs Z : List Int} {o : Nat} (h : Res m Z) (hm : 2 ≤ m) : ∀ t, Res m (rstep m c bs o t Z)
  | 0 => h
  | t + 1 => by
    rw [Go.Proofs.YtakfimhpnpapdaaGreatDoor.rstep]
    exact (Res.rstep h hm t).set _ _ (Int.emod_nonneg _ (by omega)) (Int.emod_lt_of_pos _ (by omega))
theorem Res.rrest {m : Int} {bs : List Int} {n : Nat} (hm : 2 ≤ m) : ∀ j {Z : List Int}, Res m Z → Res m (rrest m bs n j Z)
  | 0, _, h => h
  | j + 1, _, h => by
    rw [Go.Proofs.YtakfimhpnpapdaaGreatDoor.rrest]
    refine Res.rrest hm j ?_
    split
    · exact h
    · exact h.rstep hm n
set_option maxHeartbeats 4000000 in
set_option maxRecDepth 100000 in
/-- (upoly.prime).rest. -/
theorem rest_any (g na ca : Nat) (Z : List Int) (q : Option Addr) (n nb bc : Nat) (bs : List Int) (m : Int) (w : World) (hnb : nb = n + 1) (hna : na ≤ Z.length) (hca : na ≤ ca) (hcZ : ca ≤ 100000) (hR : Row w g 95 .u64 Z) (hZ : Res m Z) (hl : bs.length = nb) (hn : n ≤ 100000) (hB : Rd w q .u64 bs) (hb : Res m bs) (hoff : Off g q) (hm : 2 ≤ m) (hm2 : m ≤ 2147483647) :
    Calls Tryz.prog 113 #[.int .u64 m, .slice (some ⟨g, 0, none⟩) na ca, .slice q nb bc] w fun e w' => e = .returned (.slice (some ⟨g, 0, none⟩) (tlen ((rrest m bs n (na - n) Z).take (min n na))) ca) ∧ Row w' g 95 .u64 (rrest m bs n (na - n) Z) ∧ w.grownBy w' (some g) := by
  have HB : Hid (Rd w q .u64 bs ∧ Res m bs) := ⟨hB, hb⟩
  clear hB hb
  have HZ : Hid (Res m Z) := hZ
  have HR : Hid (Row w g 95 .u64 Z) := hR
  clear hZ hR
  have hnI : (nb : Int) - 1 = (n : Int) := by omega
  have hn1 : n < nb := by omega
  have hn2 : nb ≤ n + 1 := by omega
  clear hnb
  have hnW : IntKind.i64.wrap (n : Int) = (n : Int) := by rw [IntKind.wrap_i64]; omega
  go_enter Tryz.func113, Tryz.ntmps113
  go_wp2_with fail
  go_loopw [8, 9, 10, 11] (fun kv cv rv jv wr => ∃ (t : Nat) (Y : List Int), t ≤ na - n ∧ kv = .int .i64 (((na : Int) - 1) - ((na - n - t : Nat) : Int)) ∧ Y.length = Z.length ∧ Hid (rrest m bs n t Y = rrest m bs n (na - n) Z ∧ Res m Y ∧ Row wr g 95 .u64 Y ∧ w.grownBy wr (some g))) (fun kv _ _ _ _ => (intOf kv + 1 - n).toNat)
  case atStart => exact ⟨na - n, Z, Nat.le_refl _, by go_num, rfl, rfl, HZ.out, HR.out, grownBy_refl _ _⟩
  case round =>
    obtain ⟨t, Y, ht, rfl, hY, H⟩ := hrel
    rcases Nat.eq_zero_or_pos t with h0 | h0
    · subst h0
      obtain ⟨e1, e2, e3, e4⟩ := H.out
      rw [rrest] at e1
      subst e1
      have hc1 : ¬ (n : Int) ≤ (na : Int) - 1 - ((na - n - 0 : Nat) : Int) := by omega
      obtain ⟨M, hM1, hM2⟩ : ∃ M : Nat, min (n : Int) (na : Int) = (M : Int) ∧ M = min n na := ⟨min n na, by omega, rfl⟩
      have hM3 : (M : Int) ≤ (ca : Int) := by omega
      have HM : Hid (M = min n na) := hM2
      have HI : Hid (Row wr g 95 .u64 (rrest m bs n (na - n) Z) ∧ w.grownBy wr (some g)) := ⟨e3, e4⟩
      clear H e2 e3 e4 hM2
      go_wp2_with fail
      refine (trimRes_any _ M ca ((rrest m bs n (na - n) Z).take M) wr (by rw [List.length_take, hY, HM.out]; omega) (by omega) (by omega) (HI.out.1.rd_take M)).mono ?_
      rintro e w1 ⟨rfl, rfl⟩
      go_wp2
      go_ret
      rw [← HM.out]
      exact ⟨rfl, HI.out⟩
    · obtain ⟨s, rfl⟩ : ∃ s, t = s + 1 := ⟨t - 1, by omega⟩
      have hk : (na : Int) - 1 - ((na - n - (s + 1) : Nat) : Int) = ((n + s : Nat) : Int) := by omega
      rw [hk]
      obtain ⟨e1, e2, e3, e4⟩ := H.out
      rw [rrest] at e1
      have c0 := e3.cell (n + s) (by omega)
      obtain ⟨y0, y1⟩ := e2 (n + s)
      have hbd1 : ((n + s : Nat) : Int) < (na : Int) := by omega
      have HI : Hid (Res m Y ∧ Row wr g 95 .u64 Y ∧ w.grownBy wr (some g)) := ⟨e2, e3, e4⟩
      have HE : Hid (rrest m bs n s (if (0 - gx Y (n + s)) % m = 0 then Y else rstep m ((0 - gx Y (n + s)) % m) bs s n Y) = rrest m bs n (na - n) Z) := e1
      clear H e1 e2 e3 e4
      go_wp2_with fail
      refine (minus_any m 0 (gx Y (n + s)) _ hm hm2 (by decide) (by omega) y0 y1).mono ?_
      rintro e w1 ⟨rfl, rfl⟩
      have q0 := Int.emod_nonneg (0 - gx Y (n + s)) (show m ≠ 0 by omega)
      have q1 := Int.emod_lt_of_pos (0 - gx Y (n + s)) (show 0 < m by omega)
      generalize (0 - gx Y (n + s)) % m = c at *
      by_cases hc : c = 0
      · have HC : Hid (c = 0) := hc
        have hc' : (c == 0) = true := by rw [beq_iff_eq]; exact hc
        clear hc
        go_wp2
        go_roundw
        case rel =>
          refine ⟨s, Y, by omega, by go_num, hY, ?_, HI.out⟩
          have := HE.out
          rwa [if_pos HC.out] at this
        case measure => simp [intOf]; omega
      · have hc' : (c == 0) = false := by rw [beq_eq_false_iff_ne]; exact hc
        have HE2 : Hid (rrest m bs n s (rstep m c bs s n Y) = rrest m bs n (na - n) Z) := by have := HE.out; rwa [if_neg hc] at this
        clear HE
        have hs1 : ((n + s : Nat) : Int) - (n : Int) = (s : Int) := by omega
        have hs2 : ((n + s : Nat) : Int) ≤ (ca : Int) := by omega
        have hs3 : (s : Int) ≤ ((n + s : Nat) : Int) := by omega
        have hs4 : ((n + s : Nat) : Int) - (s : Int) = (n : Int) := by omega
        have hs5 : IntKind.i64.wrap (s : Int) = (s : Int) := by rw [IntKind.wrap_i64]; omega
        have HYr : Hid (Res m Y) := HI.out.1
        go_wp2_with fail
        have hx1 : n + s - n = s := by omega
        have hx2 : n + s - s = n := by omega
        simp only [hx1, hx2]
        clear hx1 hx2
        go_loopw [11, 39] (fun jv kv wi => ∃ j : Nat, j ≤ n ∧ kv = .int .i64 j ∧ Hid (Row wi g 95 .u64 (rstep m c bs s j Y) ∧ w.grownBy wi (some g))) (fun _ kv _ => n - (intOf kv).toNat)
        case atStart => exact ⟨0, Nat.zero_le _, by go_num, HI.out.2⟩
        case round =>
          obtain ⟨j, hj, rfl, H⟩ := hrel
          rcases Nat.lt_or_ge j n with hlt | hge
          · obtain ⟨r1, r2⟩ := H.out
            obtain ⟨b, off, rfl, hcell⟩ := (HB.out.1.keptOff r2 hoff) (by omega)
            have d0 := hcell j (by omega)
            have d1 := r1.cell (s + j) (by rw [length_rstep]; omega)
            rw [gx_rstep_ge m c bs s j Y (s + j) (Nat.le_refl _)] at d1
            have f1 := r1.frozen (s + j)
            obtain ⟨u0, u1⟩ := HYr.out (s + j)
            obtain ⟨v0, v1⟩ := HB.out.2 j
            obtain ⟨p0, p1⟩ := mul_bdp q0 v0 q1 v1 hm2
            have HH : Hid (Row wr g 95 .u64 (rstep m c bs s j Y) ∧ w.grownBy wr (some g)) := ⟨r1, r2⟩
            have hj1 : (j : Int) < (nb : Int) := by omega
            have HV : Hid (rstep m c bs s (j + 1) Y = (rstep m c bs s j Y).set (s + j) ((gx Y (s + j) + c * gx bs j) % m)) := rfl
            clear hcell r1 r2 H
            generalize hP : c * gx bs j = P at *
            have HP := (show Hid _ from hP)
            clear hP
            have hm0 : ¬ m = 0 := by omega
            have hm0' : (m == 0) = false := by rw [beq_eq_false_iff_ne]; exact hm0
            have e1 : IntKind.u64.wrap P = P := by rw [IntKind.wrap_u64]; omega
            have e2 : IntKind.u64.wrap (gx Y (s + j) + P) = gx Y (s + j) + P := by rw [IntKind.wrap_u64]; omega
            have e3 : (gx Y (s + j) + P).tmod m = (gx Y (s + j) + P) % m := Int.tmod_eq_emod_of_nonneg (by omega)
            have e4 := Int.emod_nonneg (gx Y (s + j) + P) hm0
            have e5 := Int.emod_lt_of_pos (gx Y (s + j) + P) (show 0 < m by omega)
            have e6 : IntKind.u64.wrap ((gx Y (s + j) + P) % m) = (gx Y (s + j) + P) % m := by rw [IntKind.wrap_u64]; omega
            go_wp2_with fail
            go_still_tail 15, (by kernel_rfl)
            go_wp2
            go_roundw
            case rel =>
              obtain ⟨r1, r2⟩ := HH.out
              refine ⟨j + 1, by omega, by go_num, ?_, grownBy_drew (grownBy_setCell r2 _ _)⟩
              rw [HV.out, HP.out, e1, e2, e3]
              exact (r1.set (s + j) _).drew
            case measure => simp [intOf]; omega
          · obtain rfl : j = n := by omega
            obtain ⟨r1, r2⟩ := H.out
            have HH : Hid (Row wr g 95 .u64 (rstep m c bs s j Y) ∧ w.grownBy wr (some g)) := ⟨r1, r2⟩
            clear H r1 r2 hge
            go_wp2
            go_roundw
            case rel =>
              refine ⟨s, rstep m c bs s j Y, by omega, by go_num, by rw [length_rstep]; exact hY, HE2.out, HYr.out.rstep hm j, HH.out⟩
            case measure => simp [intOf]; omega
end Go.Proofs.YtakfimhpnpapdaaGreatDoor
