/-
  upoly: (prime).divisor.
-/
import Derived.Test.YtijckfcpnghmiaaGreatDoorUr
namespace Go.Proofs.YtijckfcpnghmiaaGreatDoor
open Go.RowKit
set_option linter.unusedVariables false
set_option linter.unusedSimpArgs false

/-- What divisor makes of two lists of residues. -/
def dvs (m : Int) (iv : Int → Int) : Nat → List Int → Nat → List Int → Nat → List Int × Nat
  | 0, A, na, _, _ => (A, na)
  | f + 1, A, na, B, nb => if nb = 0 then (A, na) else
      dvs m iv f ((B.take nb).map (· * iv (gx B (nb - 1)) % m)) nb (rrest m ((B.take nb).map (· * iv (gx B (nb - 1)) % m)) (nb - 1) (na - (nb - 1)) A)
        (tlen ((rrest m ((B.take nb).map (· * iv (gx B (nb - 1)) % m)) (nb - 1) (na - (nb - 1)) A).take (min (nb - 1) na)))
theorem Res.take {m : Int} {xs : List Int} (h : Res m xs) (n : Nat) : Res m (xs.take n) := fun j => by
  rcases Nat.lt_or_ge j n with hj | hj
  · rw [gx_take _ _ _ hj]; exact h j
  · have h0 := h xs.length
    rw [gx_past xs xs.length (Nat.le_refl _) _ (Nat.le_refl _)] at h0
    rw [gx_past (xs.take n) n (by simp; omega) j hj]
    exact h0
theorem Res.scaled {m c : Int} {xs : List Int} (hm : 2 ≤ m) : Res m (xs.map (· * c % m)) := fun j => by
  rw [gx_map0 (· * c % m) (by simp)]
  exact ⟨Int.emod_nonneg _ (by omega), Int.emod_lt_of_pos _ (by omega)⟩
/-- The two lists of divisor in memory. -/
structure DV (B0 : Nat) (wr : World) (m : Int) (ga na ca : Nat) (A : List Int) (gb nb cb : Nat) (B : List Int) : Prop where
  ra : Row wr ga 66 .u64 A
  rb : Row wr gb 66 .u64 B
  ne : ga ≠ gb
  fa : B0 ≤ ga
  fb : B0 ≤ gb
  la : na ≤ A.length
  lb : nb ≤ B.length
  sa : Res m A
  sb : Res m B
set_option maxHeartbeats 4000000 in
set_option maxRecDepth 100000 in
/-- (upoly.prime).divisor. -/
theorem divisor_res (B0 : Nat) (m : Nat) (ga na ca : Nat) (A : List Int) (gb nb cb : Nat) (B : List Int) (w : World) (h : DV B0 w m ga na ca A gb nb cb B) (hB0 : B0 ≤ w.heap.size) (hca : na ≤ ca) (hcb : nb ≤ cb) (hca2 : ca ≤ 100000) (hcb2 : cb ≤ 100000) (hm : 2 ≤ m) (hm2 : m ≤ 2147483647) (F : Nat) (hF : nb ≤ F) :
    Calls Tryz.prog 58 #[.int .u64 m, .slice (some ⟨ga, 0, none⟩) na ca, .slice (some ⟨gb, 0, none⟩) nb cb] w fun e w' => ∃ g c D nd, dvs m (fun a => a ^ (m - 2) % m) F A na B nb = (D, nd) ∧ e = .returned (.slice (some ⟨g, 0, none⟩) nd c) ∧ Row w' g 66 .u64 D ∧ Res m D ∧ nd ≤ D.length ∧ B0 ≤ g ∧ Below B0 w w' := by
  generalize hiv : (fun a : Int => a ^ (m - 2) % (m : Int)) = iv
  have hivb : ∀ a, 0 ≤ iv a ∧ iv a < m := fun a => by rw [← hiv]; exact ⟨Int.emod_nonneg _ (by omega), Int.emod_lt_of_pos _ (by omega)⟩
  have HIV : Hid (∀ a : Int, a ^ (m - 2) % (m : Int) = iv a) := fun a => by rw [← hiv]
  clear hiv
  have HD : Hid (DV B0 w m ga na ca A gb nb cb B) := h
  clear h
  go_enter Tryz.func58, Tryz.ntmps58
  go_wp2_with fail
  go_loopw [1, 2] (fun av bv wr => ∃ (f ga' na' ca' gb' nb' cb' : Nat) (A' B' : List Int), av = .slice (some ⟨ga', 0, none⟩) na' ca' ∧ bv = .slice (some ⟨gb', 0, none⟩) nb' cb' ∧ nb' ≤ f ∧ na' ≤ ca' ∧ nb' ≤ cb' ∧ ca' ≤ 100000 ∧ cb' ≤ 100000 ∧ Hid (DV B0 wr m ga' na' ca' A' gb' nb' cb' B' ∧ dvs m iv f A' na' B' nb' = dvs m iv F A na B nb ∧ Below B0 w wr)) (fun _ bv _ => match bv with | .slice _ n _ => n | _ => 0)
  case atStart => exact ⟨F, ga, na, ca, gb, nb, cb, A, B, rfl, rfl, hF, hca, hcb, hca2, hcb2, HD.out, rfl, Below.refl _ _⟩
  case round =>
    clear HD hca hcb hca2 hcb2
    obtain ⟨f, ga', na', ca', gb', nb', cb', A', B', rfl, rfl, hf, hca, hcb, hca2, hcb2, H⟩ := hrel
    rcases Nat.eq_zero_or_pos nb' with h0 | h0
    · subst h0
      obtain ⟨hd, he, hb⟩ := H.out
      have he' : dvs m iv F A na B nb = (A', na') := by
        rw [← he]
        cases f with
        | zero => rfl
        | succ f => rw [dvs, if_pos rfl]
      have HE : Hid (DV B0 wr m ga' na' ca' A' gb' 0 cb' B' ∧ dvs m iv F A na B nb = (A', na') ∧ Below B0 w wr) := ⟨hd, he', hb⟩
      clear H hd he hb he'
      go_wp2
      go_ret
      obtain ⟨hd, he, hb⟩ := HE.out
      exact ⟨ga', ca', A', na', he, rfl, hd.ra, hd.sa, hd.la, hd.fa, hb⟩
    · have hp : (0 : Int) < (nb' : Int) := by omega
      obtain ⟨hd, he, hb⟩ := H.out
      obtain ⟨f, rfl⟩ : ∃ k, f = k + 1 := ⟨f - 1, by omega⟩
      rw [dvs, if_neg (by omega)] at he
      have hc := hd.rb.cell (nb' - 1) (by have := hd.lb; omega)
      obtain ⟨x0, x1⟩ := hd.sb (nb' - 1)
      have hi1 : (nb' : Int) - 1 = ((nb' - 1 : Nat) : Int) := by omega
      have hi2 : ((nb' - 1 : Nat) : Int) < (nb' : Int) := by omega
      have hi3 : IntKind.i64.wrap ((nb' - 1 : Nat) : Int) = ((nb' - 1 : Nat) : Int) := by rw [IntKind.wrap_i64]; omega
      obtain ⟨i0, i1⟩ := hivb (gx B' (nb' - 1))
      have HI : Hid (DV B0 wr m ga' na' ca' A' gb' nb' cb' B' ∧ Below B0 w wr) := ⟨hd, hb⟩
      have HE := (show Hid _ from he)
      clear H hd he hb
      have hiv := inverse_any m (gx B' (nb' - 1)) wr hm hm2 x0 x1
      rw [HIV.out] at hiv
      go_wp2_with fail
      refine hiv.mono ?_
      rintro e w1 ⟨rfl, rfl⟩
      clear hiv
      have hd := HI.out.1
      go_wp2_with fail
      refine (scaled_any _ nb' cb' (B'.take nb') m (iv (gx B' (nb' - 1))) _ (by have := hd.lb; simp; omega) (by omega) (hd.rb.rd_take nb') (hd.sb.take nb') (by omega) (by omega) i0 i1).mono ?_
      rintro e w1 ⟨rfl, hr1, hb1⟩
      have hra := hd.ra.below hb1 hd.ra.lt
      have hlt := hd.ra.lt
      generalize hS : (B'.take nb').map (· * iv (gx B' (nb' - 1)) % (m : Int)) = S at *
      have hSl : S.length = nb' := by rw [← hS]; have := hd.lb; simp; omega
      have hSr : Res m S := by rw [← hS]; exact Res.scaled (by omega)
      have HS := (show Hid _ from hS)
      have HR : Hid (Row w1 wr.heap.size 66 .u64 S ∧ Row w1 ga' 66 .u64 A' ∧ Below wr.heap.size wr w1 ∧ Res m S) := ⟨hr1, hra, hb1, hSr⟩
      clear hS hd hr1 hra hb1 hSr hc
      have hrest := rest_any ga' na' ca' A' (some ⟨wr.heap.size, 0, none⟩) (nb' - 1) nb' nb' S m w1 (by omega) HI.out.1.la hca (by omega) HR.out.2.1 HI.out.1.sa hSl (by omega) HR.out.1.rd_all HR.out.2.2.2 (fun a ha => by cases ha; exact Nat.ne_of_gt hlt) (by omega) (by omega)
      go_wp2_with fail
      refine hrest.mono ?_
      rintro e w2 ⟨rfl, hr2, hg2⟩
      clear hrest
      generalize hT : rrest m S (nb' - 1) (na' - (nb' - 1)) A' = T at *
      have HT := (show Hid _ from hT)
      have hTl : tlen (T.take (min (nb' - 1) na')) ≤ nb' - 1 := Nat.le_trans (tlen_le _) (by simp; omega)
      have hTl2 : tlen (T.take (min (nb' - 1) na')) ≤ na' := Nat.le_trans (tlen_le _) (by simp; omega)
      have HG : Hid (Row w2 ga' 66 .u64 T ∧ w1.grownBy w2 (some ga')) := ⟨hr2, hg2⟩
      generalize hN : tlen (T.take (min (nb' - 1) na')) = N at *
      have HN := (show Hid _ from hN)
      clear hT hr2 hg2 hN
      go_wp2
      go_roundw
      case rel =>
        obtain ⟨hd, hb⟩ := HI.out
        obtain ⟨r1, r2, r3, r4⟩ := HR.out
        obtain ⟨t1, t2⟩ := HG.out
        have hsz := hb.size
        have hla := hd.la
        refine ⟨f, wr.heap.size, nb', nb', ga', N, ca', S, T, rfl, rfl, by omega, Nat.le_refl _, by omega, by omega, hca2, ⟨r1.kept t2 (by simp; omega), t1, by omega, by omega, hd.fa, by omega, ?_, r4, ?_⟩, ?_, ?_⟩
        · rw [← HT.out, length_rrest]; omega
        · rw [← HT.out]; exact Res.rrest (by omega) _ hd.sa
        · exact HE.out
        · exact below_grown (hb.trans (r3.mono (by omega))) t2 (by have := r3.size; omega) hd.fa
      case measure => show N < nb'; omega
end Go.Proofs.YtijckfcpnghmiaaGreatDoor
/-
  upoly's residues at 1 + 4x + 4x^2 and 1 + 2x, modulo 2147483647.
-/
namespace Go.Proofs.YtijckfcpnghmiaaGreatDoor
open Go.RowKit
set_option linter.unusedVariables false
set_option linter.unusedSimpArgs false

theorem pow2_any (x : Nat) (h : x = 31 * 69273665 + 30) : (2 : Int) ^ x % 2147483647 = 1073741824 := by
  have e31 : (2 : Int) ^ 31 % 2147483647 = 1 := by decide
  have e30 : (2 : Int) ^ 30 % 2147483647 = 1073741824 := by decide
  have e1 : ((2 : Int) ^ 31) ^ 69273665 % 2147483647 = 1 := by
    rw [← pow_emod, e31, Int.one_pow]
    decide
  rw [h, Int.pow_add, Int.pow_mul, Int.mul_emod, e1, e30]
  decide
theorem dvs_start (iv : Int → Int) (h : iv 2 = 1073741824) : dvs 2147483647 iv 2 [1, 4, 4] 3 [1, 2] 2 = ([1073741824, 1], 2) := by
  rw [dvs, if_neg (by decide), show gx [1, 2] (2 - 1) = 2 from rfl, h]
  have e1 : (List.take 2 [(1 : Int), 2]).map (· * 1073741824 % 2147483647) = [1073741824, 1] := by decide
  rw [e1]
  have e2 : rrest 2147483647 [1073741824, 1] (2 - 1) (3 - (2 - 1)) [1, 4, 4] = [0, 2, 4] := by decide
  rw [e2]
  have e3 : tlen (List.take (min (2 - 1) 3) [(0 : Int), 2, 4]) = 0 := by decide
  rw [e3, dvs, if_pos rfl]
end Go.Proofs.YtijckfcpnghmiaaGreatDoor
