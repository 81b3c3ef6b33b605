/-
  packed.Of.
-/
import Derived.Test.YtejnhpjejcpekaaGreatDoorPrPsPtPuPvPwPxKa
namespace Go.Proofs.YtejnhpjejcpekaaGreatDoor
open Go.RowKit
set_option linter.unusedVariables false
set_option linter.unusedSimpArgs false
set_option maxHeartbeats 8000000
set_option maxRecDepth 100000 in
theorem pkOf_any {B : Nat} {w : World} {K : Nat} {p : Option Addr} {n : Nat} {es : List Ent} {zs : List Int} (h : PB B w K p n es zs) (W : Nat) (hW1 : 1 ≤ W) (hW : W ≤ 1000) (hn : n ≤ 1000) (hWe : ∀ j, j < n → zl (gx zs j) ≤ W) :
    Calls Tryz.prog 288 #[.slice p n n, .int .i64 W] w fun r w' => ∃ u : Ent, r = .returned (.agg #[.bool u.s, .slice u.p u.n u.c]) ∧ NV w.heap.size w' (W * n + W * n + 1) (pkf W (gx zs) n) u ∧ Below w.heap.size w w' := by
  obtain ⟨N, hN⟩ : ∃ N, N = W * n := ⟨_, rfl⟩
  have hNle : N ≤ 1000000 := by rw [hN]; exact Nat.mul_le_mul hW hn
  have e1 : (W : Int) * (n : Int) = (N : Int) := by rw [hN]; push_cast; rfl
  have HN : Hid (N = W * n) := hN
  rw [← hN]
  clear hN
  have hmk := mk_u32 N (by omega)
  have HX : Hid (PB B w K p n es zs ∧ ∀ j, j < n → zl (gx zs j) ≤ W) := ⟨h, hWe⟩
  clear h hWe
  go_enter Tryz.func288, Tryz.ntmps288
  go_wp2_with fail
  have hP0 : PK w (((w.alloc (.cells #[.bool false, .slice none 0 0] 26)).alloc (.cells (ca .u32 (zeros N)) 88)).alloc (.cells (ca .u32 (zeros N)) 88)) (w.heap.size + 1) (w.heap.size + 1 + 1) W n 0 zs (zeros N) (zeros N) := by
    refine ⟨?_, ?_, by rw [length_zeros]; exact HN.out, by rw [length_zeros]; exact HN.out, u32_zeros _, u32_zeros _, fun j _ => gx_zeros _ _, fun j _ => gx_zeros _ _, by rw [pkf]; omega, by omega, by omega, by omega, ((Bx.new _ _ _ rfl).alloc _).alloc _, bel_al (bel_al (bel_al (Below.refl _ _)))⟩
    · exact (Row.new1 w _ 88 .u32 (zeros N)).alloc _
    · exact Row.new2 w _ _ 88 .u32 (zeros N)
  have HP0 := (show Hid _ from hP0)
  generalize ((w.alloc (.cells #[.bool false, .slice none 0 0] 26)).alloc (.cells (ca .u32 (zeros N)) 88)).alloc (.cells (ca .u32 (zeros N)) 88) = W0 at *
  obtain ⟨ga, hga⟩ : ∃ ga, ga = w.heap.size + 1 := ⟨_, rfl⟩
  obtain ⟨gb, hgb⟩ : ∃ gb, gb = w.heap.size + 1 + 1 := ⟨_, rfl⟩
  rw [← hgb, ← hga] at HP0 ⊢
  clear hP0 hmk hga hgb
  go_loopw [7, 8, 9, 22] (fun _ _ _ kv wr => ∃ (k : Nat) (A Bl : List Int), k ≤ n ∧ kv = .int .i64 k ∧ Hid (PK w wr ga gb W n k zs A Bl)) (fun _ _ _ kv _ => n - (intOf kv).toNat)
  case atStart => exact ⟨0, zeros N, zeros N, Nat.zero_le _, by go_num, HP0.out⟩
  case round =>
    clear HP0
    obtain ⟨k, A, Bl, hk, rfl, H⟩ := hrel
    rcases Nat.lt_or_ge k n with hlt | hge
    · have hV := H.out
      have hPB := HX.out.1.below hV.bw
      obtain ⟨b, o, hp, hc⟩ := hPB.pl (by rw [hPB.el]; omega)
      subst hp
      obtain ⟨c0, c1⟩ := hc k (by rw [hPB.el]; omega)
      have hen := hPB.ev k hlt
      obtain ⟨z1, z2⟩ := hen.zl
      have hzw : (ge es k).n ≤ W := by rw [z1]; exact HX.out.2 k hlt
      obtain ⟨xs, r1, r2, r3, r4⟩ := en_parts hen
      obtain ⟨off, hoff⟩ : ∃ off, off = W * k := ⟨_, rfl⟩
      have hof1 : off + W ≤ N := by
        rw [hoff, HN.out]
        have : W * (k + 1) ≤ W * n := Nat.mul_le_mul_left _ hlt
        rw [Nat.mul_add, Nat.mul_one] at this
        exact this
      have e2 : (k : Int) * (W : Int) = (off : Int) := by rw [hoff, Int.mul_comm]; push_cast; rfl
      have HOF : Hid (off = W * k) := hoff
      have e3 : (off : Int) ≤ (N : Int) := by omega
      have e4 : IntKind.i64.wrap (off : Int) = (off : Int) := by rw [IntKind.wrap_i64]; omega
      have hlb : b < w.heap.size := by
        obtain ⟨b', o', hb', hl'⟩ := HX.out.1.pl.lt (by rw [HX.out.1.el]; omega)
        cases hb'
        exact hl'
      clear hc hPB hen z1 z2 hV hoff
      rcases r4 with ⟨hs, hv⟩ | ⟨hs, hv⟩
      · rw [hs] at c0
        clear hs
        have HV : Hid (val xs = gx zs k ∧ Rd wr (ge es k).p .u32 xs ∧ xs.length = (ge es k).n ∧ U32 xs) := ⟨hv, r1, r2, r3⟩
        clear hv r1 r2 r3
        go_upto_region 9 with fail
        have hal := bel_al (o := .cells #[.bool false, .slice (ge es k).p (ge es k).n (ge es k).c] 26) (Below.refl wr.heap.size wr)
        have hX1 : Bx (wr.alloc (.cells #[.bool false, .slice (ge es k).p (ge es k).n (ge es k).c] 26)) wr.heap.size (.bool false) (.slice (ge es k).p (ge es k).n (ge es k).c) := Bx.new _ _ _ rfl
        generalize wr.alloc (.cells #[.bool false, .slice (ge es k).p (ge es k).n (ge es k).c] 26) = W1 at *
        obtain ⟨q0, q1, -, -⟩ := hX1
        have hrow : Row W1.drew ga 88 .u32 A := (H.out.ra.below hal H.out.ra.lt).drew
        have hrd : Rd W1.drew (ge es k).p .u32 xs := (HV.out.2.1.below hal).drew
        have hlx := HV.out.2.2.1
        have hfit : off + (ge es k).n ≤ A.length := by rw [H.out.la, ← HN.out]; omega
        have hm : (ge es k).n ≤ N - off := by omega
        have HB1 : Hid (Below wr.heap.size wr W1.drew) := hal.drew
        have hne : ¬ N = off := by omega
        have hnei : ¬ (N : Int) = (off : Int) := by omega
        clear c0 c1 hal
        go_region_law (refine step_copy_g rfl (.tmp 35) (.tmp 37) rfl ga off (N - off) (N - off) (ge es k).p (ge es k).n (ge es k).c (by simp [Act.eval, Act.put]) (by simp [Act.eval, Act.put]) A xs hrow hrd hlx hm hfit ?_; intro w5 hr5 hg5)
        all_goals
          have hnx : ∃ A' B', PK w w5 ga gb W n (k + 1) zs A' B' := ⟨_, _, H.out.above HB1.out HV.out.2.2.2 HV.out.1 (by rw [hlx]; exact hzw) hlt (by rw [← HOF.out]; exact hr5) hg5⟩
          have HNX := (show Hid _ from hnx)
          clear hnx hr5 hg5 hrow hrd q0 q1
          go_wp2
          obtain ⟨A', B', hnx⟩ := HNX.out
          exact ⟨⟨k + 1, A', B', by omega, by go_num, hnx⟩, by simp [intOf]; omega⟩
      · rw [hs] at c0
        clear hs
        have HV : Hid (val xs = -gx zs k ∧ Rd wr (ge es k).p .u32 xs ∧ xs.length = (ge es k).n ∧ U32 xs) := ⟨hv, r1, r2, r3⟩
        clear hv r1 r2 r3
        go_upto_region 9 with fail
        have hal := bel_al (o := .cells #[.bool true, .slice (ge es k).p (ge es k).n (ge es k).c] 26) (Below.refl wr.heap.size wr)
        have hX1 : Bx (wr.alloc (.cells #[.bool true, .slice (ge es k).p (ge es k).n (ge es k).c] 26)) wr.heap.size (.bool true) (.slice (ge es k).p (ge es k).n (ge es k).c) := Bx.new _ _ _ rfl
        generalize wr.alloc (.cells #[.bool true, .slice (ge es k).p (ge es k).n (ge es k).c] 26) = W1 at *
        obtain ⟨q0, q1, -, -⟩ := hX1
        have hrow : Row W1.drew gb 88 .u32 Bl := (H.out.rb.below hal H.out.rb.lt).drew
        have hrd : Rd W1.drew (ge es k).p .u32 xs := (HV.out.2.1.below hal).drew
        have hlx := HV.out.2.2.1
        have hfit : off + (ge es k).n ≤ Bl.length := by rw [H.out.lb, ← HN.out]; omega
        have hm : (ge es k).n ≤ N - off := by omega
        have HB1 : Hid (Below wr.heap.size wr W1.drew) := hal.drew
        have hne : ¬ N = off := by omega
        have hnei : ¬ (N : Int) = (off : Int) := by omega
        clear c0 c1 hal
        go_region_law (refine step_copy_g rfl (.tmp 35) (.tmp 37) rfl gb off (N - off) (N - off) (ge es k).p (ge es k).n (ge es k).c (by simp [Act.eval, Act.put]) (by simp [Act.eval, Act.put]) Bl xs hrow hrd hlx hm hfit ?_; intro w5 hr5 hg5)
        all_goals
          have hnx : ∃ A' B', PK w w5 ga gb W n (k + 1) zs A' B' := ⟨_, _, H.out.under HB1.out HV.out.2.2.2 HV.out.1 (by rw [hlx]; exact hzw) hlt (by rw [← HOF.out]; exact hr5) hg5⟩
          have HNX := (show Hid _ from hnx)
          clear hnx hr5 hg5 hrow hrd q0 q1
          go_wp2
          obtain ⟨A', B', hnx⟩ := HNX.out
          exact ⟨⟨k + 1, A', B', by omega, by go_num, hnx⟩, by simp [intOf]; omega⟩
    · obtain rfl : k = n := by omega
      have hV := H.out
      have hai : AI wr (some ⟨ga, 0, none⟩) N N A := ⟨by rw [hV.la, HN.out], Nat.le_refl _, by unfold maxLen; omega, by omega, hV.ra.rd_all, hV.ua⟩
      have hbi : AI wr (some ⟨gb, 0, none⟩) N N Bl := ⟨by rw [hV.lb, HN.out], Nat.le_refl _, by unfold maxLen; omega, by omega, hV.rb.rd_all, hV.ub⟩
      have hsb := Sub_ev (e := ⟨false, some ⟨ga, 0, none⟩, N, N⟩) (f := ⟨false, some ⟨gb, 0, none⟩, N, N⟩) (K := N) (L := N) ⟨A, hai, rfl, Nat.le_refl _⟩ ⟨Bl, hbi, rfl, Nat.le_refl _⟩
      have ev : ival false A - ival false Bl = pkf W (gx zs) k := by simp only [ival]; exact hV.v
      rw [ev] at hsb
      have hrx := hV.rx
      have HB : Hid (Below w.heap.size w wr) := hV.bw
      have sR : w.heap.size < wr.heap.size := block_lt_of_cell hrx.c0
      clear H hV hai hbi ev hge
      go_wp2_with fail
      refine hsb.mono ?_
      rintro r w5 ⟨u, rfl, hN5, hb5⟩
      obtain ⟨r0, r1, f0, f1⟩ := hrx.later hb5
      have HN5 : Hid (NV wr.heap.size w5 (N + N + 1) (pkf W (gx zs) k) u) := hN5
      clear hsb hN5 hrx
      go_wp2
      refine bodyPost_ret (v := .agg #[.bool u.s, .slice u.p u.n u.c]) (by simp [results, Tryz.results288, go_sem, r0, r1]) rfl ⟨u, rfl, ?_, ?_⟩
      · exact (HN5.out.set2 (g := w.heap.size) (o := 0) sR _ _).mono (Nat.le_of_lt sR)
      · exact bset2 (bnext' HB.out hb5) (Nat.le_refl _) _ _
theorem pkf_half {W : Nat} {f : Nat → Int} (n : Nat) : (∀ j, j < n → 2 * ((f j).natAbs : Int) < pw W) → 2 * ((pkf W f n).natAbs : Int) < pw (W * n) := by
  induction n with
  | zero => intro _; simp [pkf, pw_zero]
  | succ n ih =>
    intro h
    have h1 := ih fun j hj => h j (by omega)
    have h2 := h n (by omega)
    have hp := pw_pos (W * n)
    have e : pw (W * (n + 1)) = pw (W * n) * pw W := by rw [Nat.mul_add, Nat.mul_one, pw_add]
    rw [pkf, e]
    have h3 : ((f n * pw (W * n)).natAbs : Int) = ((f n).natAbs : Int) * pw (W * n) := by
      rw [Int.natAbs_mul, Int.natCast_mul, Int.natAbs_of_nonneg (show 0 ≤ pw (W * n) by omega)]
    have h4 : 2 * ((f n).natAbs : Int) * pw (W * n) ≤ (pw W - 1) * pw (W * n) := Int.mul_le_mul_of_nonneg_right (by omega) (by omega)
    have h5 : (pw W - 1) * pw (W * n) = pw (W * n) * pw W - pw (W * n) := by grind
    have h6 : ((pkf W f n + f n * pw (W * n)).natAbs : Int) ≤ ((pkf W f n).natAbs : Int) + ((f n * pw (W * n)).natAbs : Int) := by omega
    have h7 : 2 * (((f n).natAbs : Int) * pw (W * n)) = 2 * ((f n).natAbs : Int) * pw (W * n) := by grind
    omega
theorem pkf_low {W : Nat} {f : Nat → Int} (n : Nat) (h : ∀ j, j < n → 2 * ((f j).natAbs : Int) < pw W) (h0 : f n ≠ 0) : pw (W * n) < 2 * ((pkf W f (n + 1)).natAbs : Int) := by
  have h1 := pkf_half n h
  have hp := pw_pos (W * n)
  rw [pkf]
  have h3 : ((f n * pw (W * n)).natAbs : Int) = ((f n).natAbs : Int) * pw (W * n) := by
    rw [Int.natAbs_mul, Int.natCast_mul, Int.natAbs_of_nonneg (show 0 ≤ pw (W * n) by omega)]
  have h4 : 1 * pw (W * n) ≤ ((f n).natAbs : Int) * pw (W * n) := Int.mul_le_mul_of_nonneg_right (by omega) (by omega)
  omega
theorem pkf_bits {W : Nat} {f : Nat → Int} (n : Nat) (hW : 1 ≤ W) (h : ∀ j, j < n + 1 → 2 * ((f j).natAbs : Int) < pw W) (h0 : f n ≠ 0) : zb (pkf W f (n + 1)) / (32 * W) = n := by
  have h1 := pkf_half (n + 1) h
  have h2 := pkf_low n (fun j hj => h j (by omega)) h0
  generalize pkf W f (n + 1) = z at *
  obtain ⟨a, b, d⟩ := zb_ib z
  rw [pw_twoP] at h1 h2
  have e1 : 32 * (W * (n + 1)) = 32 * W * n + 32 * W := by grind
  have e2 : 32 * (W * n) = 32 * W * n := by grind
  rw [e1] at h1
  rw [e2] at h2
  have hlo : 32 * W * n ≤ zb z := by
    rcases Nat.lt_or_ge (zb z) (32 * W * n) with h3 | h3
    · have h4 := p2_mono (show zb z + 1 ≤ 32 * W * n by omega)
      rw [Int.pow_succ] at h4
      omega
    · exact h3
  have hhi : zb z < 32 * W * n + 32 * W := by
    rcases Nat.lt_or_ge (zb z) (32 * W * n + 32 * W) with h3 | h3
    · exact h3
    · rcases d with d | d
      · omega
      · have h4 := p2_mono (show 32 * W * n + 32 * W ≤ zb z - 1 + 1 by omega)
        rw [Int.pow_succ] at h4
        omega
  rw [Nat.div_eq_iff (by omega)]
  constructor
  · rw [Nat.mul_comm]; exact hlo
  · have : n * (32 * W) = 32 * W * n := Nat.mul_comm _ _
    omega
end Go.Proofs.YtejnhpjejcpekaaGreatDoor
