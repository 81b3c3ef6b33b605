/-
  ore.raise.
-/
import Derived.Test.YtejnhpjejcpekaaGreatDoorFyUjBsLeUk
import Derived.Test.YtejnhpjejcpekaaGreatDoorFpCdDeGaGbKpGcGdGeQaQbQcQdQgQhGfGgUnWfUu
import Derived.Test.YtejnhpjejcpekaaGreatDoorUlDdReRxRf
import Derived.Deep.DeepFit
import Derived.Test.YtejnhpjejcpekaaGreatDoorWlBxBbCvNjUbUcUdOwRaWmBeRd
import Derived.Test.YtejnhpjejcpekaaGreatDoorLnWrIbWg
import Derived.Shelf.SlicesE.Clone
import Derived.Ground.SlgnProg
import Derived.Test.YtejnhpjejcpekaaGreatDoorCyViVuWxUpUqRmRpDkDlDbRiRjRgRkVqDcUmUoDmDvPmHuVsVtVy
import Derived.Deep.CutRange
import Derived.Deep.RegionHeld3
import Derived.StillTailTactics
import Derived.Test.YtejnhpjejcpekaaGreatDoorUaWhPnWk
import Derived.Test.YtejnhpjejcpekaaGreatDoorUeUfUgHdNb
import Derived.Test.YtejnhpjejcpekaaGreatDoorUiWiWj
namespace Go.Proofs.YtejnhpjejcpekaaGreatDoor
open Go.RowKit
set_option maxHeartbeats 8000000
open Go.Shelf
set_option linter.unusedVariables false
set_option linter.unusedSimpArgs false
theorem pow_bd {z : Int} {L : Nat} (h : (z.natAbs : Int) < pw L) : ∀ j, ((z ^ j).natAbs : Int) ≤ pw (L * j)
  | 0 => by simp [pw]
  | j + 1 => by
    rw [Int.pow_succ, Int.natAbs_mul, Int.natCast_mul, Nat.mul_succ, pw_add]
    exact Int.mul_le_mul (pow_bd h j) (by omega) (by omega) (Int.le_of_lt (pw_pos _))
theorem pow_bd1 {z : Int} {L : Nat} (h : (z.natAbs : Int) < pw L) (j : Nat) : ((z ^ j).natAbs : Int) < pw (L * j + 1) := by
  have h1 := pow_bd h j
  have h2 : pw (L * j + 1) = 4294967296 * pw (L * j) := pw_succ _
  have h3 := pw_pos (L * j)
  omega
theorem len16 : ∀ n, n < 17 → n / 2 ^ Lib.bitLen n = 0 ∧ Lib.bitLen n ≤ 5 := by decide
set_option maxRecDepth 100000 in
theorem raise_any {w : World} {L n : Nat} {z : Int} {e : Ent} (h : EV w L z e) (hL : L ≤ 4) (hn : n ≤ 16) :
    Calls Tryz.prog 211 #[.agg #[.bool e.s, .slice e.p e.n e.c], .int .i64 n] w fun r w' => ∃ f : Ent, r = .returned (.agg #[.bool f.s, .slice f.p f.n f.c]) ∧ NV w.heap.size w' (L * n + 1) (z ^ n) f ∧ Below w.heap.size w w' := by
  have hW : Below w.heap.size w ((w.alloc (.cells #[.bool e.s, .slice e.p e.n e.c] 26)).alloc (.cells #[.bool false, .slice none 0 0] 26)) := ((Below.refl _ _).alloc (Nat.le_refl _) _).alloc (by simp) _
  have hA : Bx ((w.alloc (.cells #[.bool e.s, .slice e.p e.n e.c] 26)).alloc (.cells #[.bool false, .slice none 0 0] 26)) w.heap.size (.bool e.s) (.slice e.p e.n e.c) := Bx.alloc (Bx.new _ _ _ rfl) _
  have hR : Bx ((w.alloc (.cells #[.bool e.s, .slice e.p e.n e.c] 26)).alloc (.cells #[.bool false, .slice none 0 0] 26)) (w.heap.size + 1) (.bool false) (.slice none 0 0) := Bx.new _ _ _ (by simp)
  have hE := h.below hW
  clear h
  go_enter Tryz.func211, Tryz.ntmps211
  go_wp2_with fail
  generalize (w.alloc (.cells #[.bool e.s, .slice e.p e.n e.c] 26)).alloc (.cells #[.bool false, .slice none 0 0] 26) = W at *
  go_fit (Of_e 1 W (by decide) (by decide))
  rintro r w1 ⟨u, rfl, hN1, hb1⟩
  have hlen := Len_any (n : Int)
  have hO := Bx.new (w := w1) (.bool u.s) (.slice u.p u.n u.c) 26 rfl
  have hal := bel_al (o := .cells #[.bool u.s, .slice u.p u.n u.c] 26) (Below.refl w1.heap.size w1)
  have sW1 := hb1.size
  go_wp2_with fail
  go_fit (hlen _ (by omega) (by omega))
  rintro r w2 ⟨rfl, hw⟩
  subst w2
  clear hlen
  generalize w1.alloc (.cells #[.bool u.s, .slice u.p u.n u.c] 26) = W1 at *
  obtain ⟨hB0, hB5⟩ := len16 n (by omega)
  have hzb := hE.bd
  have HI : Hid (Below W.heap.size W W1 ∧ NV W.heap.size W1 1 1 u) := ⟨bnext' hb1 hal, (hN1.fit (by decide)).below hal⟩
  have HW : Hid (Below w.heap.size w W ∧ Bx W w.heap.size (.bool e.s) (.slice e.p e.n e.c) ∧ Bx W (w.heap.size + 1) (.bool false) (.slice none 0 0) ∧ EV W L z e ∧ W.heap.size ≤ w1.heap.size) := ⟨hW, hA, hR, hE, sW1⟩
  have HO : Hid (Bx W1 w1.heap.size (.bool u.s) (.slice u.p u.n u.c)) := hO
  clear hN1 hb1 hal hW hA hR hE sW1 hO
  generalize hb : Lib.bitLen n = b at *
  generalize w1.heap.size = g at *
  have w0 : wrap64 ((b : Int) - 1) = (b : Int) - 1 := by unfold wrap64; omega
  go_wp2_with fail
  go_loopw [6] (fun iv wr => ∃ k : Nat, k ≤ b ∧ iv = .int .i64 ((k : Int) - 1) ∧ Hid (Below W.heap.size W wr ∧ ∃ f, Bx wr g (.bool f.s) (.slice f.p f.n f.c) ∧ NV W.heap.size wr (L * (n / 2 ^ k) + 1) (z ^ (n / 2 ^ k)) f)) (fun iv _ => (intOf iv + 1).toNat)
  case atStart => exact ⟨b, Nat.le_refl _, by go_num, HI.out.1, u, HO.out, by rw [hB0, Int.pow_zero, Nat.mul_zero]; exact HI.out.2⟩
  case round =>
    obtain ⟨k, hk, rfl, G⟩ := hrel
    obtain ⟨gB, f, gX, gN⟩ := G.out
    obtain ⟨hW, hA, hR, hE, hg⟩ := HW.out
    have sR : w.heap.size + 1 < W.heap.size := block_lt_of_cell hR.c0
    rcases Nat.eq_zero_or_pos k with h0 | h0
    · subst h0
      rw [Nat.pow_zero, Nat.div_one] at gN
      obtain ⟨c0, c1, -, -⟩ := gX
      obtain ⟨r0, r1, f0, f1⟩ := hR.later gB
      have HF : Hid (NV W.heap.size wr (L * n + 1) (z ^ n) f ∧ Below w.heap.size w wr ∧ w.heap.size ≤ W.heap.size) := ⟨gN, bnext' hW gB, hW.size⟩
      clear gN gB hW hA hR hE G
      go_wp2
      refine bodyPost_ret (v := .agg #[.bool f.s, .slice f.p f.n f.c]) (by simp [results, Tryz.results211, go_sem, r0, r1]) rfl ⟨f, rfl, ?_, ?_⟩
      · exact (HF.out.1.set2 (g := w.heap.size + 1) (o := 0) sR _ _).mono HF.out.2.2
      · exact bset2 HF.out.2.1 (by omega) _ _
    · obtain ⟨t, rfl⟩ : ∃ t, k = t + 1 := ⟨k - 1, by omega⟩
      have hq : n / 2 ^ (t + 1) ≤ 16 := Nat.le_trans (Nat.div_le_self _ _) hn
      have hKK : L * (n / 2 ^ (t + 1)) + 1 ≤ 65 := by have := Nat.mul_le_mul hL hq; omega
      have hm1 := Mul_ev (gN.ev (by omega)) (gN.ev (by omega)) (by omega)
      have hbit := bit_of n t (by omega)
      have H2 : Hid (n / 2 ^ t = 2 * (n / 2 ^ (t + 1)) + n / 2 ^ t % 2) := bit_step n t
      obtain ⟨c0, c1, f0, f1⟩ := id gX
      have j1 : (0 : Int) ≤ (t : Int) + 1 - 1 := by omega
      have j2 : ¬ ((t : Int) + 1 - 1 < 0) := by omega
      have v2 : (t : Int) + 1 - 1 = (t : Int) := by omega
      have v3 : wrap64 ((t : Int) - 1) = (t : Int) - 1 := by unfold wrap64; omega
      have HG : Hid (Bx wr g (.bool f.s) (.slice f.p f.n f.c) ∧ Below W.heap.size W wr) := ⟨gX, gB⟩
      clear gN gX
      generalize hy : n / 2 ^ (t + 1) = y at *
      clear hy
      go_wp2_with fail
      go_fit hm1
      rintro r v1 ⟨u1, rfl, hN1, hb1⟩
      have gX1 := HG.out.1.later hb1
      have sg : g < v1.heap.size := block_lt_of_cell gX1.c0
      have sgw : g < wr.heap.size := block_lt_of_cell HG.out.1.c0
      obtain ⟨d0, d1, e0, e1⟩ := id gX1
      have hS : Hid (Bx ((v1.setCell ⟨g, 0, none⟩ (.bool u1.s)).setCell ⟨g, 1, none⟩ (.slice u1.p u1.n u1.c)) g (.bool u1.s) (.slice u1.p u1.n u1.c) ∧ Below W.heap.size W ((v1.setCell ⟨g, 0, none⟩ (.bool u1.s)).setCell ⟨g, 1, none⟩ (.slice u1.p u1.n u1.c)) ∧ NV W.heap.size ((v1.setCell ⟨g, 0, none⟩ (.bool u1.s)).setCell ⟨g, 1, none⟩ (.slice u1.p u1.n u1.c)) (L * (2 * y) + 1) (z ^ (2 * y)) u1) := by
        refine ⟨Bx_set gX1, bset2 (bnext' HG.out.2 hb1) hg _ _, ?_⟩
        have h3 := (hN1.set2 (g := g) (o := 0) sgw (.bool u1.s) (.slice u1.p u1.n u1.c)).mono HG.out.2.size
        have e3 : z ^ y * z ^ y = z ^ (2 * y) := by rw [← Int.pow_add, Nat.two_mul]
        rw [e3] at h3
        exact h3.fit (pow_bd1 hzb _)
      clear hN1 hb1 gX1 hm1 c0 c1 f0 f1
      rcases Nat.mod_two_eq_zero_or_one (n / 2 ^ t) with hb2 | hb2
      · rw [hb2] at hbit
        have hq2 : (bits BinOp.and IntKind.i64 ((n : Int) / 2 ^ t) 1 == 1) = false := by rw [hbit]; rfl
        have H3 : Hid (n / 2 ^ t = 2 * y) := by have := H2.out; show _ = _; omega
        clear hbit hb2 H2
        go_wp2_with fail
        exact ⟨⟨t, by omega, rfl, hS.out.2.1, u1, hS.out.1, by rw [H3.out]; exact hS.out.2.2⟩, by simp [intOf]⟩
      · rw [hb2] at hbit
        have hq2 : (bits BinOp.and IntKind.i64 ((n : Int) / 2 ^ t) 1 == 1) = true := by rw [hbit]; rfl
        have H3 : Hid (n / 2 ^ t = 2 * y + 1) := by have := H2.out; show _ = _; omega
        have hq3 : 2 * y + 1 ≤ 16 := by rw [← H3.out]; exact Nat.le_trans (Nat.div_le_self _ _) hn
        have hK3 : L * (2 * y) + 1 ≤ 65 := by have := Nat.mul_le_mul hL (show 2 * y ≤ 16 by omega); omega
        obtain ⟨sX, sB, sN⟩ := hS.out
        obtain ⟨x0, x1, x2, x3⟩ := id sX
        obtain ⟨a0, a1, -, -⟩ := hA.later sB
        have hm2 := Mul_ev (sN.ev (by omega)) (hE.below sB) (by omega)
        have HS : Hid (Bx ((v1.setCell ⟨g, 0, none⟩ (.bool u1.s)).setCell ⟨g, 1, none⟩ (.slice u1.p u1.n u1.c)) g (.bool u1.s) (.slice u1.p u1.n u1.c) ∧ Below W.heap.size W ((v1.setCell ⟨g, 0, none⟩ (.bool u1.s)).setCell ⟨g, 1, none⟩ (.slice u1.p u1.n u1.c))) := ⟨sX, sB⟩
        clear hbit hb2 H2 sN sX sB hS
        go_wp2_with fail
        generalize (v1.setCell ⟨g, 0, none⟩ (.bool u1.s)).setCell ⟨g, 1, none⟩ (.slice u1.p u1.n u1.c) = S1 at *
        go_fit hm2
        rintro r v2' ⟨u2, rfl, hN2, hb2⟩
        have gX2 := HS.out.1.later hb2
        have sg2 : g < S1.heap.size := block_lt_of_cell HS.out.1.c0
        obtain ⟨y0, y1, y2, y3⟩ := id gX2
        have hS : Hid (Bx ((v2'.setCell ⟨g, 0, none⟩ (.bool u2.s)).setCell ⟨g, 1, none⟩ (.slice u2.p u2.n u2.c)) g (.bool u2.s) (.slice u2.p u2.n u2.c) ∧ Below W.heap.size W ((v2'.setCell ⟨g, 0, none⟩ (.bool u2.s)).setCell ⟨g, 1, none⟩ (.slice u2.p u2.n u2.c)) ∧ NV W.heap.size ((v2'.setCell ⟨g, 0, none⟩ (.bool u2.s)).setCell ⟨g, 1, none⟩ (.slice u2.p u2.n u2.c)) (L * (2 * y + 1) + 1) (z ^ (2 * y + 1)) u2) := by
          refine ⟨Bx_set gX2, bset2 (bnext' HS.out.2 hb2) hg _ _, ?_⟩
          have h3 := (hN2.set2 (g := g) (o := 0) sg2 (.bool u2.s) (.slice u2.p u2.n u2.c)).mono HS.out.2.size
          rw [← Int.pow_succ] at h3
          exact h3.fit (pow_bd1 hzb _)
        clear hN2 hb2 gX2 hm2 x0 x1 x2 x3 a0 a1 HS
        go_wp2_with fail
        exact ⟨⟨t, by omega, rfl, hS.out.2.1, u2, hS.out.1, by rw [H3.out]; exact hS.out.2.2⟩, by simp [intOf]⟩
theorem Sub_ev {w : World} {K L : Nat} {x y : Int} {e f : Ent} (h : EV w K x e) (k : EV w L y f) : Calls Tryz.prog 114 #[.agg #[.bool e.s, .slice e.p e.n e.c], .agg #[.bool f.s, .slice f.p f.n f.c]] w fun r w' => ∃ u : Ent, r = .returned (.agg #[.bool u.s, .slice u.p u.n u.c]) ∧ NV w.heap.size w' (K + L + 1) (x - y) u ∧ Below w.heap.size w w' := by
  obtain ⟨xs, h1, rfl, h3⟩ := h
  obtain ⟨ys, k1, rfl, k3⟩ := k
  refine (Sub_any e.s f.s e.p f.p e.n e.c f.n f.c xs ys w h1 k1).mono ?_
  rintro r w' ⟨s', p', n', zs, g1, g2, g3, g4⟩
  exact ⟨⟨s', p', n', n'⟩, g1, ⟨zs, g2, rfl, by show n' ≤ _; omega⟩, g4⟩
section
variable {w w' : World} {g : Nat} {t : TypeId} {es : List Ent}
end
shelf_lay_g SlLaysE0.n41 Slgn 41 at Tryz 274 as Tryz.clonePoly
theorem Neg_ev {w : World} {K : Nat} {x : Int} {e : Ent} (h : EV w K x e) : Calls Tryz.prog 234 #[.agg #[.bool e.s, .slice e.p e.n e.c]] w fun r w' => ∃ u : Ent, r = .returned (.agg #[.bool u.s, .slice u.p u.n u.c]) ∧ NV w.heap.size w' K (-x) u ∧ Below w.heap.size w w' := by
  obtain ⟨xs, h1, rfl, h3⟩ := h
  refine (Neg_any e.s e.p e.n e.c xs w h1).mono ?_
  rintro r w' ⟨s', p', n', zs, g1, g2, g3, g4⟩
  have e1 : ival (!e.s) xs = -ival e.s xs := by cases e.s <;> simp [ival]
  rw [e1] at g2
  exact ⟨⟨s', p', n', n'⟩, g1, ⟨zs, g2, rfl, by show n' ≤ _; omega⟩, g4⟩
theorem pb_le {w : World} {K : Nat} {p : Option Addr} {n nc : Nat} {es : List Ent} {zs : List Int} (h : PA w K p n nc es zs) (hn : n ≤ 1000000) : pb zs ≤ 32 * K := by
  have := pb_le_of zs (32 * K) (fun j hj => zb_le (h.ev j (by rw [← h.zl]; exact hj))) zs.length (Nat.le_refl _)
  rwa [List.take_length] at this
theorem NV_st3 {B F : Nat} {w : World} {K : Nat} {z : Int} {e : Ent} {a : Addr} {v : Value} (hF : Go.Proofs.YtejnhpjejcpekaaGreatDoor.From F e.p) (ha : a.block < F) (h : NV B w K z e) : NV B (w.setCell a v) K z e := by
  obtain ⟨xs, h1, h2⟩ := h
  exact ⟨xs, NI_st3 hF ha h1, h2⟩
theorem NV.ltb {B : Nat} {w : World} {K : Nat} {z : Int} {e : Ent} (h : NV B w K z e) : ∀ x, e.p = some x → x.block < w.heap.size := by
  obtain ⟨xs, h1, -⟩ := h
  exact h1.lt
theorem NV.frm {B : Nat} {w : World} {K : Nat} {z : Int} {e : Ent} (h : NV B w K z e) : Go.Proofs.YtejnhpjejcpekaaGreatDoor.From B e.p := by
  obtain ⟨xs, h1, -⟩ := h
  exact h1.fr
theorem unNV {w v : World} {K : Nat} {z : Int} {e : Ent} (h : NV w.drew.heap.size v K z e) : NV w.heap.size v K z e := h
open Go.RowKit Go.Shelf
attribute [local go_sem] Oper.semAt_some
def CutPost (s : Bool) (xs : List Int) (w : World) (e : Ending) (w' : World) : Prop :=
  ∃ p' n' nc', e = .returned (.agg #[.bool s, .slice p' n' nc']) ∧ AI w' p' n' nc' (xs.take 24) ∧ n' ≤ 24 ∧ From w.heap.size p' ∧ Below w.heap.size w w'
set_option maxRecDepth 100000 in
theorem Cut_some (s : Bool) (b off n nc k : Nat) (xs : List Int) (w : World) (hl : xs.length = n) (hnc : n ≤ nc) (hb : nc ≤ maxLen) (hX : Rd w (some ⟨b, off, none⟩) .u32 xs) (hU : U32 xs) (hk : k = min n 24) (hk0 : 0 < k) :
    Calls Tryz.prog 43 #[.agg #[.bool s, .slice (some ⟨b, off, none⟩) n nc]] w (CutPost s xs w) := by
  have hb' := hb
  unfold maxLen at hb'
  obtain ⟨i0, hi, hzz⟩ := Option.map_eq_some_iff.1 info_u32
  simp only [Prod.mk.injEq] at hzz
  obtain ⟨hz0, hz1, hz2⟩ := hzz
  have HI : Hid (Tryz.prog.info? 88 = some i0 ∧ i0.zero = some (.int .u32 0) ∧ i0.size = 1 ∧ i0.bytes = 4) := ⟨hi, hz0, hz1, hz2⟩
  clear hi hz0 hz1 hz2
  have HX : Hid (k = min n 24) := hk
  clear hk
  by_cases hn : 24 < n
  · have hn' : 24 < (n : Int) := by omega
    have h24 : (24 : Int) ≤ (nc : Int) := by omega
    have h24n : 24 ≤ nc := by omega
    have h24m : (24 : Int) ≤ (n : Int) := by omega
    obtain rfl : k = 24 := by have := HX.out; omega
    go_enter Tryz.func43, Tryz.ntmps43
    go_wp2
    have hb1 : Bx ((w.alloc (.cells #[.bool s, .slice (some ⟨b, off, none⟩) n nc] 26)).alloc (.cells #[.bool false, .slice none 0 0] 26)) w.heap.size (.bool s) (.slice (some ⟨b, off, none⟩) n nc) := (Bx.new _ _ _ rfl).alloc _
    have hb2 : Bx ((w.alloc (.cells #[.bool s, .slice (some ⟨b, off, none⟩) n nc] 26)).alloc (.cells #[.bool false, .slice none 0 0] 26)) (w.heap.size + 1) (.bool false) (.slice none 0 0) := Bx.new _ _ _ (World.size_alloc ..).symm
    have hbw : Below w.heap.size w ((w.alloc (.cells #[.bool s, .slice (some ⟨b, off, none⟩) n nc] 26)).alloc (.cells #[.bool false, .slice none 0 0] 26)) := ((Below.refl _ _).alloc (Nat.le_refl _) _).alloc (by simp) _
    have hsz : ((w.alloc (.cells #[.bool s, .slice (some ⟨b, off, none⟩) n nc] 26)).alloc (.cells #[.bool false, .slice none 0 0] 26)).heap.size = w.heap.size + 1 + 1 := by simp
    generalize ((w.alloc (.cells #[.bool s, .slice (some ⟨b, off, none⟩) n nc] 26)).alloc (.cells #[.bool false, .slice none 0 0] 26)) = W at *
    have HS : Hid (W.heap.size = w.heap.size + 1 + 1) := hsz
    clear hsz
    have k0 := hb1.c0
    have k1 := hb1.c1
    obtain ⟨hi, hz0, hz1, hz2⟩ := HI.out
    have hsrc : ∀ j v, ((xs.take 24).map (Value.int .u32))[j]? = some v → W.drew.cell? ((⟨b, off, none⟩ : Addr).add j) = some v := by
      obtain ⟨b', off', hp, hc⟩ := ((hX.below hbw).take 24).drew (by simp; omega)
      cases hp
      exact Rd.src hc
    go_region_held3 (fun w' => w'.cell? ⟨w.heap.size, 0, none⟩ = some (.bool s) ∧ w'.cell? ⟨w.heap.size, 1, none⟩ = some (.slice (some ⟨b, off, none⟩) n nc)) (first | (simp [go_sem, *]; done) | exact keepc2 (by assumption) (by assumption))
      (first
        | (refine step_append_lies _ rfl _ _ 24 rfl w.heap.size 88 i0 (.int .u32 0) 1 4 Tryz.underlying24 hi hz0 hz1 hz2 rfl (by decide) (.slice none 0 0) 0 [] rfl (World.ownsRow_nil _ _ _ _) ⟨b, off, none⟩ 24 nc ((xs.take 24).map (Value.int .u32)) rfl (by simp; omega) ?_ (oneCell_ca _ _) (by decide) (by unfold maxLen; decide) (by decide) hbw.size _ rfl ?_; exact hsrc; intro g cap w3 hown3 hgrow3 hat3 hlt3; have hb3 := below_of_grown (w := W.drew) hgrow3; obtain ⟨c0, c1, f0, f1⟩ := resbox (undrew hb3) hb2.c0 hb2.c1 hb2.f0 hb2.f1))
    go_wp2
    obtain rfl : g = W.heap.size := by rcases hat3 with h | h; cases h; exact h
    have hr3 : Rd w3 (some ⟨W.heap.size, 0, none⟩) .u32 (xs.take 24) := rd_owns (by simpa using hown3)
    have hs3 := HS.out
    have hcp : 24 ≤ cap ∧ cap ≤ maxLen := by
      rcases hown3.2 with ⟨h, _⟩ | ⟨g', cap', cur, h, _, _, h4, h5, _⟩
      · cases h
      · cases h; exact ⟨by omega, h5⟩
    refine bodyPost_ret (v := .agg #[.bool s, .slice (some ⟨W.heap.size, 0, none⟩) 24 cap]) (by simp [results, Tryz.results43, go_sem, c0, c1]) rfl ?_
    refine ⟨_, 24, cap, rfl, ⟨by simp; omega, hcp.1, hcp.2, by omega, ?_, u32_take hU 24⟩, by omega, from_new hbw.size, ?_⟩
    · skip
      exact (hr3.set_other _ _ (fun a ha => by cases ha; simp; omega)).set_other _ _ (fun a ha => by cases ha; simp; omega)
    · exact (((hbw.trans ((undrew hb3).mono hbw.size)).setCell (by simp) _).setCell (by simp) _)
  · have hn' : ¬ 24 < (n : Int) := by omega
    obtain rfl : k = n := by have := HX.out; omega
    have hkc : (k : Int) ≤ (nc : Int) := by omega
    have hk24 : k ≤ 24 := by omega
    go_enter Tryz.func43, Tryz.ntmps43
    go_wp2
    have hb1 : Bx ((w.alloc (.cells #[.bool s, .slice (some ⟨b, off, none⟩) k nc] 26)).alloc (.cells #[.bool false, .slice none 0 0] 26)) w.heap.size (.bool s) (.slice (some ⟨b, off, none⟩) k nc) := (Bx.new _ _ _ rfl).alloc _
    have hb2 : Bx ((w.alloc (.cells #[.bool s, .slice (some ⟨b, off, none⟩) k nc] 26)).alloc (.cells #[.bool false, .slice none 0 0] 26)) (w.heap.size + 1) (.bool false) (.slice none 0 0) := Bx.new _ _ _ (World.size_alloc ..).symm
    have hbw : Below w.heap.size w ((w.alloc (.cells #[.bool s, .slice (some ⟨b, off, none⟩) k nc] 26)).alloc (.cells #[.bool false, .slice none 0 0] 26)) := ((Below.refl _ _).alloc (Nat.le_refl _) _).alloc (by simp) _
    have hsz : ((w.alloc (.cells #[.bool s, .slice (some ⟨b, off, none⟩) k nc] 26)).alloc (.cells #[.bool false, .slice none 0 0] 26)).heap.size = w.heap.size + 1 + 1 := by simp
    generalize ((w.alloc (.cells #[.bool s, .slice (some ⟨b, off, none⟩) k nc] 26)).alloc (.cells #[.bool false, .slice none 0 0] 26)) = W at *
    have HS : Hid (W.heap.size = w.heap.size + 1 + 1) := hsz
    clear hsz
    have k0 := hb1.c0
    have k1 := hb1.c1
    obtain ⟨hi, hz0, hz1, hz2⟩ := HI.out
    have hsrc : ∀ j v, ((xs.take k).map (Value.int .u32))[j]? = some v → W.drew.cell? ((⟨b, off, none⟩ : Addr).add j) = some v := by
      obtain ⟨b', off', hp, hc⟩ := ((hX.below hbw).take k).drew (by simp; omega)
      cases hp
      exact Rd.src hc
    go_region_held3 (fun w' => w'.cell? ⟨w.heap.size, 0, none⟩ = some (.bool s) ∧ w'.cell? ⟨w.heap.size, 1, none⟩ = some (.slice (some ⟨b, off, none⟩) k nc)) (first | (simp [go_sem, *]; done) | exact keepc2 (by assumption) (by assumption))
      (first
        | (refine step_append_lies _ rfl _ _ 24 rfl w.heap.size 88 i0 (.int .u32 0) 1 4 Tryz.underlying24 hi hz0 hz1 hz2 rfl (by decide) (.slice none 0 0) 0 [] rfl (World.ownsRow_nil _ _ _ _) ⟨b, off, none⟩ k nc ((xs.take k).map (Value.int .u32)) rfl (by simp; omega) ?_ (oneCell_ca _ _) hk0 (by unfold maxLen; omega) (by omega) hbw.size _ rfl ?_; exact hsrc; intro g cap w3 hown3 hgrow3 hat3 hlt3; have hb3 := below_of_grown (w := W.drew) hgrow3; obtain ⟨c0, c1, f0, f1⟩ := resbox (undrew hb3) hb2.c0 hb2.c1 hb2.f0 hb2.f1))
    go_wp2
    obtain rfl : g = W.heap.size := by rcases hat3 with h | h; cases h; exact h
    have hr3 : Rd w3 (some ⟨W.heap.size, 0, none⟩) .u32 (xs.take k) := rd_owns (by simpa using hown3)
    have hs3 := HS.out
    have hcp : k ≤ cap ∧ cap ≤ maxLen := by
      rcases hown3.2 with ⟨h, _⟩ | ⟨g', cap', cur, h, _, _, h4, h5, _⟩
      · cases h
      · cases h; exact ⟨by omega, h5⟩
    refine bodyPost_ret (v := .agg #[.bool s, .slice (some ⟨W.heap.size, 0, none⟩) k cap]) (by simp [results, Tryz.results43, go_sem, c0, c1]) rfl ?_
    refine ⟨_, k, cap, rfl, ⟨by simp; omega, hcp.1, hcp.2, by omega, ?_, u32_take hU 24⟩, by omega, from_new hbw.size, ?_⟩
    · rw [List.take_of_length_le (l := xs) (i := k) (by omega)] at hr3
      rw [List.take_of_length_le (l := xs) (i := 24) (by omega)]
      exact (hr3.set_other _ _ (fun a ha => by cases ha; simp; omega)).set_other _ _ (fun a ha => by cases ha; simp; omega)
    · exact (((hbw.trans ((undrew hb3).mono hbw.size)).setCell (by simp) _).setCell (by simp) _)
theorem app_none (ty : TypeId) (q : Option Addr) (c : Nat) (w : World) : (Builtin.append_ #[24, 24] ty #[.slice none 0 0, .slice q 0 c]).run Tryz.prog w = .ok (.slice none 0 0) w := by
  obtain ⟨i0, hi, hzz⟩ := Option.map_eq_some_iff.1 info_u32
  cases q <;> simp [Builtin.append_, run_underlying Tryz.underlying24, sizeOf, typeInfo, hi, Builtin.lenOf, Builtin.firstCells, loadCells, loadCellsFrom]
set_option maxRecDepth 100000 in
theorem Cut_none1 (s : Bool)  (w : World) :
    Calls Tryz.prog 43 #[.agg #[.bool s, .slice none 0 0]] w (CutPost s [] w) := by
  have ha := fun ty w => app_none ty none 0 w
  go_enter Tryz.func43, Tryz.ntmps43
  go_wp2
  have hb1 : Bx ((w.alloc (.cells #[.bool s, .slice none 0 0] 26)).alloc (.cells #[.bool false, .slice none 0 0] 26)) w.heap.size (.bool s) (.slice none 0 0) := (Bx.new _ _ _ rfl).alloc _
  have hb2 : Bx ((w.alloc (.cells #[.bool s, .slice none 0 0] 26)).alloc (.cells #[.bool false, .slice none 0 0] 26)) (w.heap.size + 1) (.bool false) (.slice none 0 0) := Bx.new _ _ _ (World.size_alloc ..).symm
  have hbw : Below w.heap.size w ((w.alloc (.cells #[.bool s, .slice none 0 0] 26)).alloc (.cells #[.bool false, .slice none 0 0] 26)) := ((Below.refl _ _).alloc (Nat.le_refl _) _).alloc (by simp) _
  generalize ((w.alloc (.cells #[.bool s, .slice none 0 0] 26)).alloc (.cells #[.bool false, .slice none 0 0] 26)) = W at *
  have k0 := hb1.c0
  have k1 := hb1.c1
  have c0 := hb2.c0
  have c1 := hb2.c1
  have f0 := hb2.f0
  have f1 := hb2.f1
  go_region_held3 (fun w' => w'.cell? ⟨w.heap.size, 0, none⟩ = some (.bool s) ∧ w'.cell? ⟨w.heap.size, 1, none⟩ = some (.slice none 0 0)) (first | (simp [go_sem, *]; done) | exact keepc2 (by assumption) (by assumption)) (fail)
  go_wp2
  refine bodyPost_ret (v := .agg #[.bool s, .slice none 0 0]) (by simp [results, Tryz.results43, go_sem, c0, c1]) rfl ?_
  exact ⟨none, 0, 0, rfl, ⟨rfl, Nat.le_refl _, by unfold maxLen; decide, by decide, Rd.nil, u32_nil⟩, by decide, from_none, (hbw.drew.setCell (by simp) _).setCell (by simp) _⟩
set_option maxRecDepth 100000 in
theorem Cut_none2 (s : Bool) (a : Addr) (nc : Nat) (w : World) (hb : nc ≤ maxLen) :
    Calls Tryz.prog 43 #[.agg #[.bool s, .slice (some a) 0 nc]] w (CutPost s [] w) := by
  have hb' := hb
  unfold maxLen at hb'
  have ha := fun ty w => app_none ty (some a) nc w
  have hnc0 : (0 : Int) ≤ (nc : Int) := by omega
  go_enter Tryz.func43, Tryz.ntmps43
  go_wp2
  have hb1 : Bx ((w.alloc (.cells #[.bool s, .slice (some a) 0 nc] 26)).alloc (.cells #[.bool false, .slice none 0 0] 26)) w.heap.size (.bool s) (.slice (some a) 0 nc) := (Bx.new _ _ _ rfl).alloc _
  have hb2 : Bx ((w.alloc (.cells #[.bool s, .slice (some a) 0 nc] 26)).alloc (.cells #[.bool false, .slice none 0 0] 26)) (w.heap.size + 1) (.bool false) (.slice none 0 0) := Bx.new _ _ _ (World.size_alloc ..).symm
  have hbw : Below w.heap.size w ((w.alloc (.cells #[.bool s, .slice (some a) 0 nc] 26)).alloc (.cells #[.bool false, .slice none 0 0] 26)) := ((Below.refl _ _).alloc (Nat.le_refl _) _).alloc (by simp) _
  generalize ((w.alloc (.cells #[.bool s, .slice (some a) 0 nc] 26)).alloc (.cells #[.bool false, .slice none 0 0] 26)) = W at *
  have k0 := hb1.c0
  have k1 := hb1.c1
  have c0 := hb2.c0
  have c1 := hb2.c1
  have f0 := hb2.f0
  have f1 := hb2.f1
  go_region_held3 (fun w' => w'.cell? ⟨w.heap.size, 0, none⟩ = some (.bool s) ∧ w'.cell? ⟨w.heap.size, 1, none⟩ = some (.slice (some a) 0 nc)) (first | (simp [go_sem, *]; done) | exact keepc2 (by assumption) (by assumption)) (fail)
  go_wp2
  refine bodyPost_ret (v := .agg #[.bool s, .slice none 0 0]) (by simp [results, Tryz.results43, go_sem, c0, c1]) rfl ?_
  exact ⟨none, 0, 0, rfl, ⟨rfl, Nat.le_refl _, by unfold maxLen; decide, by decide, Rd.nil, u32_nil⟩, by decide, from_none, (hbw.drew.setCell (by simp) _).setCell (by simp) _⟩
theorem Cut_any (s : Bool) (p : Option Addr) (n nc : Nat) (xs : List Int) (w : World) (hl : xs.length = n) (hnc : n ≤ nc) (hb : nc ≤ maxLen) (hX : Rd w p .u32 xs) (hU : U32 xs) (hp : p = none → nc = 0) :
    Calls Tryz.prog 43 #[.agg #[.bool s, .slice p n nc]] w (CutPost s xs w) := by
  rcases Nat.eq_zero_or_pos n with h | h
  · subst h
    obtain rfl : xs = [] := List.eq_nil_of_length_eq_zero hl
    cases p with
    | none => rw [hp rfl]; exact Cut_none1 s w
    | some a => exact Cut_none2 s a nc w hb
  · obtain ⟨b, off, rfl, _⟩ := hX (by omega)
    exact Cut_some s b off n nc (min n 24) xs w hl hnc hb hX hU rfl (by omega)
end Go.Proofs.YtejnhpjejcpekaaGreatDoor
