/-
  Lehmer's steps, stopped by Collins's condition: plain facts.
-/
import Derived.Test.YtejnhpjejcpekaaGreatDoorPl
import Derived.Test.YtejnhpjejcpekaaGreatDoorUaVgOnWhPn
import Derived.Lib.EndianBits
import Derived.Test.YtejnhpjejcpekaaGreatDoorMmWaWbWc
import Derived.Test.YtejnhpjejcpekaaGreatDoorWkWlBxBbCvNjUbUcUdOw
import Derived.Test.YtejnhpjejcpekaaGreatDoorRaWmBeRdLnWrIbWg
import Derived.Deep.DeepCutAuto
import Derived.Test.YtejnhpjejcpekaaGreatDoorUiVqDcUj
import Derived.Test.YtejnhpjejcpekaaGreatDoorWdWeNi
import Derived.Test.YtejnhpjejcpekaaGreatDoorUlUmVsUoDmVtAfBpBnBoAh
import Derived.Test.YtejnhpjejcpekaaGreatDoorLeUkWiWj
import Derived.Test.YtejnhpjejcpekaaGreatDoorFyDdDvPmHuVyFpCdDe
import Derived.Deep.DeepFit
import Derived.Shelf.SlicesE.Clone
import Derived.Ground.SlgnProg
import Derived.Test.YtejnhpjejcpekaaGreatDoorAiRzVdRtDhVeRsVfVcAjDqDrBmBqDuAkBrAl
import Derived.Test.YtejnhpjejcpekaaGreatDoorAdBsDtAgWvUh
import Derived.Deep.CutRange
import Derived.Deep.RegionHeld3
import Derived.Test.YtejnhpjejcpekaaGreatDoorVbDaCxRbCyViDsAeVuWxUpUqRmRpDkDlDbRiRjRgRk
import Derived.StillTailTactics
import Derived.Test.YtejnhpjejcpekaaGreatDoorApAqNrNaHdNb
namespace Go.Proofs.YtejnhpjejcpekaaGreatDoor
open Go.RowKit
set_option linter.unusedVariables false
set_option linter.unusedSimpArgs false
set_option maxHeartbeats 8000000
theorem val_cut (xs : List Int) (i : Nat) : val xs = val (xs.take i) + pw i * val (xs.drop i) := by
  by_cases h : i ≤ xs.length
  · exact val_drop_take xs i h
  · rw [List.take_of_length_le (by omega), List.drop_of_length_le (by omega)]; simp [val]
structure Kp (g h : Nat) (w w' : World) : Prop where
  block : ∀ k, k < w.heap.size → k ≠ g → k ≠ h → w'.heap[k]? = w.heap[k]?
  os : w'.os = w.os
  tape : w'.tape = w.tape
  output : w'.output = w.output
  size : w.heap.size ≤ w'.heap.size
def Good (a b aa ab ba bb : Int) : Prop :=
  -1073741824 < aa ∧ aa < 1073741824 ∧ -1073741824 < ab ∧ ab < 1073741824 ∧ -1073741824 < ba ∧ ba < 1073741824 ∧ -1073741824 < bb ∧ bb < 1073741824 ∧ 0 ≤ ba * a + bb * b ∧ ba * a + bb * b < aa * a + ab * b ∧ aa * a + ab * b ≤ b ∧ Int.gcd (aa * a + ab * b) (ba * a + bb * b) = Int.gcd a b
theorem bitLen_bd {x : Int} (h0 : 0 < x) (h1 : x < 4294967296) : 1 ≤ Lib.bitLen x.toNat ∧ Lib.bitLen x.toNat ≤ 32 ∧ IB (Lib.bitLen x.toNat) x := by
  have hib := bitLenAux_ib 64 x.toNat (by omega)
  have e : ((x.toNat : Nat) : Int) = x := by omega
  rw [e] at hib
  have hb : IB (Lib.bitLen x.toNat) x := hib
  refine ⟨?_, ?_, hb⟩
  · rcases Nat.eq_zero_or_pos (Lib.bitLen x.toNat) with hz | hz
    · have h2 := hb.2.1
      rw [hz] at h2
      have e0 : (2 : Int) ^ 0 = 1 := rfl
      rw [e0] at h2; omega
    · exact hz
  · rcases Nat.lt_or_ge 32 (Lib.bitLen x.toNat) with hz | hz
    · exfalso
      rcases hb.2.2 with h2 | h2
      · omega
      · have h3 := p2_mono (show 32 ≤ Lib.bitLen x.toNat - 1 by omega)
        have e0 : (2 : Int) ^ 32 = 4294967296 := rfl
        omega
    · exact hz
structure Hd (P lu lv u0 u1 u2 nx hd U V : Int) : Prop where
  p : 0 < P
  lu0 : 0 ≤ lu
  lu1 : lu < P
  lv0 : 0 ≤ lv
  lv1 : lv < P
  a0 : 0 ≤ u0 ∧ u0 < 4294967296
  a1 : 0 ≤ u1 ∧ u1 < 4294967296
  a2 : 0 ≤ u2 ∧ u2 < 4294967296
  b0 : 0 ≤ nx ∧ nx < 4294967296
  b1 : 1 ≤ hd ∧ hd < 4294967296
  u : U = lu + P * (u0 + 4294967296 * (u1 + 4294967296 * u2))
  v : V = lv + P * (nx + 4294967296 * hd)
theorem NV.fit {B : Nat} {w : World} {K M : Nat} {z : Int} {e : Ent} (h : NV B w K z e) (hz : (z.natAbs : Int) < pw M) : NV B w M z e := by
  obtain ⟨xs, h1, h2, h3⟩ := h
  exact ⟨xs, h1, h2, h1.le hz⟩
theorem Neg_any (s : Bool) (p : Option Addr) (n nc : Nat) (xs : List Int) (w : World) (hA : AI w p n nc xs) :
    Calls Tryz.prog 234 #[.agg #[.bool s, .slice p n nc]] w fun e w' => ∃ s' p' n' ys, e = .returned (.agg #[.bool s', .slice p' n' n']) ∧ NI w.heap.size w' s' p' n' ys (ival (!s) xs) ∧ n' ≤ n ∧ Below w.heap.size w w' := by
  have ht := tlen_le xs
  have hl := hA.len
  have hs := hA.sml
  go_enter Tryz.func234, Tryz.ntmps234
  go_wp2
  go_region_held3 (fun w' => w'.cell? ⟨w.heap.size, 0, none⟩ = some (.bool s) ∧ w'.cell? ⟨w.heap.size, 1, none⟩ = some (.slice p n nc)) (first | (simp [go_sem, *, World.cell?_alloc_past]; done) | exact keepc2 (by assumption) (by assumption))
    (first
      | (go_at_call 131; refine (trim_any p n nc xs _ hA.len hA.cap hA.bnd ?_).mono ?_; exact ((hA.rd.alloc _).alloc _).drew; rintro e w' ⟨rfl, rfl⟩)
      | (go_at_call 284; refine (clone_any p (tlen xs) nc (tr xs) _ (length_tr xs) (by omega) ?_).mono ?_; exact ((hA.rd.tr.alloc _).alloc _).drew; rintro e w' ⟨rfl, rfl⟩)
      | (go_at_call 196; refine (number_any (!s) (some ⟨w.heap.size + 1 + 1, 0, none⟩) (tlen xs) (tlen xs) (tr xs) _ (length_tr xs) (Nat.le_refl _) (by unfold maxLen; omega) ?_).mono ?_; exact (Row.new2 w _ _ _ _ _).drew.rd_all; rintro e w1 ⟨rfl, hb⟩; obtain ⟨c0, c1, f0, f1⟩ := resbox (r := w.heap.size + 1) (u := .bool false) (v := .slice none 0 0) hb (by simp [go_sem, World.cell?_alloc_past]) (by simp [go_sem, World.cell?_alloc_past]) (by simp [go_sem]) (by simp [go_sem])))
  go_wp2
  refine bodyPost_ret (v := .agg #[.bool (nsg (!s) (tr xs)), .slice (nad (some ⟨w.heap.size + 1 + 1, 0, none⟩) (tr xs)) (tlen (tr xs)) (tlen (tr xs))]) (by simp [results, Tryz.results234, go_sem, c0, c1]) rfl ⟨_, _, _, tr (tr xs), rfl, ?_, ?_, ?_⟩
  · rw [← ival_tr (!s) xs]
    exact ((((ni_number (B := w.heap.size + 1 + 1) (!s) (Row.new2 w _ _ _ _ _).drew.rd_all (u32_tr hA.u) (from_new (Nat.le_refl _)) ((Row.new2 w _ _ _ _ _).drew.fz 0)).below hb).set (by simp) _).set (by simp) _).mono (by omega)
  · rw [tlen_tr]; omega
  · exact ((((((Below.refl _ _).alloc (Nat.le_refl _) _).alloc (by simp) _).alloc (by simp; omega) _).drew.trans (hb.mono (by simp; omega))).setCell (by simp) _).setCell (by simp) _
theorem EV.bd {w : World} {K : Nat} {z : Int} {e : Ent} (h : EV w K z e) : (z.natAbs : Int) < pw K := by
  obtain ⟨xs, h1, h2, h3⟩ := h
  have h4 := h1.lt e.s
  rw [h2] at h4
  have := pw_mono h3
  omega
open Go.Shelf
theorem pow_bd {z : Int} {L : Nat} (h : (z.natAbs : Int) < pw L) : ∀ j, ((z ^ j).natAbs : Int) ≤ pw (L * j)
  | 0 => by simp [pw]
  | j + 1 => by
    rw [Int.pow_succ, Int.natAbs_mul, Int.natCast_mul, Nat.mul_succ, pw_add]
    exact Int.mul_le_mul (pow_bd h j) (by omega) (by omega) (Int.le_of_lt (pw_pos _))
theorem pow_bd1 {z : Int} {L : Nat} (h : (z.natAbs : Int) < pw L) (j : Nat) : ((z ^ j).natAbs : Int) < pw (L * j + 1) := by
  have h1 := pow_bd h j
  have h2 : pw (L * j + 1) = 4294967296 * pw (L * j) := pw_succ _
  have h3 := pw_pos (L * j)
  omega
theorem len16 : ∀ n, n < 17 → n / 2 ^ Lib.bitLen n = 0 ∧ Lib.bitLen n ≤ 5 := by decide
set_option maxRecDepth 100000 in
theorem raise_any {w : World} {L n : Nat} {z : Int} {e : Ent} (h : EV w L z e) (hL : L ≤ 4) (hn : n ≤ 16) :
    Calls Tryz.prog 211 #[.agg #[.bool e.s, .slice e.p e.n e.c], .int .i64 n] w fun r w' => ∃ f : Ent, r = .returned (.agg #[.bool f.s, .slice f.p f.n f.c]) ∧ NV w.heap.size w' (L * n + 1) (z ^ n) f ∧ Below w.heap.size w w' := by
  have hW : Below w.heap.size w ((w.alloc (.cells #[.bool e.s, .slice e.p e.n e.c] 26)).alloc (.cells #[.bool false, .slice none 0 0] 26)) := ((Below.refl _ _).alloc (Nat.le_refl _) _).alloc (by simp) _
  have hA : Bx ((w.alloc (.cells #[.bool e.s, .slice e.p e.n e.c] 26)).alloc (.cells #[.bool false, .slice none 0 0] 26)) w.heap.size (.bool e.s) (.slice e.p e.n e.c) := Bx.alloc (Bx.new _ _ _ rfl) _
  have hR : Bx ((w.alloc (.cells #[.bool e.s, .slice e.p e.n e.c] 26)).alloc (.cells #[.bool false, .slice none 0 0] 26)) (w.heap.size + 1) (.bool false) (.slice none 0 0) := Bx.new _ _ _ (by simp)
  have hE := h.below hW
  clear h
  go_enter Tryz.func211, Tryz.ntmps211
  go_wp2_with fail
  generalize (w.alloc (.cells #[.bool e.s, .slice e.p e.n e.c] 26)).alloc (.cells #[.bool false, .slice none 0 0] 26) = W at *
  go_fit (Of_e 1 W (by decide) (by decide))
  rintro r w1 ⟨u, rfl, hN1, hb1⟩
  have hlen := Len_any (n : Int)
  have hO := Bx.new (w := w1) (.bool u.s) (.slice u.p u.n u.c) 26 rfl
  have hal := bel_al (o := .cells #[.bool u.s, .slice u.p u.n u.c] 26) (Below.refl w1.heap.size w1)
  have sW1 := hb1.size
  go_wp2_with fail
  go_fit (hlen _ (by omega) (by omega))
  rintro r w2 ⟨rfl, hw⟩
  subst w2
  clear hlen
  generalize w1.alloc (.cells #[.bool u.s, .slice u.p u.n u.c] 26) = W1 at *
  obtain ⟨hB0, hB5⟩ := len16 n (by omega)
  have hzb := hE.bd
  have HI : Hid (Below W.heap.size W W1 ∧ NV W.heap.size W1 1 1 u) := ⟨bnext' hb1 hal, (hN1.fit (by decide)).below hal⟩
  have HW : Hid (Below w.heap.size w W ∧ Bx W w.heap.size (.bool e.s) (.slice e.p e.n e.c) ∧ Bx W (w.heap.size + 1) (.bool false) (.slice none 0 0) ∧ EV W L z e ∧ W.heap.size ≤ w1.heap.size) := ⟨hW, hA, hR, hE, sW1⟩
  have HO : Hid (Bx W1 w1.heap.size (.bool u.s) (.slice u.p u.n u.c)) := hO
  clear hN1 hb1 hal hW hA hR hE sW1 hO
  generalize hb : Lib.bitLen n = b at *
  generalize w1.heap.size = g at *
  have w0 : wrap64 ((b : Int) - 1) = (b : Int) - 1 := by unfold wrap64; omega
  go_wp2_with fail
  go_loopw [6] (fun iv wr => ∃ k : Nat, k ≤ b ∧ iv = .int .i64 ((k : Int) - 1) ∧ Hid (Below W.heap.size W wr ∧ ∃ f, Bx wr g (.bool f.s) (.slice f.p f.n f.c) ∧ NV W.heap.size wr (L * (n / 2 ^ k) + 1) (z ^ (n / 2 ^ k)) f)) (fun iv _ => (intOf iv + 1).toNat)
  case atStart => exact ⟨b, Nat.le_refl _, by go_num, HI.out.1, u, HO.out, by rw [hB0, Int.pow_zero, Nat.mul_zero]; exact HI.out.2⟩
  case round =>
    obtain ⟨k, hk, rfl, G⟩ := hrel
    obtain ⟨gB, f, gX, gN⟩ := G.out
    obtain ⟨hW, hA, hR, hE, hg⟩ := HW.out
    have sR : w.heap.size + 1 < W.heap.size := block_lt_of_cell hR.c0
    rcases Nat.eq_zero_or_pos k with h0 | h0
    · subst h0
      rw [Nat.pow_zero, Nat.div_one] at gN
      obtain ⟨c0, c1, -, -⟩ := gX
      obtain ⟨r0, r1, f0, f1⟩ := hR.later gB
      have HF : Hid (NV W.heap.size wr (L * n + 1) (z ^ n) f ∧ Below w.heap.size w wr ∧ w.heap.size ≤ W.heap.size) := ⟨gN, bnext' hW gB, hW.size⟩
      clear gN gB hW hA hR hE G
      go_wp2
      refine bodyPost_ret (v := .agg #[.bool f.s, .slice f.p f.n f.c]) (by simp [results, Tryz.results211, go_sem, r0, r1]) rfl ⟨f, rfl, ?_, ?_⟩
      · exact (HF.out.1.set2 (g := w.heap.size + 1) (o := 0) sR _ _).mono HF.out.2.2
      · exact bset2 HF.out.2.1 (by omega) _ _
    · obtain ⟨t, rfl⟩ : ∃ t, k = t + 1 := ⟨k - 1, by omega⟩
      have hq : n / 2 ^ (t + 1) ≤ 16 := Nat.le_trans (Nat.div_le_self _ _) hn
      have hKK : L * (n / 2 ^ (t + 1)) + 1 ≤ 65 := by have := Nat.mul_le_mul hL hq; omega
      have hm1 := Mul_ev (gN.ev (by omega)) (gN.ev (by omega)) (by omega)
      have hbit := bit_of n t (by omega)
      have H2 : Hid (n / 2 ^ t = 2 * (n / 2 ^ (t + 1)) + n / 2 ^ t % 2) := bit_step n t
      obtain ⟨c0, c1, f0, f1⟩ := id gX
      have j1 : (0 : Int) ≤ (t : Int) + 1 - 1 := by omega
      have j2 : ¬ ((t : Int) + 1 - 1 < 0) := by omega
      have v2 : (t : Int) + 1 - 1 = (t : Int) := by omega
      have v3 : wrap64 ((t : Int) - 1) = (t : Int) - 1 := by unfold wrap64; omega
      have HG : Hid (Bx wr g (.bool f.s) (.slice f.p f.n f.c) ∧ Below W.heap.size W wr) := ⟨gX, gB⟩
      clear gN gX
      generalize hy : n / 2 ^ (t + 1) = y at *
      clear hy
      go_wp2_with fail
      go_fit hm1
      rintro r v1 ⟨u1, rfl, hN1, hb1⟩
      have gX1 := HG.out.1.later hb1
      have sg : g < v1.heap.size := block_lt_of_cell gX1.c0
      have sgw : g < wr.heap.size := block_lt_of_cell HG.out.1.c0
      obtain ⟨d0, d1, e0, e1⟩ := id gX1
      have hS : Hid (Bx ((v1.setCell ⟨g, 0, none⟩ (.bool u1.s)).setCell ⟨g, 1, none⟩ (.slice u1.p u1.n u1.c)) g (.bool u1.s) (.slice u1.p u1.n u1.c) ∧ Below W.heap.size W ((v1.setCell ⟨g, 0, none⟩ (.bool u1.s)).setCell ⟨g, 1, none⟩ (.slice u1.p u1.n u1.c)) ∧ NV W.heap.size ((v1.setCell ⟨g, 0, none⟩ (.bool u1.s)).setCell ⟨g, 1, none⟩ (.slice u1.p u1.n u1.c)) (L * (2 * y) + 1) (z ^ (2 * y)) u1) := by
        refine ⟨Bx_set gX1, bset2 (bnext' HG.out.2 hb1) hg _ _, ?_⟩
        have h3 := (hN1.set2 (g := g) (o := 0) sgw (.bool u1.s) (.slice u1.p u1.n u1.c)).mono HG.out.2.size
        have e3 : z ^ y * z ^ y = z ^ (2 * y) := by rw [← Int.pow_add, Nat.two_mul]
        rw [e3] at h3
        exact h3.fit (pow_bd1 hzb _)
      clear hN1 hb1 gX1 hm1 c0 c1 f0 f1
      rcases Nat.mod_two_eq_zero_or_one (n / 2 ^ t) with hb2 | hb2
      · rw [hb2] at hbit
        have hq2 : (bits BinOp.and IntKind.i64 ((n : Int) / 2 ^ t) 1 == 1) = false := by rw [hbit]; rfl
        have H3 : Hid (n / 2 ^ t = 2 * y) := by have := H2.out; show _ = _; omega
        clear hbit hb2 H2
        go_wp2_with fail
        exact ⟨⟨t, by omega, rfl, hS.out.2.1, u1, hS.out.1, by rw [H3.out]; exact hS.out.2.2⟩, by simp [intOf]⟩
      · rw [hb2] at hbit
        have hq2 : (bits BinOp.and IntKind.i64 ((n : Int) / 2 ^ t) 1 == 1) = true := by rw [hbit]; rfl
        have H3 : Hid (n / 2 ^ t = 2 * y + 1) := by have := H2.out; show _ = _; omega
        have hq3 : 2 * y + 1 ≤ 16 := by rw [← H3.out]; exact Nat.le_trans (Nat.div_le_self _ _) hn
        have hK3 : L * (2 * y) + 1 ≤ 65 := by have := Nat.mul_le_mul hL (show 2 * y ≤ 16 by omega); omega
        obtain ⟨sX, sB, sN⟩ := hS.out
        obtain ⟨x0, x1, x2, x3⟩ := id sX
        obtain ⟨a0, a1, -, -⟩ := hA.later sB
        have hm2 := Mul_ev (sN.ev (by omega)) (hE.below sB) (by omega)
        have HS : Hid (Bx ((v1.setCell ⟨g, 0, none⟩ (.bool u1.s)).setCell ⟨g, 1, none⟩ (.slice u1.p u1.n u1.c)) g (.bool u1.s) (.slice u1.p u1.n u1.c) ∧ Below W.heap.size W ((v1.setCell ⟨g, 0, none⟩ (.bool u1.s)).setCell ⟨g, 1, none⟩ (.slice u1.p u1.n u1.c))) := ⟨sX, sB⟩
        clear hbit hb2 H2 sN sX sB hS
        go_wp2_with fail
        generalize (v1.setCell ⟨g, 0, none⟩ (.bool u1.s)).setCell ⟨g, 1, none⟩ (.slice u1.p u1.n u1.c) = S1 at *
        go_fit hm2
        rintro r v2' ⟨u2, rfl, hN2, hb2⟩
        have gX2 := HS.out.1.later hb2
        have sg2 : g < S1.heap.size := block_lt_of_cell HS.out.1.c0
        obtain ⟨y0, y1, y2, y3⟩ := id gX2
        have hS : Hid (Bx ((v2'.setCell ⟨g, 0, none⟩ (.bool u2.s)).setCell ⟨g, 1, none⟩ (.slice u2.p u2.n u2.c)) g (.bool u2.s) (.slice u2.p u2.n u2.c) ∧ Below W.heap.size W ((v2'.setCell ⟨g, 0, none⟩ (.bool u2.s)).setCell ⟨g, 1, none⟩ (.slice u2.p u2.n u2.c)) ∧ NV W.heap.size ((v2'.setCell ⟨g, 0, none⟩ (.bool u2.s)).setCell ⟨g, 1, none⟩ (.slice u2.p u2.n u2.c)) (L * (2 * y + 1) + 1) (z ^ (2 * y + 1)) u2) := by
          refine ⟨Bx_set gX2, bset2 (bnext' HS.out.2 hb2) hg _ _, ?_⟩
          have h3 := (hN2.set2 (g := g) (o := 0) sg2 (.bool u2.s) (.slice u2.p u2.n u2.c)).mono HS.out.2.size
          rw [← Int.pow_succ] at h3
          exact h3.fit (pow_bd1 hzb _)
        clear hN2 hb2 gX2 hm2 x0 x1 x2 x3 a0 a1 HS
        go_wp2_with fail
        exact ⟨⟨t, by omega, rfl, hS.out.2.1, u2, hS.out.1, by rw [H3.out]; exact hS.out.2.2⟩, by simp [intOf]⟩
section
variable {w w' : World} {g : Nat} {t : TypeId} {es : List Ent}
end
shelf_lay_g SlLaysE0.n41 Slgn 41 at Tryz 274 as Tryz.clonePoly
theorem Neg_ev {w : World} {K : Nat} {x : Int} {e : Ent} (h : EV w K x e) : Calls Tryz.prog 234 #[.agg #[.bool e.s, .slice e.p e.n e.c]] w fun r w' => ∃ u : Ent, r = .returned (.agg #[.bool u.s, .slice u.p u.n u.c]) ∧ NV w.heap.size w' K (-x) u ∧ Below w.heap.size w w' := by
  obtain ⟨xs, h1, rfl, h3⟩ := h
  refine (Neg_any e.s e.p e.n e.c xs w h1).mono ?_
  rintro r w' ⟨s', p', n', zs, g1, g2, g3, g4⟩
  have e1 : ival (!e.s) xs = -ival e.s xs := by cases e.s <;> simp [ival]
  rw [e1] at g2
  exact ⟨⟨s', p', n', n'⟩, g1, ⟨zs, g2, rfl, by show n' ≤ _; omega⟩, g4⟩
theorem pb_le {w : World} {K : Nat} {p : Option Addr} {n nc : Nat} {es : List Ent} {zs : List Int} (h : PA w K p n nc es zs) (hn : n ≤ 1000000) : pb zs ≤ 32 * K := by
  have := pb_le_of zs (32 * K) (fun j hj => zb_le (h.ev j (by rw [← h.zl]; exact hj))) zs.length (Nat.le_refl _)
  rwa [List.take_length] at this
theorem NV_st3 {B F : Nat} {w : World} {K : Nat} {z : Int} {e : Ent} {a : Addr} {v : Value} (hF : Go.Proofs.YtejnhpjejcpekaaGreatDoor.From F e.p) (ha : a.block < F) (h : NV B w K z e) : NV B (w.setCell a v) K z e := by
  obtain ⟨xs, h1, h2⟩ := h
  exact ⟨xs, NI_st3 hF ha h1, h2⟩
theorem NV.ltb {B : Nat} {w : World} {K : Nat} {z : Int} {e : Ent} (h : NV B w K z e) : ∀ x, e.p = some x → x.block < w.heap.size := by
  obtain ⟨xs, h1, -⟩ := h
  exact h1.lt
theorem NV.frm {B : Nat} {w : World} {K : Nat} {z : Int} {e : Ent} (h : NV B w K z e) : Go.Proofs.YtejnhpjejcpekaaGreatDoor.From B e.p := by
  obtain ⟨xs, h1, -⟩ := h
  exact h1.fr
theorem unNV {w v : World} {K : Nat} {z : Int} {e : Ent} (h : NV w.drew.heap.size v K z e) : NV w.heap.size v K z e := h
open Go.RowKit Go.Shelf
attribute [local go_sem] Oper.semAt_some
end Go.Proofs.YtejnhpjejcpekaaGreatDoor
