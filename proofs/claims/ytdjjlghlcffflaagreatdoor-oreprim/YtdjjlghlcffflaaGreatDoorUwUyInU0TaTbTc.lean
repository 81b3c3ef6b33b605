/-
  upoly.factorBits.
-/
import Derived.Test.YtdjjlghlcffflaaGreatDoorVqDcUjLeUkWi
import Derived.Test.YtdjjlghlcffflaaGreatDoorUxUtUv
import Derived.Test.YtdjjlghlcffflaaGreatDoorAfBpBnBoAhAdBsDtAgWvUhAiRzVdRtDhVeRsVfVcAj
import Derived.Test.YtdjjlghlcffflaaGreatDoorWjUlUmVsUoDmVt
import Derived.Deep.CutRange
import Derived.Deep.DeepFit
import Derived.Deep.RegionHeld3
import Derived.Test.YtdjjlghlcffflaaGreatDoorDdDvPmDqGaGbKpGcGdGe
import Derived.Test.YtdjjlghlcffflaaGreatDoorFk
import Derived.Test.YtdjjlghlcffflaaGreatDoorReRxRfRhCqRrRwVaRoVbDaCxRb
namespace Go.Proofs.YtdjjlghlcffflaaGreatDoor
open Go.RowKit
set_option linter.unusedVariables false
set_option linter.unusedSimpArgs false
set_option maxHeartbeats 8000000
theorem factorBits_any {w : World} {K : Nat} {p : Option Addr} {n nc : Nat} {es : List Ent} {zs : List Int} (h : PA w K p n nc es zs) (hn : n ≤ 100000) (hK : K ≤ 1000) (m : Nat) (hm : m ≤ 1000000) :
    Calls Tryz.prog 140 #[.slice p n nc, .int .i64 m] w fun r w' => r = .returned (.int .i64 ((m + pb zs + Lib.bitLen n : Nat) : Int)) ∧ Below w.heap.size w w' := by
  go_enter Tryz.func140, Tryz.ntmps140
  go_wp2_with fail
  refine (uBits_any h (by omega) hK).mono ?_
  rintro e w1 ⟨rfl, l1, hb1⟩
  have hbl := bitLen_le n
  have vn : IntKind.u64.wrap (n : Int) = (n : Int) := by rw [IntKind.wrap_u64]; omega
  have v1 : IntKind.i64.wrap ((m : Int) + (pb zs : Int)) = (m : Int) + (pb zs : Int) := by rw [IntKind.wrap_i64]; omega
  have hle := Len_any (n : Int) w1 (by omega) (by omega)
  rw [Int.toNat_natCast] at hle
  go_wp2_with fail
  refine hle.mono ?_
  rintro e w2 ⟨rfl, rfl⟩
  clear hle
  have v2 : IntKind.i64.wrap ((m : Int) + (pb zs : Int) + (Lib.bitLen n : Int)) = (m : Int) + (pb zs : Int) + (Lib.bitLen n : Int) := by rw [IntKind.wrap_i64]; omega
  go_wp2
  go_ret
  exact ⟨by push_cast; rfl, hb1⟩
theorem pb_le {w : World} {K : Nat} {p : Option Addr} {n nc : Nat} {es : List Ent} {zs : List Int} (h : PA w K p n nc es zs) (hn : n ≤ 1000000) : pb zs ≤ 32 * K := by
  have := pb_le_of zs (32 * K) (fun j hj => zb_le (h.ev j (by rw [← h.zl]; exact hj))) zs.length (Nat.le_refl _)
  rwa [List.take_length] at this
theorem NV_al {B : Nat} {w : World} {K : Nat} {z : Int} {e : Ent} {o : Obj} (h : NV B w K z e) : NV B (w.alloc o) K z e := h.below ((Below.refl _ _).alloc (Nat.le_refl _) o)
theorem NV_st2 {B U : Nat} {w : World} {K : Nat} {z : Int} {e : Ent} {a : Addr} {v : Value} (hU : ∀ x, e.p = some x → x.block < U) (ha : U ≤ a.block) (h : NV B w K z e) : NV B (w.setCell a v) K z e := by
  obtain ⟨xs, h1, h2⟩ := h
  exact ⟨xs, NI_st2 hU ha h1, h2⟩
theorem NV_st3 {B F : Nat} {w : World} {K : Nat} {z : Int} {e : Ent} {a : Addr} {v : Value} (hF : Go.Proofs.YtdjjlghlcffflaaGreatDoor.From F e.p) (ha : a.block < F) (h : NV B w K z e) : NV B (w.setCell a v) K z e := by
  obtain ⟨xs, h1, h2⟩ := h
  exact ⟨xs, NI_st3 hF ha h1, h2⟩
theorem NV.frm {B : Nat} {w : World} {K : Nat} {z : Int} {e : Ent} (h : NV B w K z e) : Go.Proofs.YtdjjlghlcffflaaGreatDoor.From B e.p := by
  obtain ⟨xs, h1, -⟩ := h
  exact h1.fr
theorem NV.grown {B : Nat} {w w' : World} {K g : Nat} {z : Int} {e : Ent} (h : NV B w K z e) (hg : w.grownBy w' (some g)) (hB : g < B) : NV B w' K z e := by
  obtain ⟨xs, h1, h2⟩ := h
  exact ⟨xs, ⟨h1.len, h1.rd.keptOff hg (off_from h1.fr hB), h1.u, h1.nrm, h1.sg, h1.pn, h1.v, h1.fr, h1.fz.kept hg (fun a ha e => by have := h1.fr a ha; have := Option.some.inj e; omega)⟩, h2⟩
theorem unNV {w v : World} {K : Nat} {z : Int} {e : Ent} (h : NV w.drew.heap.size v K z e) : NV w.heap.size v K z e := h
theorem bset2s {B g o : Nat} {a b : World} (h : Below B a b) (hg : B ≤ g) (u v : Value) : Below B a ((b.setCell ⟨g, o, none⟩ u).setCell ⟨g, o + 1, none⟩ v) := (h.setCell (p := ⟨g, o, none⟩) hg u).setCell (p := ⟨g, o + 1, none⟩) hg v
theorem undrewG {W w1 : World} {row : Option Nat} (h : W.drew.grownBy w1 row) : W.grownBy w1 row := ⟨h.os, h.tape, h.output, h.size, h.block⟩
theorem keep4B {w w' : World} {a c i j k l : Nat} {u v x y : Value} (h : w.cell? ⟨a, i, none⟩ = some u ∧ w.cell? ⟨a, j, none⟩ = some v ∧ w.cell? ⟨c, k, none⟩ = some x ∧ w.cell? ⟨c, l, none⟩ = some y) (ha : a < w.heap.size) (hc : c < w.heap.size) (hb : Below w.heap.size w w') : w'.cell? ⟨a, i, none⟩ = some u ∧ w'.cell? ⟨a, j, none⟩ = some v ∧ w'.cell? ⟨c, k, none⟩ = some x ∧ w'.cell? ⟨c, l, none⟩ = some y :=
  ⟨cell_later hb h.1, cell_later hb h.2.1, cell_later hb h.2.2.1, cell_later hb h.2.2.2⟩
structure QX (wr wc : World) (g1 g2 K1 K2 : Nat) (z r : Int) (c l : Ent) : Prop where
  b1 : Bx wc g1 (.bool c.s) (.slice c.p c.n c.c)
  b2 : Bx wc g2 (.bool l.s) (.slice l.p l.n l.c)
  n1 : NV wr.heap.size wc K1 z c
  n2 : NV wr.heap.size wc K2 r l
  lo : wr.heap.size ≤ g1
  bw : Below wr.heap.size wr wc
theorem EN.fitE {w : World} {K M : Nat} {z : Int} {e : Ent} (h : EN w K z e) (hz : (z.natAbs : Int) < pw M) : EV w M z e := by
  obtain ⟨xs, h1, h2, h3, h4, h5⟩ := h
  refine ⟨xs, h1, h2, ?_⟩
  rcases Nat.eq_zero_or_pos e.n with h0 | h0
  · omega
  · have := val_pos_of_top h1.u (by omega)
    rw [h3] at this
    have h6 : (z.natAbs : Int) = val xs := by rw [← h2, ival]; have := val_nonneg h1.u; split <;> omega
    have h7 := pw_lt_of (a := e.n - 1) (b := M) (by omega)
    omega
theorem ps_top (qs ys : List Int) (i m : Nat) (h : ys.length = m + 1) : ps qs ys (i + 1) (m + i) = gx qs i * gx ys m := by
  rw [ps, ps_far qs ys (m + i) i (by omega), if_pos (by omega), Nat.add_sub_cancel, Int.zero_add]
def RS (L : Int) (b : List Int) (m K0 : Nat) (a : Nat → Int) : Nat → Nat → Int
  | 0, t => a t
  | s + 1, t => L * RS L b m K0 a s t - RS L b m K0 a s (K0 - s + m) * (if K0 - s ≤ t then gx b (t - (K0 - s)) else 0)
def cvf (Q : Nat → Int) (b : List Int) : Nat → Nat → Int
  | 0, _ => 0
  | i + 1, t => cvf Q b i t + (if i ≤ t then Q i * gx b (t - i) else 0)
theorem cvf_lin (L c : Int) (Q : Nat → Int) (b : List Int) (k t : Nat) : ∀ n, cvf (fun i => L * Q i + (if i = k then c else 0)) b n t = L * cvf Q b n t + (if k < n ∧ k ≤ t then c * gx b (t - k) else 0)
  | 0 => by simp [cvf]
  | n + 1 => by
    rw [cvf, cvf_lin L c Q b k t n, cvf]
    by_cases h1 : n = k
    · subst h1
      by_cases h2 : n ≤ t
      · rw [if_neg (by omega), if_pos h2, if_pos rfl, if_pos h2, if_pos (by omega)]
        grind
      · rw [if_neg (by omega), if_neg h2, if_neg h2, if_neg (by omega)]
        grind
    · by_cases h2 : n ≤ t
      · rw [if_pos h2, if_neg h1, if_pos h2]
        by_cases h3 : k < n ∧ k ≤ t
        · rw [if_pos h3, if_pos (by omega)]; grind
        · rw [if_neg h3, if_neg (by omega)]; grind
      · rw [if_neg h2, if_neg h2]
        by_cases h3 : k < n ∧ k ≤ t
        · rw [if_pos h3, if_pos (by omega)]; grind
        · rw [if_neg h3, if_neg (by omega)]; grind
theorem cvf_congr {Q R : Nat → Int} (b : List Int) (t : Nat) : ∀ n, (∀ i, i < n → Q i = R i) → cvf Q b n t = cvf R b n t
  | 0, _ => rfl
  | n + 1, h => by rw [cvf, cvf, cvf_congr b t n (fun i hi => h i (by omega)), h n (by omega)]
theorem ps_cvf (q b : List Int) (t : Nat) : ∀ n, ps q b n t = cvf (gx q) b n t
  | 0 => rfl
  | n + 1 => by rw [ps, cvf, ps_cvf q b t n]
theorem ps_more (q b : List Int) (t n : Nat) (h : ∀ i, n ≤ i → gx q i = 0) : ∀ m, ps q b (n + m) t = ps q b n t
  | 0 => rfl
  | m + 1 => by rw [← Nat.add_assoc, ps_none q b _ t (h _ (by omega)), ps_more q b t n h m]
def Dvd (xs ys : List Int) : Prop := ∃ q : List Int, ∀ t, gx xs t = gx (mulp q ys) t
theorem ps_lin1 {a b c ys : List Int} (h : ∀ j, gx a j = gx b j + gx c j) (t : Nat) : ∀ i, ps a ys i t = ps b ys i t + ps c ys i t
  | 0 => rfl
  | i + 1 => by
    rw [ps, ps, ps, ps_lin1 h t i, h]
    split
    · rw [Int.add_mul]; omega
    · omega
theorem mulp_lin1 {a b c ys : List Int} (h : ∀ j, gx a j = gx b j + gx c j) (t : Nat) : gx (mulp a ys) t = gx (mulp b ys) t + gx (mulp c ys) t := by
  rw [gx_mulp, gx_mulp, gx_mulp, ps_lin1 h]
section
variable {p ys : List Int} {m : Nat}
theorem mulp_short (hl : ys.length = m + 1) (t : Nat) (ht : m + tlen p ≤ t) : gx (mulp p ys) t = 0 := by
  have h := ps_more p ys t (tlen p) (fun i hi => tlen_zero p i hi) (t + 1 - tlen p)
  rw [gx_mulp, ← show tlen p + (t + 1 - tlen p) = t + 1 by omega, h]
  exact ps_far p ys t (tlen p) (by omega)
theorem mulp_topp (hl : ys.length = m + 1) (a : Nat) (ha : tlen p = a + 1) : gx (mulp p ys) (m + a) = gx p a * gx ys m := by
  have h := ps_more p ys (m + a) (a + 1) (fun i hi => tlen_zero p i (by omega)) m
  rw [gx_mulp, show m + a + 1 = a + 1 + m by omega, h]
  exact ps_top p ys a m hl
theorem mult_top {rz : List Int} (hl : ys.length = m + 1) (hy : gx ys m ≠ 0) (h : ∀ t, gx rz t = gx (mulp p ys) t) : tlen rz = 0 ∨ ∃ a, tlen p = a + 1 ∧ tlen rz = m + a + 1 ∧ gx rz (m + a) = gx p a * gx ys m := by
  rcases Nat.eq_zero_or_pos (tlen p) with h0 | h0
  · refine .inl (tlen_eq _ 0 (fun j _ => ?_) (.inl rfl))
    rw [h, gx_mulp]
    have e : ∀ i, ps p ys i j = 0 := fun i => by
      induction i with
      | zero => rfl
      | succ i ih => rw [ps_none p ys i j (tlen_zero p i (by omega)), ih]
    exact e _
  · obtain ⟨a, ha⟩ : ∃ a, tlen p = a + 1 := ⟨tlen p - 1, by omega⟩
    have h1 : gx rz (m + a) = gx p a * gx ys m := by rw [h, mulp_topp hl a ha]
    refine .inr ⟨a, ha, tlen_eq _ _ (fun j hj => by rw [h, mulp_short hl j (by omega)]) (.inr ?_), h1⟩
    rw [Nat.add_sub_cancel, h1]
    have h2 := tlen_top p h0
    rw [ha, Nat.add_sub_cancel] at h2
    exact Int.mul_ne_zero h2 hy
end
theorem rest_dvd {xs ys qz rz : List Int} (h : ∀ t, gx xs t = gx (mulp qz ys) t + gx rz t) (hd : Dvd xs ys) : Dvd rz ys := by
  obtain ⟨q, hq⟩ := hd
  refine ⟨pz (· - ·) q qz, fun t => ?_⟩
  have h1 := mulp_lin1 (a := q) (b := qz) (c := pz (· - ·) q qz) (ys := ys) (fun j => by rw [gx_pz0 _ rfl]; omega) t
  have h2 := h t
  rw [hq t] at h2
  omega
def SmPost (n : Nat) (ds : List Int) (m : Int) (w : World) (e : Ending) (w' : World) : Prop :=
  ∃ Q c, e = .returned (.tuple #[.slice (some ⟨w.heap.size, 0, none⟩) n n, .int .i64 c]) ∧ Q.length = n ∧ U16 Q ∧ 0 ≤ c ∧ c < m ∧ vd ds = vd Q * m + c ∧ Row w' w.heap.size 3 .i64 Q ∧ Below w.heap.size w w'
theorem vd_drop_cons (xs : List Int) (i : Nat) (h : i < xs.length) : vd (xs.drop i) = gx xs i + 65536 * vd (xs.drop (i + 1)) := by
  rw [drop_cons xs i h]; rfl
set_option maxRecDepth 100000 in
theorem rsmall_any (p : Option Addr) (n nc : Nat) (ds : List Int) (m : Int) (w : World) (hl : ds.length = n) (hn : n ≤ 1000000) (hX : Rd w p .i64 ds) (hU : U16 ds) (hm0 : 0 < m) (hm1 : m < 65536) :
    Calls Tryz.prog 182 #[.slice p n nc, .int .i64 m] w (SmPost n ds m w) := by
  have hmk := mk_int n (by omega)
  have HL : Hid (ds.length = n) := hl
  clear hl
  have hrow := Row.new w 3 .i64 (zeros n)
  have hbel : Below w.heap.size w (w.alloc (.cells (ca .i64 (zeros n)) 3)) := (Below.refl _ _).alloc (Nat.le_refl _) _
  have HB : Hid (Row (w.alloc (.cells (ca .i64 (zeros n)) 3)) w.heap.size 3 .i64 (zeros n) ∧ Below w.heap.size w (w.alloc (.cells (ca .i64 (zeros n)) 3))) := ⟨hrow, hbel⟩
  clear hrow hbel
  have hmz : (m == 0) = false := beq_eq_false_iff_ne.2 (by omega)
  go_enter Tryz.func182, Tryz.ntmps182
  go_wp2
  generalize w.alloc (.cells (ca .i64 (zeros n)) 3) = W at *
  go_loopw [7, 8] (fun cv iv wr => ∃ (t : Nat) (c : Int) (Q : List Int), t ≤ n ∧ iv = .int .i64 ((t : Int) - 1) ∧ cv = .int .i64 c ∧ 0 ≤ c ∧ c < m ∧ Hid (Q.length = n ∧ U16 Q ∧ vd (ds.drop t) = vd (Q.drop t) * m + c ∧ Row wr w.heap.size 3 .i64 Q ∧ Below w.heap.size w wr)) (fun _ iv _ => (intOf iv + 1).toNat)
  case atStart => exact ⟨n, 0, zeros n, Nat.le_refl _, by go_num, rfl, by decide, hm0, length_zeros n, u16_zeros n, by rw [List.drop_of_length_le (by have := HL.out; omega), List.drop_of_length_le (by rw [length_zeros]; omega)]; simp [vd], HB.out.1, HB.out.2⟩
  case round =>
    obtain ⟨t, c, Q, ht, rfl, rfl, hc0, hc1, H⟩ := hrel
    by_cases h0 : t = 0
    · subst h0
      go_wp2
      go_ret2
      obtain ⟨h1, h2, h3, h4, h5⟩ := H.out
      rw [List.drop_zero, List.drop_zero] at h3
      exact ⟨Q, c, rfl, h1, h2, hc0, hc1, h3, h4, h5⟩
    · obtain ⟨i, rfl⟩ : ∃ i, t = i + 1 := ⟨t - 1, by omega⟩
      have ei : ((i + 1 : Nat) : Int) - 1 = (i : Int) := by omega
      rw [ei]
      clear ei
      obtain ⟨h1, h2, h3, h4, h5⟩ := H.out
      obtain ⟨b, off, rfl, hcell⟩ := (hX.below h5) (by have := HL.out; omega)
      have g1 := hcell i (by have := HL.out; omega)
      have g2 := h4.cell i (by omega)
      have g3 := h4.frozen i
      obtain ⟨x0, x1⟩ := hU i
      have iI : (i : Int) < (n : Int) := by omega
      have hq0 : 0 ≤ (c * 65536 + gx ds i) / m := Int.ediv_nonneg (by omega) (by omega)
      have hq1 : (c * 65536 + gx ds i) / m < 65536 := Int.ediv_lt_of_lt_mul hm0 (by
        have : (c + 1) * 65536 ≤ m * 65536 := Int.mul_le_mul_of_nonneg_right (by omega) (by decide)
        omega)
      have hr0 := Int.emod_nonneg (c * 65536 + gx ds i) (show m ≠ 0 by omega)
      have hr1 := Int.emod_lt_of_pos (c * 65536 + gx ds i) hm0
      have hrd := Int.emod_add_mul_ediv (c * 65536 + gx ds i) m
      have HR : Hid ((c * 65536 + gx ds i) % m + m * ((c * 65536 + gx ds i) / m) = c * 65536 + gx ds i) := hrd
      have q1 : (c * 65536 + gx ds i).tdiv m = (c * 65536 + gx ds i) / m := Int.tdiv_eq_ediv_of_nonneg (by omega)
      have q2 : (c * 65536 + gx ds i).tmod m = (c * 65536 + gx ds i) % m := Int.tmod_eq_emod_of_nonneg (by omega)
      clear h1 h2 h3 h4 h5 hcell hrd
      go_wp2
      obtain ⟨h1, h2, h3, h4, h5⟩ := H.out
      refine ⟨⟨i, _, Q.set i ((c * 65536 + gx ds i) / m), by omega, rfl, rfl, hr0, hr1, by rw [List.length_set]; exact h1, u16_set h2 _ ⟨hq0, hq1⟩, ?_, h4.set i _, h5.setCell (p := ⟨w.heap.size, i, none⟩) (Nat.le_refl _) _⟩, by simp [intOf]⟩
      rw [vd_drop_cons ds i (by have := HL.out; omega), h3, vd_drop_cons _ i (by rw [List.length_set]; omega), gx_set_eq Q i _ (by omega), List.drop_set_of_lt (by omega), Int.add_mul, Int.mul_assoc]
      have e := HR.out
      have e2 : (c * 65536 + gx ds i) / m * m = m * ((c * 65536 + gx ds i) / m) := Int.mul_comm ..
      rw [e2]
      omega
def TmPost (n : Nat) (V : Int) (w : World) (e : Ending) (w' : World) : Prop :=
  ∃ R, e = .returned (.slice (some ⟨w.heap.size, 0, none⟩) (n + 1) (n + 1)) ∧ R.length = n + 1 ∧ U16 R ∧ vd R = V ∧ Row w' w.heap.size 3 .i64 R ∧ Below w.heap.size w w'
theorem mul_bd17 {v x : Int} (h1 : 0 ≤ v ∧ v < 65536) (h2 : 0 ≤ x ∧ x ≤ 65536) : 0 ≤ v * x ∧ v * x ≤ 4294901760 := by
  refine ⟨Int.mul_nonneg h1.1 h2.1, ?_⟩
  have a1 : v * x ≤ v * 65536 := Int.mul_le_mul_of_nonneg_left (by omega) h1.1
  omega
set_option maxRecDepth 100000 in
theorem rtimes_any (p : Option Addr) (n nc : Nat) (ds : List Int) (m : Int) (w : World) (hl : ds.length = n) (hn : n ≤ 1000000) (hX : Rd w p .i64 ds) (hU : U16 ds) (hm0 : 0 ≤ m) (hm1 : m ≤ 65536) :
    Calls Tryz.prog 183 #[.slice p n nc, .int .i64 m] w (TmPost n (vd ds * m) w) := by
  have hmk := mk_int (n + 1) (by omega)
  have ec : ((n + 1 : Nat) : Int) = (n : Int) + 1 := by omega
  rw [ec] at hmk
  clear ec
  have HL : Hid (ds.length = n) := hl
  clear hl
  have hrow := Row.new w 3 .i64 (zeros (n + 1))
  have hbel : Below w.heap.size w (w.alloc (.cells (ca .i64 (zeros (n + 1))) 3)) := (Below.refl _ _).alloc (Nat.le_refl _) _
  have HB : Hid (Row (w.alloc (.cells (ca .i64 (zeros (n + 1))) 3)) w.heap.size 3 .i64 (zeros (n + 1)) ∧ Below w.heap.size w (w.alloc (.cells (ca .i64 (zeros (n + 1))) 3))) := ⟨hrow, hbel⟩
  clear hrow hbel
  go_enter Tryz.func183, Tryz.ntmps183
  go_wp2
  generalize w.alloc (.cells (ca .i64 (zeros (n + 1))) 3) = W at *
  go_loopw [6, 7] (fun cv iv wr => ∃ (k : Nat) (c : Int) (R : List Int), k ≤ n ∧ iv = .int .i64 k ∧ cv = .int .i64 c ∧ 0 ≤ c ∧ c < 65536 ∧ Hid (R.length = n + 1 ∧ U16 R ∧ (∀ j, k ≤ j → gx R j = 0) ∧ vd (R.take k) + pd k * c = vd (ds.take k) * m ∧ Row wr w.heap.size 3 .i64 R ∧ Below w.heap.size w wr)) (fun _ iv _ => (n - intOf iv).toNat)
  case atStart => exact ⟨0, 0, zeros (n + 1), Nat.zero_le _, by go_num, rfl, by decide, by decide, length_zeros _, u16_zeros _, fun j _ => gx_zeros _ j, by simp [vd], HB.out.1, HB.out.2⟩
  case round =>
    obtain ⟨k, c, R, hk, rfl, rfl, hc0, hc1, H⟩ := hrel
    by_cases hkn : k < n
    · obtain ⟨h1, h2, h3, h4, h5, h6⟩ := H.out
      obtain ⟨b, off, rfl, hcell⟩ := (hX.below h6) (by have := HL.out; omega)
      have g1 := hcell k (by have := HL.out; omega)
      have g2 := h5.cell k (by omega)
      have g3 := h5.frozen k
      have hb := mul_bd17 (hU k) ⟨hm0, hm1⟩
      have hkI : (k : Int) < (n : Int) := by omega
      have hkI2 : (k : Int) < (n : Int) + 1 := by omega
      have q1 : (c + gx ds k * m).tmod 65536 = (c + gx ds k * m) % 65536 := Int.tmod_eq_emod_of_nonneg (by omega)
      have q2 : (c + gx ds k * m).tdiv 65536 = (c + gx ds k * m) / 65536 := Int.tdiv_eq_ediv_of_nonneg (by omega)
      clear h1 h2 h3 h4 h5 h6 hcell
      go_wp2
      obtain ⟨h1, h2, h3, h4, h5, h6⟩ := H.out
      refine ⟨⟨k + 1, _, R.set k ((c + gx ds k * m) % 65536), by omega, by go_num, rfl, by omega, by omega, by rw [List.length_set]; exact h1, u16_set h2 _ (by omega), fun j hj => ?_, ?_, h5.set k _, h6.setCell (p := ⟨w.heap.size, k, none⟩) (Nat.le_refl _) _⟩, by simp [intOf]; omega⟩
      · rw [gx_set_ne R _ _ _ (by omega)]; exact h3 j (by omega)
      · rw [vd_take_succ _ k, vd_take_succ ds k, gx_set_eq R k _ (by omega), List.take_set_of_le (Nat.le_refl _), pd_succ, Int.add_mul, ← h4, Int.mul_assoc (pd k)]
        have e1 := cut16 (pd k) (c + gx ds k * m)
        rw [Int.mul_add] at e1
        omega
    · obtain rfl : k = n := by omega
      obtain ⟨h1, h2, h3, h4, h5, h6⟩ := H.out
      have g2 := h5.cell k (by omega)
      have g3 := h5.frozen k
      have hkI2 : (k : Int) < (k : Int) + 1 := by omega
      clear h1 h2 h3 h4 h5 h6
      go_wp2
      go_ret
      obtain ⟨h1, h2, h3, h4, h5, h6⟩ := H.out
      refine ⟨R.set k c, rfl, by rw [List.length_set]; exact h1, u16_set h2 _ ⟨hc0, hc1⟩, ?_, h5.set k _, h6.setCell (p := ⟨w.heap.size, k, none⟩) (Nat.le_refl _) _⟩
      rw [List.take_of_length_le (l := ds) (by have := HL.out; omega)] at h4
      have e := vd_take_succ (R.set k c) k
      rw [List.take_of_length_le (by rw [List.length_set]; omega), List.take_set_of_le (Nat.le_refl _), gx_set_eq R k c (by omega)] at e
      rw [e, h4]
theorem vd_drop_next (xs : List Int) (i : Nat) : vd (xs.drop i) = gx xs i + 65536 * vd (xs.drop (i + 1)) := by
  by_cases h : i < xs.length
  · exact vd_drop_cons xs i h
  · rw [List.drop_of_length_le (by omega), List.drop_of_length_le (by omega), gx_past xs i (by omega) i (Nat.le_refl _)]; rfl
theorem vd_cut (xs : List Int) (i : Nat) : vd xs = vd (xs.take i) + pd i * vd (xs.drop i) := by
  by_cases h : i ≤ xs.length
  · exact vd_drop_take xs i h
  · rw [List.take_of_length_le (by omega), List.drop_of_length_le (by omega)]; simp [vd]
theorem guess_ge {Uk v top low vt vl P Q : Int} (hP : 0 < P) (h1 : Uk = top * P + low) (h3 : low < P) (h4 : v = vt * P + vl) (h5 : 0 ≤ vl) (h6 : 0 < vt) (hQ : 0 ≤ Q) (h : Q * v ≤ Uk) : Q ≤ top / vt := by
  apply (Int.le_ediv_iff_mul_le h6).2
  have e : Q * v = (Q * vt) * P + Q * vl := by rw [h4, Int.mul_add, Int.mul_assoc]
  have h7 := Int.mul_nonneg hQ h5
  have h8 : (Q * vt) * P < (top + 1) * P := by rw [Int.add_mul, Int.one_mul]; omega
  have h9 := Int.lt_of_mul_lt_mul_right h8 (Int.le_of_lt hP)
  omega
theorem top_two (us : List Int) (k n : Nat) (hn : 1 ≤ n) (hz : vd (us.drop (k + n + 1)) = 0) : vd (us.drop k) = (gx us (k + n) * 65536 + gx us (k + n - 1)) * pd (n - 1) + vd ((us.drop k).take (n - 1)) := by
  rw [vd_cut (us.drop k) (n - 1), List.drop_drop, show k + (n - 1) = k + n - 1 by omega, vd_drop_next us (k + n - 1), show k + n - 1 + 1 = k + n by omega, vd_drop_next us (k + n), hz, Int.mul_comm (pd (n - 1))]
  have : gx us (k + n - 1) + 65536 * (gx us (k + n) + 65536 * 0) = gx us (k + n) * 65536 + gx us (k + n - 1) := by omega
  rw [this]
  omega
theorem drop_zero_of {us : List Int} (h : U16 us) {k n : Nat} {v : Int} (h1 : vd (us.drop k) < v) (h2 : v ≤ pd n) : vd (us.drop (k + n)) = 0 := by
  have e := vd_cut (us.drop k) n
  rw [List.drop_drop] at e
  have h3 := vd_nonneg (u16_take (u16_drop h k) n)
  have h4 := vd_nonneg (u16_drop h (k + n))
  rcases (show vd (us.drop (k + n)) = 0 ∨ 1 ≤ vd (us.drop (k + n)) by omega) with h5 | h5
  · exact h5
  · have : pd n * 1 ≤ pd n * vd (us.drop (k + n)) := Int.mul_le_mul_of_nonneg_left h5 (Int.le_of_lt (pd_pos n))
    omega
theorem quo_mul {x y : Int} (hy : 0 < y) : x / y * y ≤ x ∧ x < (x / y + 1) * y := by
  have h1 := Int.emod_add_mul_ediv x y
  have h2 := Int.emod_nonneg x (show y ≠ 0 by omega)
  have h3 := Int.emod_lt_of_pos x hy
  rw [Int.mul_comm y] at h1
  rw [Int.add_mul, Int.one_mul]
  constructor <;> omega
end Go.Proofs.YtdjjlghlcffflaaGreatDoor
