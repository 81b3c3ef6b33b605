/-
  packed.Of.
-/
import Derived.Test.YtejnhpjejcpekaaGreatDoorHuVyVzRqPqPrPsPtPuDtPvPwPxKa
import Derived.Deep.DeepFit
import Derived.Test.YtejnhpjejcpekaaGreatDoorKl
import Derived.Test.YtejnhpjejcpekaaGreatDoorUgUjBsLeUkUiWiWjUlDdReRx
import Derived.Test.YtejnhpjejcpekaaGreatDoorPmDqGaGbKpGcGdGeQaQb
import Derived.Test.YtejnhpjejcpekaaGreatDoorQhGfGgUnWfUuUxUtUvUw
import Derived.Test.YtejnhpjejcpekaaGreatDoorWhPnWkWlBxBbCvNj
import Derived.Deep.RegionHeld3
namespace Go.Proofs.YtejnhpjejcpekaaGreatDoor
open Go.RowKit
set_option linter.unusedVariables false
set_option linter.unusedSimpArgs false
set_option maxHeartbeats 8000000
theorem Mul_ev6 {w : World} {K L : Nat} {x y : Int} {e f : Ent} (h : EV w K x e) (k : EV w L y f) (hK : K ≤ 1000000) (hL : L ≤ 1000000) : Calls Tryz.prog 115 #[.agg #[.bool e.s, .slice e.p e.n e.c], .agg #[.bool f.s, .slice f.p f.n f.c]] w fun r w' => ∃ u : Ent, r = .returned (.agg #[.bool u.s, .slice u.p u.n u.c]) ∧ NV w.heap.size w' (K + L) (x * y) u ∧ Below w.heap.size w w' := by
  obtain ⟨xs, h1, rfl, h3⟩ := h
  obtain ⟨ys, k1, rfl, k3⟩ := k
  refine (Mul_all e.s f.s e.p f.p e.n e.c f.n f.c xs ys w h1 k1 (by omega) (by omega)).mono ?_
  rintro r w' ⟨s', p', n', zs, g1, g2, g3, g4⟩
  exact ⟨⟨s', p', n', n'⟩, g1, ⟨zs, g2, rfl, by show n' ≤ _; omega⟩, g4⟩
structure PC (B : Nat) (w : World) (K : Nat) (p : Option Addr) (n nc : Nat) (es : List Ent) (zs : List Int) : Prop where
  pn : PN B w K p n es zs
  cap : n ≤ nc
  bnd : nc ≤ maxLen
  nil : p = none → nc = 0
theorem PC.pa {B : Nat} {w : World} {K : Nat} {p : Option Addr} {n nc : Nat} {es : List Ent} {zs : List Int} (h : PC B w K p n nc es zs) (hK : K ≤ 1000) : PA w K p n nc es zs :=
  ⟨h.pn.el, h.pn.zl, h.cap, h.bnd, h.nil, h.pn.pl, fun j hj => (h.pn.ev j hj).ev hK⟩
theorem PC.below {B : Nat} {w w' : World} {K : Nat} {p : Option Addr} {n nc : Nat} {es : List Ent} {zs : List Int} (h : PC B w K p n nc es zs) (hb : Below w.heap.size w w') : PC B w' K p n nc es zs := ⟨h.pn.below hb, h.cap, h.bnd, h.nil⟩
def lin (x : Int) : List Int := [-x, 1]
theorem gx_mlin (x : Int) (zs : List Int) (t : Nat) : gx (mulp zs (lin x)) t = (if t = 0 then 0 else gx zs (t - 1)) - x * gx zs t := by
  rw [gx_mulp, lin, ps_line]
  split <;> grind
theorem mlin_nrm {zs : List Int} (x : Int) (h : tlen zs = zs.length) : tlen (mulp zs (lin x)) = (mulp zs (lin x)).length := by
  rcases Nat.eq_zero_or_pos zs.length with h0 | h0
  · rw [List.length_eq_zero_iff.1 h0]
    simp [mulp, tlen]
  · have hl : (mulp zs (lin x)).length = zs.length + 1 := by
      rw [mulp, if_neg (by rw [lin]; simp; intro h1; rw [h1] at h0; exact absurd h0 (by simp)), length_mulz]
      simp [lin]
    rw [hl]
    refine tlen_eq _ _ (fun j hj => gx_past _ _ (by rw [hl]; exact Nat.le_refl _) j hj) (.inr ?_)
    have h1 := tlen_top zs (by omega)
    rw [h] at h1
    rw [Nat.add_sub_cancel, gx_mlin, if_neg (by omega), gx_past zs _ (Nat.le_refl _) _ (Nat.le_refl _), Int.mul_zero, Int.sub_zero]
    exact h1
theorem mlin_len {zs : List Int} (x : Int) (h : 0 < zs.length) : (mulp zs (lin x)).length = zs.length + 1 := by
  rw [mulp, if_neg (by rw [lin]; simp; intro h1; rw [h1] at h; exact absurd h (by simp)), length_mulz]
  simp [lin]
theorem mlin_nil (x : Int) : mulp [] (lin x) = [] := by simp [mulp]
structure MlI (w wr : World) (B s : Nat) (e : Ent) (n k M K : Nat) (zs : List Int) (x : Int) (us : List Ent) (f : Ent) : Prop where
  row : Row2 wr (s + 1) 26 us
  len : us.length = n + 1
  ev : ∀ j, j < k → NV B wr M (gx (mulp zs (lin x)) j) (ge us j) ∧ (0 < (ge us j).n → Off (s + 1) (ge us j).p ∧ Off (s + 1 + 1) (ge us j).p)
  bel : Bx wr (s + 1 + 1) (.bool f.s) (.slice f.p f.n f.c)
  bv : NV B wr K (if k = 0 then 0 else gx zs (k - 1)) f
  bo : 0 < f.n → Off (s + 1) f.p ∧ Off (s + 1 + 1) f.p
  bx : Bx wr s (.bool e.s) (.slice e.p e.n e.c)
  bw : Below w.heap.size w wr
theorem mlin_lt {x : Int} {zs : List Int} {K L : Nat} (hz : ∀ t, ((gx zs t).natAbs : Int) < pw K) (hx : (x.natAbs : Int) < pw L) (t : Nat) : ((gx (mulp zs (lin x)) t).natAbs : Int) < pw (K + L + 1) := by
  rw [gx_mlin, pw_succ]
  have h1 : ((x * gx zs t).natAbs : Int) ≤ pw (K + L) := by
    rw [Int.natAbs_mul, Nat.add_comm K L, pw_add]
    push_cast
    exact Int.mul_le_mul (Int.le_of_lt hx) (Int.le_of_lt (hz t)) (by omega) (Int.le_of_lt (pw_pos L))
  have h2 : (((if t = 0 then 0 else gx zs (t - 1)) : Int).natAbs : Int) < pw (K + L) := by
    split
    · exact pw_pos _
    · exact Int.lt_of_lt_of_le (hz (t - 1)) (pw_mono (by omega))
  have h3 := pw_pos (K + L)
  omega
theorem nv_up {w : World} {B K L : Nat} {z : Int} {e : Ent} (h : NV B w K z e) (hk : K ≤ L) : NV B w L z e := by
  obtain ⟨xs, a, b, c⟩ := h
  exact ⟨xs, a, b, by omega⟩
theorem nv_off {w : World} {B K g : Nat} {z : Int} {e : Ent} (h : NV B w K z e) (hg : g < B) : Off g e.p := by
  obtain ⟨xs, k1, -⟩ := h
  exact off_from k1.fr hg
theorem mli_step {w wr v2 v3 : World} {B s n k M K K3 : Nat} {e f e3 ce : Ent} {zs : List Int} {x : Int} {us : List Ent} (H : MlI w wr B s e n k M K zs x us f) (hs : s = w.heap.size) (hb2 : Below wr.heap.size wr v2) (hb : Below wr.heap.size wr v3) (hB : B ≤ w.heap.size) (hN3 : NV v2.heap.size v3 K3 (gx (mulp zs (lin x)) k) e3) (hval : ((gx (mulp zs (lin x)) k).natAbs : Int) < pw M) (hk : k < n) (hce : NV B v3 K (gx zs k) ce) (hco : 0 < ce.n → Off (s + 1) ce.p ∧ Off (s + 1 + 1) ce.p) :
    MlI w ((((v3.setCell ⟨s + 1, k * 2, none⟩ (.bool e3.s)).setCell ⟨s + 1, k * 2 + 1, none⟩ (.slice e3.p e3.n e3.c)).setCell ⟨s + 1 + 1, 0, none⟩ (.bool ce.s)).setCell ⟨s + 1 + 1, 1, none⟩ (.slice ce.p ce.n ce.c)) B s e n (k + 1) M K zs x (us.set k e3) ce := by
  have hlt := H.row.lt
  have hlb := block_lt_of_cell H.bel.c0
  simp only at hlb
  have hz2 := hb2.size
  have ho3 : Off (s + 1) e3.p ∧ Off (s + 1 + 1) e3.p := ⟨nv_off hN3 (by omega), nv_off hN3 (by omega)⟩
  have hwr := H.bw.size
  have hR := (H.row.below hb hlt).set k e3 (by rw [H.len]; omega)
  have hne1 : s + 1 ≠ s + 1 + 1 := by omega
  have hX := Bx_any (o := 0) (u := .bool ce.s) (v := .slice ce.p ce.n ce.c) (g := s + 1 + 1) (Bx_any (o := k * 2) (u := .bool e3.s) (v := .slice e3.p e3.n e3.c) (g := s + 1) (H.bx.later hb) (by omega)) (by omega)
  have hb5 := ((((H.bw.trans (hb.mono hwr)).setCell (p := ⟨s + 1, k * 2, none⟩) (by simp only; omega) (.bool e3.s)).setCell (p := ⟨s + 1, k * 2 + 1, none⟩) (by simp only; omega) (.slice e3.p e3.n e3.c)).setCell (p := ⟨s + 1 + 1, 0, none⟩) (by simp only; omega) (.bool ce.s)).setCell (p := ⟨s + 1 + 1, 1, none⟩) (by simp only; omega) (.slice ce.p ce.n ce.c)
  have hR2 := (hR.set_other ⟨s + 1 + 1, 0, none⟩ (.bool ce.s) (by simp only; omega)).set_other ⟨s + 1 + 1, 1, none⟩ (.slice ce.p ce.n ce.c) (by simp only; omega)
  refine ⟨hR2, by simpa using H.len, fun j hj => ?_, ?_, ?_, hco, hX, hb5⟩
  · rcases Nat.lt_or_ge j k with h' | h'
    · rw [ge_set_other _ _ _ _ (by omega)]
      obtain ⟨a, b⟩ := H.ev j h'
      exact ⟨((a.below hb).set2o fun h0 => (b h0).1).set2o fun h0 => (b h0).2, b⟩
    · obtain rfl : j = k := by omega
      rw [ge_set_same _ _ _ (by rw [H.len]; omega)]
      exact ⟨(((hN3.mono (by omega)).le hval).set2o fun _ => ho3.1).set2o fun _ => ho3.2, fun _ => ho3⟩
  · exact Bx_set (Bx_any (o := k * 2) (u := .bool e3.s) (v := .slice e3.p e3.n e3.c) (g := s + 1) (H.bel.later hb) (by omega))
  · rw [if_neg (by omega), Nat.add_sub_cancel]
    exact (hce.set2o fun h0 => (hco h0).1).set2o fun h0 => (hco h0).2
set_option maxRecDepth 100000 in
theorem rtmul_any {w : World} {B K L : Nat} {p : Option Addr} {n nc : Nat} {es : List Ent} {zs : List Int} {x : Int} {e : Ent} (h : PC B w K p n nc es zs) (hB : B ≤ w.heap.size) (hx : EV w L x e) (hn : n ≤ 1000) (hK : K ≤ 300) (hL : L ≤ 300) :
    Calls Tryz.prog 53 #[.slice p n nc, .agg #[.bool e.s, .slice e.p e.n e.c]] w fun r w' => ∃ q m qs, r = .returned (.slice q m m) ∧ PN B w' (K + L + 1) q m qs (mulp zs (lin x)) ∧ Below w.heap.size w w' := by
  have HX : Hid (PC B w K p n nc es zs ∧ EV w L x e) := ⟨h, hx⟩
  clear h hx
  have hmk := mk_poly (n + 1) (by omega)
  push_cast at hmk
  go_enter Tryz.func53, Tryz.ntmps53
  rcases Nat.eq_zero_or_pos n with h0 | h0
  · subst h0
    have hz : zs = [] := List.length_eq_zero_iff.1 HX.out.1.pn.zl
    go_wp2_with fail
    go_ret
    exact ⟨none, 0, [], rfl, by rw [hz, mlin_nil]; exact pn_nil _ _ _, bel_al (Below.refl _ _)⟩
  have g1 : ((n : Int) == 0) = false := by rw [beq_eq_false_iff_ne]; omega
  go_wp2_with fail
  have hR0 : Row2 (((w.alloc (.cells #[.bool e.s, .slice e.p e.n e.c] 26)).alloc (.cells (ca2 (ezs (n + 1))) 26)).alloc (.cells #[.bool false, .slice none 0 0] 26)) (w.heap.size + 1) 26 (ezs (n + 1)) := by
    have := (Row2.new (w.alloc (.cells #[.bool e.s, .slice e.p e.n e.c] 26)) 26 (ezs (n + 1)))
    rw [World.size_alloc] at this
    exact this.below (bel_al (Below.refl _ _)) this.lt
  have hX0 : Bx (((w.alloc (.cells #[.bool e.s, .slice e.p e.n e.c] 26)).alloc (.cells (ca2 (ezs (n + 1))) 26)).alloc (.cells #[.bool false, .slice none 0 0] 26)) w.heap.size (.bool e.s) (.slice e.p e.n e.c) := ((Bx.new _ _ _ rfl).later (bel_al (Below.refl _ _))).later (bel_al (Below.refl _ _))
  have hb0 : Bx (((w.alloc (.cells #[.bool e.s, .slice e.p e.n e.c] 26)).alloc (.cells (ca2 (ezs (n + 1))) 26)).alloc (.cells #[.bool false, .slice none 0 0] 26)) (w.heap.size + 1 + 1) (.bool false) (.slice none 0 0) := by
    have := Bx.new (w := (w.alloc (.cells #[.bool e.s, .slice e.p e.n e.c] 26)).alloc (.cells (ca2 (ezs (n + 1))) 26)) (.bool false) (.slice none 0 0) 26 rfl
    rwa [World.size_alloc, World.size_alloc] at this
  have hW0 : Below w.heap.size w (((w.alloc (.cells #[.bool e.s, .slice e.p e.n e.c] 26)).alloc (.cells (ca2 (ezs (n + 1))) 26)).alloc (.cells #[.bool false, .slice none 0 0] 26)) := bel_al (bel_al (bel_al (Below.refl _ _)))
  have H0 : Hid (MlI w (((w.alloc (.cells #[.bool e.s, .slice e.p e.n e.c] 26)).alloc (.cells (ca2 (ezs (n + 1))) 26)).alloc (.cells #[.bool false, .slice none 0 0] 26)) B w.heap.size e n 0 (K + L + 1) K zs x (ezs (n + 1)) ⟨false, none, 0, 0⟩) := ⟨hR0, length_ezs _, fun j hj => absurd hj (Nat.not_lt_zero _), hb0, NV.ez _ _ _, fun h => absurd h (Nat.lt_irrefl 0), hX0, hW0⟩
  generalize ((w.alloc (.cells #[.bool e.s, .slice e.p e.n e.c] 26)).alloc (.cells (ca2 (ezs (n + 1))) 26)).alloc (.cells #[.bool false, .slice none 0 0] 26) = W0 at *
  clear hR0 hX0 hb0 hW0 hmk
  go_loopw [7, 8, 18] (fun iv cv kv wr => ∃ (k : Nat) (us : List Ent) (f : Ent), k ≤ n ∧ kv = .int .i64 k ∧ Hid (MlI w wr B w.heap.size e n k (K + L + 1) K zs x us f)) (fun _ _ kv _ => n - (intOf kv).toNat)
  case atStart => exact ⟨0, ezs (n + 1), ⟨false, none, 0, 0⟩, Nat.zero_le _, by go_num, H0.out⟩
  case round =>
    clear H0
    obtain ⟨k, us, f, hk, rfl, H⟩ := hrel
    rcases Nat.lt_or_ge k n with hlt | hge
    · have hPA := HX.out.1.below H.out.bw
      obtain ⟨b, o, hp, hc⟩ := hPA.pn.pl (by rw [hPA.pn.el]; exact h0)
      subst hp
      obtain ⟨c0, c1⟩ := hc k (by rw [hPA.pn.el]; exact hlt)
      have hv := (hPA.pn.ev k hlt).ev (by omega)
      have i1 : (k : Int) < (n : Int) := by omega
      have hal := bel_al (o := .cells #[.bool (ge es k).s, .slice (ge es k).p (ge es k).n (ge es k).c] 26) (Below.refl wr.heap.size wr)
      have HP : Hid (PC B wr K (some ⟨b, o, none⟩) n nc es zs) := hPA
      clear hc hPA
      go_upto_region 8 with fail
      have a0 := H.out.bel.c0
      have a1 := H.out.bel.c1
      have x0 := H.out.bx.c0
      have x1 := H.out.bx.c1
      have a0' := cell_later hal a0
      have a1' := cell_later hal a1
      have x0' := cell_later hal x0
      have x1' := cell_later hal x1
      obtain ⟨e0, e1⟩ := cells_at wr (.bool (ge es k).s) (.slice (ge es k).p (ge es k).n (ge es k).c) 26
      have hne : wr.heap.size ≠ w.heap.size + 1 := by have := H.out.row.lt; omega
      have i2 : (k : Int) < (n : Int) + 1 := by omega
      have hbv := H.out.bv
      have hxv := HX.out.2.below H.out.bw
      have hrow := H.out.row.below hal H.out.row.lt
      have hlen := H.out.len
      have HAL : Hid (Below wr.heap.size wr (wr.alloc (.cells #[.bool (ge es k).s, .slice (ge es k).p (ge es k).n (ge es k).c] 26))) := hal
      have hv' := hv.below hal
      have hx' := hxv.below hal
      have hf' := (hbv.below hal).ev (by omega)
      generalize (wr.alloc (.cells #[.bool (ge es k).s, .slice (ge es k).p (ge es k).n (ge es k).c] 26)) = W1 at *
      clear hal
      go_region_held3 (fun w' => w'.cell? ⟨w.heap.size + 1 + 1, 0, none⟩ = some (.bool f.s) ∧ w'.cell? ⟨w.heap.size + 1 + 1, 1, none⟩ = some (.slice f.p f.n f.c) ∧ w'.cell? ⟨w.heap.size, 0, none⟩ = some (.bool e.s) ∧ w'.cell? ⟨w.heap.size, 1, none⟩ = some (.slice e.p e.n e.c) ∧ w'.cell? ⟨wr.heap.size, 0, none⟩ = some (.bool (ge es k).s) ∧ w'.cell? ⟨wr.heap.size, 1, none⟩ = some (.slice (ge es k).p (ge es k).n (ge es k).c)) (first | with_reducible exact ⟨a0', a1', x0', x1', e0, e1⟩ | with_reducible exact K2 | with_reducible exact K3 | (simp [go_sem, *]; done))
        (first
          | (go_at_call 115; go_fit (Mul_ev6 hx'.drew hv'.drew (by omega) (by omega)); rintro r' v2 ⟨e2, rfl, hN2, hb2⟩; have hV2 := undrew hb2; have K2 := And.intro (cell_later hV2 a0') (And.intro (cell_later hV2 a1') (And.intro (cell_later hV2 x0') (And.intro (cell_later hV2 x1') (And.intro (cell_later hV2 e0) (cell_later hV2 e1))))))
          | (go_at_call 114; go_fit (Sub_ev (hf'.below hV2) (hN2.ev (by omega))); rintro r' v3 ⟨e3, rfl, hN3, hb3⟩; have hV3 := bnext' hV2 hb3; have K3 := And.intro (cell_later hV3 a0') (And.intro (cell_later hV3 a1') (And.intro (cell_later hV3 x0') (And.intro (cell_later hV3 x1') (And.intro (cell_later hV3 e0) (cell_later hV3 e1))))); have hR3 := hrow.below hV3 hrow.lt; obtain ⟨z0, z1⟩ := hR3.cell k (by omega); have f0 := hR3.frozen (k * 2); have f1 := hR3.frozen (k * 2 + 1)))
      have HST : Hid (MlI w ((((v3.setCell ⟨w.heap.size + 1, k * 2, none⟩ (.bool e3.s)).setCell ⟨w.heap.size + 1, k * 2 + 1, none⟩ (.slice e3.p e3.n e3.c)).setCell ⟨w.heap.size + 1 + 1, 0, none⟩ (.bool (ge es k).s)).setCell ⟨w.heap.size + 1 + 1, 1, none⟩ (.slice (ge es k).p (ge es k).n (ge es k).c)) B w.heap.size e n (k + 1) (K + L + 1) K zs x (us.set k e3) (ge es k)) := mli_step H.out rfl (bnext' HAL.out hV2) (bnext' HAL.out hV3) hB (by rw [gx_mlin]; exact hN3) (mlin_lt (HX.out.1.pa (by omega)).gbd hx'.bd k) hlt ((HP.out.pn.ev k hlt).below (bnext' HAL.out hV3)) (fun h0 => ⟨ev_off ((HX.out.1.pn.ev k hlt).ev (by omega)) (by omega) h0, ev_off ((HX.out.1.pn.ev k hlt).ev (by omega)) (by omega) h0⟩)
      have hc4 := Bx_any (o := k * 2) (u := .bool e3.s) (v := .slice e3.p e3.n e3.c) (g := w.heap.size + 1) ((H.out.bel.later HAL.out).later hV3) (by omega)
      have y0 : ((v3.setCell ⟨w.heap.size + 1, k * 2, none⟩ (.bool e3.s)).setCell ⟨w.heap.size + 1, k * 2 + 1, none⟩ (.slice e3.p e3.n e3.c)).cell? ⟨wr.heap.size, 0, none⟩ = some (.bool (ge es k).s) := by simp [go_sem, *]
      have y1 : ((v3.setCell ⟨w.heap.size + 1, k * 2, none⟩ (.bool e3.s)).setCell ⟨w.heap.size + 1, k * 2 + 1, none⟩ (.slice e3.p e3.n e3.c)).cell? ⟨wr.heap.size, 1, none⟩ = some (.slice (ge es k).p (ge es k).n (ge es k).c) := by simp [go_sem, *]
      obtain ⟨q0, q1, q2, q3⟩ := id hc4
      clear K2 K3 z0 z1 f0 f1 hN2 hN3 hb2 hb3 hV2 hV3 hc4 hR3 hf' hx' hv' hrow hbv hxv hv a0 a1 x0 x1 a0' a1' x0' x1' e0 e1 c0 c1 H HP HAL
      generalize (v3.setCell ⟨w.heap.size + 1, k * 2, none⟩ (.bool e3.s)).setCell ⟨w.heap.size + 1, k * 2 + 1, none⟩ (.slice e3.p e3.n e3.c) = V4 at *
      go_wp2
      exact ⟨⟨k + 1, us.set k e3, ge es k, by omega, by go_num, HST.out⟩, by simp [intOf]; omega⟩
    · obtain rfl : k = n := by omega
      obtain ⟨a0, a1, -, -⟩ := id H.out.bel
      obtain ⟨z0, z1⟩ := H.out.row.cell k (by rw [H.out.len]; omega)
      have f0 := H.out.row.frozen (k * 2)
      have f1 := H.out.row.frozen (k * 2 + 1)
      have i2 : (k : Int) < (k : Int) + 1 := by omega
      have HF : Hid (PN B ((wr.setCell ⟨w.heap.size + 1, k * 2, none⟩ (.bool f.s)).setCell ⟨w.heap.size + 1, k * 2 + 1, none⟩ (.slice f.p f.n f.c)) (K + L + 1) (some ⟨w.heap.size + 1, 0, none⟩) (k + 1) (us.set k f) (mulp zs (lin x)) ∧ Below w.heap.size w ((wr.setCell ⟨w.heap.size + 1, k * 2, none⟩ (.bool f.s)).setCell ⟨w.heap.size + 1, k * 2 + 1, none⟩ (.slice f.p f.n f.c))) := by
        have hzl := HX.out.1.pn.zl
        have hml := mlin_len (zs := zs) x (by omega)
        refine ⟨⟨by simpa using H.out.len, by rw [hml, hzl], ?_, (H.out.row.set k f (by rw [H.out.len]; omega)).pl, from_new (by omega), fun j hj => ?_⟩, (H.out.bw.setCell (p := ⟨w.heap.size + 1, k * 2, none⟩) (by simp only; omega) _).setCell (p := ⟨w.heap.size + 1, k * 2 + 1, none⟩) (by simp only; omega) _⟩
        · rw [mlin_nrm x (by rw [HX.out.1.pn.nrm, hzl]), hml, hzl]
        · rcases Nat.lt_or_ge j k with h' | h'
          · rw [ge_set_other _ _ _ _ (by omega)]
            obtain ⟨a, b⟩ := H.out.ev j h'
            exact a.set2o fun h0 => (b h0).1
          · obtain rfl : j = k := by omega
            rw [ge_set_same _ _ _ (by rw [H.out.len]; omega), gx_mlin, gx_past zs _ (Nat.le_of_eq hzl) _ (Nat.le_refl _), Int.mul_zero, Int.sub_zero]
            exact (nv_up H.out.bv (by omega)).set2o fun h0 => (H.out.bo h0).1
      clear H
      go_wp2
      go_ret
      exact ⟨_, _, _, rfl, HF.out.1, HF.out.2⟩
end Go.Proofs.YtejnhpjejcpekaaGreatDoor
