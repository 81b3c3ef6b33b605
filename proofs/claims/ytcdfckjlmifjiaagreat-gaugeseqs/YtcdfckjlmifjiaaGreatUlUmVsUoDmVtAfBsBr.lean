/-
  upoly.productByRows.
-/
import Derived.Test.YtcdfckjlmifjiaaGreatEqDpAaDcUk
import Derived.Test.YtcdfckjlmifjiaaGreatAzBlEeEfVuDlVvWxUpUqDkDbUiVqJpDjVkJo
import Derived.Test.YtcdfckjlmifjiaaGreatWiWjWvZeZfLh
import Derived.Deep.DeepFit
import Derived.Test.YtcdfckjlmifjiaaGreatViDsAeBpDhVdVeBq
import Derived.Test.YtcdfckjlmifjiaaGreatBnUjBoAhEkOaOcOd
import Derived.Test.YtcdfckjlmifjiaaGreatFlDxAxDnDoAc
namespace Go.Proofs.YtcdfckjlmifjiaaGreat
open Go.RowKit
set_option linter.unusedVariables false
set_option linter.unusedSimpArgs false

/-- The first rows of a product. -/
def ps (zs ys : List Int) : Nat → Nat → Int
  | 0, _ => 0
  | i + 1, t => ps zs ys i t + (if i ≤ t then gx zs i * gx ys (t - i) else 0)
/-- And the first entries of the next row. -/
def pj (zs ys : List Int) (i j t : Nat) : Int := ps zs ys i t + (if i ≤ t ∧ t < i + j then gx zs i * gx ys (t - i) else 0)
theorem pj_zero (zs ys : List Int) (i t : Nat) : pj zs ys i 0 t = ps zs ys i t := by
  rw [pj, if_neg (by omega), Int.add_zero]
theorem pj_all (zs ys : List Int) (i t : Nat) : pj zs ys i ys.length t = ps zs ys (i + 1) t := by
  rw [pj, ps]
  by_cases h : i ≤ t
  · rw [if_pos h]
    by_cases h2 : t < i + ys.length
    · rw [if_pos ⟨h, h2⟩]
    · rw [if_neg (by omega), gx_past ys ys.length (Nat.le_refl _) (t - i) (by omega), Int.mul_zero]
  · rw [if_neg (by omega), if_neg h]
theorem pj_succ_same (zs ys : List Int) (i j : Nat) : pj zs ys i (j + 1) (i + j) = pj zs ys i j (i + j) + gx zs i * gx ys j := by
  rw [pj, pj, if_pos (by omega), if_neg (by omega), Int.add_zero, Nat.add_sub_cancel_left]
theorem pj_succ_other (zs ys : List Int) (i j t : Nat) (h : t ≠ i + j) : pj zs ys i (j + 1) t = pj zs ys i j t := by
  rw [pj, pj]
  by_cases h1 : i ≤ t ∧ t < i + j
  · rw [if_pos (by omega), if_pos h1]
  · rw [if_neg (by omega), if_neg h1]
theorem ps_none (zs ys : List Int) (i t : Nat) (h : gx zs i = 0) : ps zs ys (i + 1) t = ps zs ys i t := by
  rw [ps, h]
  split <;> simp
theorem term_bd {x y : Int} {K L : Nat} (hx : (x.natAbs : Int) < pw K) (hy : (y.natAbs : Int) < pw L) : ((x * y).natAbs : Int) ≤ pw (K + L) := by
  rw [Int.natAbs_mul, pw_add]
  push_cast
  exact Int.mul_le_mul (by omega) (by omega) (by omega) (by have := pw_pos K; omega)
theorem ps_bd {zs ys : List Int} {K L : Nat} (hx : ∀ i, ((gx zs i).natAbs : Int) < pw K) (hy : ∀ i, ((gx ys i).natAbs : Int) < pw L) (i t : Nat) : ((ps zs ys i t).natAbs : Int) ≤ i * pw (K + L) := by
  induction i with
  | zero => simp [ps]
  | succ i ih =>
    rw [ps]
    have h1 := term_bd (hx i) (hy (t - i))
    have h2 := pw_pos (K + L)
    have e : ((i + 1 : Nat) : Int) * pw (K + L) = i * pw (K + L) + pw (K + L) := by push_cast; rw [Int.add_mul, Int.one_mul]
    rw [e]
    split <;> omega
theorem pj_bd {zs ys : List Int} {K L : Nat} (hx : ∀ i, ((gx zs i).natAbs : Int) < pw K) (hy : ∀ i, ((gx ys i).natAbs : Int) < pw L) (i j t : Nat) (hi : i ≤ 1000000) : ((pj zs ys i j t).natAbs : Int) < pw (K + L + 1) := by
  have h1 := ps_bd hx hy i t
  have h2 := term_bd (hx i) (hy (t - i))
  have h3 := pw_pos (K + L)
  have e : pw (K + L + 1) = 4294967296 * pw (K + L) := pw_succ _
  have h4 : (i : Int) * pw (K + L) ≤ 1000000 * pw (K + L) := Int.mul_le_mul_of_nonneg_right (by omega) (by omega)
  rw [pj, e]
  split <;> omega
theorem PA.gbd {w : World} {K : Nat} {p : Option Addr} {n nc : Nat} {es : List Ent} {zs : List Int} (h : PA w K p n nc es zs) : ∀ i, ((gx zs i).natAbs : Int) < pw K := fun i => by
  rcases Nat.lt_or_ge i n with hlt | hge
  · obtain ⟨xs, h1, h2, h3⟩ := h.ev i hlt
    have h4 := h1.lt (ge es i).s
    rw [h2] at h4
    have := pw_mono h3
    omega
  · rw [gx_past zs n (by rw [h.zl]; exact Nat.le_refl _) i hge]
    exact pw_pos K
/-- Behind some rows of a product. -/
def PrI (F : Nat → Int) (M g N : Nat) (W0 wr : World) : Prop :=
  ∃ es, Row2 wr g 50 es ∧ es.length = N ∧ (∀ t, t < N → NV (g + 1) wr M (F t) (ge es t)) ∧ Below g W0 wr
theorem NV.le {B : Nat} {w : World} {K M : Nat} {z : Int} {e : Ent} (h : NV B w K z e) (hz : (z.natAbs : Int) < pw M) : NV B w M z e := by
  obtain ⟨xs, h1, h2, h3⟩ := h
  exact ⟨xs, h1, h2, h1.le hz⟩
theorem Bx_any {w : World} {r g o : Nat} {a0 a1 u v : Value} (h : Bx w r a0 a1) (hne : r ≠ g) : Bx ((w.setCell ⟨g, o, none⟩ u).setCell ⟨g, o + 1, none⟩ v) r a0 a1 := by
  have e : ((w.setCell ⟨g, o, none⟩ u).setCell ⟨g, o + 1, none⟩ v).heap[r]? = w.heap[r]? := (heap_setCell_other _ _ r v hne).trans (heap_setCell_other _ _ r u hne)
  exact ⟨(World.cell?_of_block (a := ⟨r, 0, none⟩) e).trans h.c0, (World.cell?_of_block (a := ⟨r, 1, none⟩) e).trans h.c1, (World.frozen?_of_block (a := ⟨r, 0, none⟩) e).trans h.f0, (World.frozen?_of_block (a := ⟨r, 1, none⟩) e).trans h.f1⟩
/-- One entry of a row. -/
theorem rows_step {w W0 W2 v2 v3 : World} {M M' K N ga i j t : Nat} {zs ys : List Int} {us : List Ent} {e2 ea : Ent} {x : Int} (hR1 : Row2 W2 w.heap.size 50 us) (hul : us.length = N) (hev : ∀ t, t < N → NV (w.heap.size + 1) W2 M (pj zs ys i j t) (ge us t)) (hB1 : Below w.heap.size W0 W2)
    (hXa : Bx W2 ga (.bool ea.s) (.slice ea.p ea.n ea.c)) (hva : EV W2 K x ea) (hBw : Below w.heap.size w W2) (hga : w.heap.size < ga) (hoff : 0 < ea.n → Off w.heap.size ea.p) (hpb : ((pj zs ys i (j + 1) t).natAbs : Int) < pw M) (ht : t = i + j) (htN : t < N) (hsW : w.heap.size ≤ W0.heap.size) (hs0 : w.heap.size + 1 ≤ W0.heap.size)
    (hV2 : Below W2.heap.size W2 v2) (hb3 : Below v2.heap.size v2 v3) (hN2 : NV v2.heap.size v3 M' (pj zs ys i j t + gx zs i * gx ys j) e2) :
    PrI (pj zs ys i (j + 1)) M w.heap.size N W0 ((v3.setCell ⟨w.heap.size, t * 2, none⟩ (.bool e2.s)).setCell ⟨w.heap.size, t * 2 + 1, none⟩ (.slice e2.p e2.n e2.c)) ∧ Bx ((v3.setCell ⟨w.heap.size, t * 2, none⟩ (.bool e2.s)).setCell ⟨w.heap.size, t * 2 + 1, none⟩ (.slice e2.p e2.n e2.c)) ga (.bool ea.s) (.slice ea.p ea.n ea.c) ∧ EV ((v3.setCell ⟨w.heap.size, t * 2, none⟩ (.bool e2.s)).setCell ⟨w.heap.size, t * 2 + 1, none⟩ (.slice e2.p e2.n e2.c)) K x ea ∧ Below w.heap.size w ((v3.setCell ⟨w.heap.size, t * 2, none⟩ (.bool e2.s)).setCell ⟨w.heap.size, t * 2 + 1, none⟩ (.slice e2.p e2.n e2.c)) := by
  have hb := bnext' hV2 hb3
  have hR3 := hR1.below hb hR1.lt
  have hs1 := hB1.size
  have hs2 := hV2.size
  have hval : pj zs ys i j t + gx zs i * gx ys j = pj zs ys i (j + 1) t := by subst ht; exact (pj_succ_same zs ys i j).symm
  rw [hval] at hN2
  refine ⟨⟨us.set t e2, hR3.set t e2 (by omega), by simpa using hul, fun t' ht' => ?_, ?_⟩, Bx_any (hXa.later hb) (by omega), (hva.below hb).set2 hoff, ?_⟩
  · by_cases he : t' = t
    · subst he
      rw [ge_set_same _ _ _ (by omega)]
      exact ((hN2.le hpb).mono (by omega)).set2 (by omega) _ _
    · rw [ge_set_other _ _ _ _ he, pj_succ_other _ _ _ _ _ (by omega)]
      exact ((hev t' ht').below hb).set2 (by omega) _ _
  · exact ((hB1.trans (hb.mono (by omega))).setCell (p := ⟨w.heap.size, t * 2, none⟩) (Nat.le_refl _) _).setCell (p := ⟨w.heap.size, t * 2 + 1, none⟩) (Nat.le_refl _) _
  · exact ((hBw.trans (hb.mono hBw.size)).setCell (p := ⟨w.heap.size, t * 2, none⟩) (Nat.le_refl _) _).setCell (p := ⟨w.heap.size, t * 2 + 1, none⟩) (Nat.le_refl _) _
end Go.Proofs.YtcdfckjlmifjiaaGreat
/-
  upoly.product by rows, Mul of small polynomials.
-/
namespace Go.Proofs.YtcdfckjlmifjiaaGreat
open Go.RowKit
set_option linter.unusedVariables false
set_option linter.unusedSimpArgs false

/-- The product's entries. -/
def mulz (zs ys : List Int) : List Int := (List.range (zs.length + ys.length - 1)).map (ps zs ys zs.length)
theorem length_mulz (zs ys : List Int) : (mulz zs ys).length = zs.length + ys.length - 1 := by simp [mulz]
theorem gx_mulz (zs ys : List Int) (t : Nat) (h : t < zs.length + ys.length - 1) : gx (mulz zs ys) t = ps zs ys zs.length t := by
  rw [gx_mem _ _ (by rw [length_mulz]; exact h)]
  simp [mulz]
theorem ps_far (zs ys : List Int) (t : Nat) : ∀ i, i + ys.length ≤ t + 1 → ps zs ys i t = 0
  | 0, _ => rfl
  | i + 1, h => by
    rw [ps, ps_far zs ys t i (by omega), gx_past ys ys.length (Nat.le_refl _) (t - i) (by omega)]
    simp
theorem mulz_top {zs ys : List Int} (h1 : tlen zs = zs.length) (h2 : tlen ys = ys.length) (hz : 0 < zs.length) (hy : 0 < ys.length) : tlen (mulz zs ys) = zs.length + ys.length - 1 := by
  refine tlen_eq _ _ (fun j hj => gx_past _ _ (by rw [length_mulz]; exact Nat.le_refl _) j hj) (.inr ?_)
  rw [gx_mulz _ _ _ (by omega)]
  obtain ⟨a, ha⟩ : ∃ a, zs.length = a + 1 := ⟨zs.length - 1, by omega⟩
  rw [ha, ps, ps_far _ _ _ _ (by omega), if_pos (by omega)]
  have e1 := tlen_top zs (by omega)
  have e2 := tlen_top ys (by omega)
  rw [h1, ha] at e1
  rw [h2] at e2
  have e3 : a + 1 + ys.length - 1 - 1 - a = ys.length - 1 := by omega
  rw [e3]
  have e4 : a + 1 - 1 = a := by omega
  rw [e4] at e1
  rw [Int.zero_add]
  exact Int.mul_ne_zero e1 e2
end Go.Proofs.YtcdfckjlmifjiaaGreat
/-
  ashlarref3.Mul.
-/
namespace Go.Proofs.YtcdfckjlmifjiaaGreat
open Go.RowKit
set_option linter.unusedVariables false
set_option linter.unusedSimpArgs false

theorem mk_rpoly (n : Nat) (h : n ≤ 1000000000) (w : World) : (Instr.makeSlice 42 (.int .i64 n) (.int .i64 n)).run Tryz.prog w =
    .ok (.slice (some ⟨w.heap.size, 0, none⟩) n n) (w.alloc (.cells (ca2 (ezs n)) 62)) := by
  have hi := info_ref
  cases hq : Tryz.prog.info? 62 with
  | none => rw [hq] at hi; cases hi
  | some i =>
    rw [hq] at hi
    simp only [Option.map_some, Option.some.injEq, Prod.mk.injEq] at hi
    obtain ⟨h1, h2, h3⟩ := hi
    have hr := run_make (P := Tryz.prog) w 42 62 i (.agg #[.bool false, .slice none 0 0]) Tryz.underlying42 hq h1 .i64 .i64 n n (by omega) (Int.le_refl _) (by rw [h3]; omega) (by omega)
    rw [Int.toNat_natCast, h2] at hr
    rw [hr]
    exact congrArg (fun c => Result.ok (Value.slice (some ⟨w.heap.size, 0, none⟩) n n) (w.alloc (.cells c 62))) (made_ez n)
/-- A number of the reference that lies from block B on. -/
def RF (B : Nat) (w : World) (N : Nat) (z : Int) (e : Ent) : Prop := RE w N z e ∧ Go.Proofs.YtcdfckjlmifjiaaGreat.From B e.p
theorem RF.below {B : Nat} {w w' : World} {N : Nat} {z : Int} {e : Ent} (h : RF B w N z e) (hb : Below w.heap.size w w') : RF B w' N z e := ⟨h.1.below hb, h.2⟩
theorem RF.mono {B B' : Nat} {w : World} {N : Nat} {z : Int} {e : Ent} (h : RF B w N z e) (hB : B' ≤ B) : RF B' w N z e := ⟨h.1, fun a ha => Nat.le_trans hB (h.2 a ha)⟩
theorem RF.set2 {B : Nat} {w : World} {N : Nat} {z : Int} {e : Ent} {g o : Nat} (h : RF B w N z e) (hg : g < B) (u v : Value) : RF B ((w.setCell ⟨g, o, none⟩ u).setCell ⟨g, o + 1, none⟩ v) N z e :=
  ⟨h.1.set2 (fun _ a ha => by have := h.2 a ha; omega), h.2⟩
theorem RF.le {B : Nat} {w : World} {N M : Nat} {z : Int} {e : Ent} (h : RF B w N z e) (hz : (z.natAbs : Int) < pd M) : RF B w M z e := by
  obtain ⟨⟨⟨ds, h1, h2, h3⟩, h4⟩, h5⟩ := h
  exact ⟨⟨⟨ds, h1, h2, h1.fit (by rw [h2]; exact hz)⟩, h4⟩, h5⟩
theorem RF.ez (B : Nat) (w : World) (N : Nat) : RF B w N 0 ez := ⟨⟨⟨[], ⟨rfl, Rd.nil, fun j => by simp [gx], by decide, fun _ => rfl, Nat.zero_le _⟩, by decide, Nat.zero_le _⟩, rfl⟩, fun a ha => by cases ha⟩
/-- Behind some rows of a product. -/
def PrR (F : Nat → Int) (M g N : Nat) (W0 wr : World) : Prop :=
  ∃ es, Row2 wr g 62 es ∧ es.length = N ∧ (∀ t, t < N → RF (g + 1) wr M (F t) (ge es t)) ∧ Below g W0 wr
/-- One entry of a row. -/
theorem rrows_step {w W0 W2 v2 v3 : World} {M M' N i j t : Nat} {zs ys : List Int} {us : List Ent} {e2 : Ent} (hR1 : Row2 W2 w.heap.size 62 us) (hul : us.length = N) (hev : ∀ t, t < N → RF (w.heap.size + 1) W2 M (pj zs ys i j t) (ge us t)) (hB1 : Below w.heap.size W0 W2)
    (hpb : ((pj zs ys i (j + 1) t).natAbs : Int) < pd M) (ht : t = i + j) (htN : t < N) (hs0 : w.heap.size + 1 ≤ W0.heap.size)
    (hV2 : Below W2.heap.size W2 v2) (hb3 : Below v2.heap.size v2 v3) (hN2 : RF v2.heap.size v3 M' (pj zs ys i j t + gx zs i * gx ys j) e2) :
    PrR (pj zs ys i (j + 1)) M w.heap.size N W0 ((v3.setCell ⟨w.heap.size, t * 2, none⟩ (.bool e2.s)).setCell ⟨w.heap.size, t * 2 + 1, none⟩ (.slice e2.p e2.n e2.c)) := by
  have hb := bnext' hV2 hb3
  have hR3 := hR1.below hb hR1.lt
  have hs1 := hB1.size
  have hs2 := hV2.size
  have hval : pj zs ys i j t + gx zs i * gx ys j = pj zs ys i (j + 1) t := by subst ht; exact (pj_succ_same zs ys i j).symm
  rw [hval] at hN2
  refine ⟨us.set t e2, hR3.set t e2 (by omega), by simpa using hul, fun t' ht' => ?_, ?_⟩
  · by_cases he : t' = t
    · subst he
      rw [ge_set_same _ _ _ (by omega)]
      exact ((hN2.le hpb).mono (by omega)).set2 (by omega) _ _
    · rw [ge_set_other _ _ _ _ he, pj_succ_other _ _ _ _ _ (by omega)]
      exact ((hev t' ht').below hb).set2 (by omega) _ _
  · exact ((hB1.trans (hb.mono (by omega))).setCell (p := ⟨w.heap.size, t * 2, none⟩) (Nat.le_refl _) _).setCell (p := ⟨w.heap.size, t * 2 + 1, none⟩) (Nat.le_refl _) _
end Go.Proofs.YtcdfckjlmifjiaaGreat
/-
  upoly.Mul of small polynomials.
-/
namespace Go.Proofs.YtcdfckjlmifjiaaGreat
open Go.RowKit
set_option linter.unusedVariables false
set_option linter.unusedSimpArgs false

theorem PnP.from {zs : List Int} {K : Nat} {w w' : World} {e : Ending} {w'' : World} (h : PnP zs K w' e w'') (hb : Below w.heap.size w w') : PnP zs K w e w'' := by
  obtain ⟨p, n, es, h1, h2, h3⟩ := h
  exact ⟨p, n, es, h1, h2.mono hb.size, bnext' hb h3⟩
end Go.Proofs.YtcdfckjlmifjiaaGreat
/-
  upoly.product where one is zero (out of Px).
-/
namespace Go.Proofs.YtcdfckjlmifjiaaGreat
open Go.RowKit
set_option linter.unusedVariables false
set_option linter.unusedSimpArgs false

/-- The product of two normal polynomials. -/
def mulp (zs ys : List Int) : List Int := if zs.length = 0 ∨ ys.length = 0 then [] else mulz zs ys
theorem pn_nil (B : Nat) (w : World) (K : Nat) : PN B w K none 0 [] [] := ⟨rfl, rfl, rfl, PL.nil, (fun a h => by cases h), fun j hj => by omega⟩
end Go.Proofs.YtcdfckjlmifjiaaGreat
/-
  ashlarref3.Mul.
-/
namespace Go.Proofs.YtcdfckjlmifjiaaGreat
open Go.RowKit
set_option linter.unusedVariables false
set_option linter.unusedSimpArgs false

theorem pr_nil (w : World) (N : Nat) : PR w N none 0 0 [] [] := ⟨rfl, rfl, Nat.le_refl _, Nat.zero_le _, PL.nil, fun j hj => by omega⟩
end Go.Proofs.YtcdfckjlmifjiaaGreat
/-
  The reference's operators: From, Add, Scale.
-/
namespace Go.Proofs.YtcdfckjlmifjiaaGreat
open Go.RowKit
set_option linter.unusedVariables false
set_option linter.unusedSimpArgs false

set_option maxHeartbeats 4000000 in
set_option maxRecDepth 100000 in
/-- ashlarref8.From. -/
theorem rFrom8_any {w : World} {B T K E D : Nat} {zss : List (List Int)} {h : Hdr} (H : HR D (EZ K E) w B T zss h) (hT : T ≤ w.heap.size) (hD : D ≤ 1000) (hE : E ≤ 1000) (hK : K ≤ 400) :
    Calls Tryz.prog 7 #[.slice h.p h.n h.c] w (OrP D (zss.map tr) (2 * K) E w) := by
  obtain ⟨I0, hi, hzz⟩ := Option.map_eq_some_iff.1 info_refP
  simp only [Prod.mk.injEq] at hzz
  obtain ⟨hz0, hz1, hz2⟩ := hzz
  have HI : Hid (Tryz.prog.info? 42 = some I0 ∧ I0.zero = some (.slice none 0 0) ∧ I0.size = 1 ∧ I0.bytes = 24) := ⟨hi, hz0, hz1, hz2⟩
  clear hi hz0 hz1 hz2
  obtain ⟨hs, k⟩ := H
  have HX : Hid (HRow D (EZ K E) w B T zss h hs ∧ T ≤ w.heap.size) := ⟨k, hT⟩
  have hn : h.n ≤ D := k.few
  have HL : Hid (zss.length = h.n) := k.tl
  obtain ⟨p, n, nc⟩ := h
  simp only at hn HL ⊢
  clear k hT
  go_enter Tryz.func7, Tryz.ntmps7
  go_wp2_with fail
  go_loopw [3, 4] (fun qv iv wr => ∃ (k : Nat) (ls : List Hdr), k ≤ n ∧ iv = .int .i64 k ∧ Hid (ls.length = k ∧ LH w.heap.size 42 (EY (2 * K) E) wr qv ls ((zss.take k).map tr) ∧ Below w.heap.size w wr)) (fun _ iv _ => n - (intOf iv).toNat)
  case atStart => exact ⟨0, [], Nat.zero_le _, by go_num, rfl, by rw [List.take_zero]; exact LH.nil _ _ _ _, Below.refl _ _⟩
  case round =>
    obtain ⟨k, ls, hk, rfl, G⟩ := hrel
    rcases Nat.lt_or_ge k n with hlt | hge
    · have g4 := G.out.2.2
      obtain ⟨b, o, hp, hc⟩ := HX.out.1.hl (by rw [HX.out.1.el]; show 0 < n; omega)
      simp only at hp
      subst hp
      have c0 := hc k (by rw [HX.out.1.el]; exact hlt)
      have c1 : wr.cell? ⟨b, o + k, none⟩ = some (gh hs k).val := by rw [g4.cell (block_lt_of_cell c0)]; exact c0
      have hE2 := (lasts_EZ K E).below (HX.out.1.ev k hlt) HX.out.2 g4
      generalize gh hs k = hd at c1 hE2
      obtain ⟨p2, n2, nc2⟩ := hd
      simp only [Hdr.val] at c1
      obtain ⟨es2, hP2, hd3, -, -⟩ := hE2
      simp only at hP2 hd3
      have i1 : (k : Int) < (n : Int) := by omega
      have hcall := rpFrom_new hP2 (by omega) hK
      have hlen : Hid (tlen (gt zss k) ≤ E) := by have h1 := tlen_le (gt zss k); have h2 := hP2.zl; show _ ≤ _; omega
      clear hc c0 hP2 g4
      go_wp2_with fail
      go_fit hcall
      rintro e w1 ⟨q, m, fs, rfl, hR1, hF1, ht1, hF2, hb1⟩
      have HE : Hid (EY (2 * K) E w1 wr.heap.size w1.heap.size (tr (gt zss k)) ⟨q, m, m⟩) := ey_of_from hR1 hF1 ht1 hF2 (by rw [← ht1, tlen_tr]; exact hlen.out)
      clear c1 hR1 hF1 hF2 hcall
      obtain ⟨hi, hz0, hz1, hz2⟩ := HI.out
      have hown0 := own_below G.out.2.1.own hb1
      rw [G.out.1] at hown0
      have HO : Hid (w1.ownsRow w.heap.size 42 1 u3 k (ls.map Hdr.val)) := hown0
      have hsz : w.heap.size ≤ w1.heap.size := Nat.le_trans G.out.2.2.size hb1.size
      clear hown0
      go_wp2_with (refine wpList_append_lies _ rfl _ _ 29 rfl w.heap.size 42 I0 (.slice none 0 0) 1 24 Tryz.underlying29 hi hz0 hz1 hz2 rfl (by decide) u3 k (ls.map Hdr.val) rfl (HO.out.alloc _) ⟨w1.heap.size, 0, none⟩ 1 1 [.slice q m m] rfl rfl ?_ (fun x hx => by simp at hx; subst hx; rfl) (by decide) (by unfold maxLen; omega) (by omega) (by simp; omega) _ rfl ?_; exact World.news_of_block (heap_alloc_new w1 _); intro g cap w3 hown3 hgrow3 hat3 hlt3; have hB3 : Below w.heap.size w w3 := ((bnext' G.out.2.2 hb1).alloc hsz _).grown hgrow3 (by simp; omega) (fun q hq => (HO.out.lt q hq).1); have HA : Hid (LH w.heap.size 42 (EY (2 * K) E) w3 (.slice (some ⟨g, 0, none⟩) (k + 1) cap) (ls ++ [⟨q, m, m⟩]) ((zss.take k).map tr ++ [tr (gt zss k)])) := LH.app (lasts_EY (2 * K) E) G.out.1 G.out.2.1 hb1 HE.out (Nat.le_refl _) (Nat.le_refl _) G.out.2.2.size hown3 hgrow3 hat3; clear hown3 hgrow3 hat3)
      refine ⟨⟨k + 1, ls ++ [⟨q, m, m⟩], by omega, by go_num, by have := G.out.1; simp; omega, by rw [take_map_snoc tr zss k (by have := HL.out; omega)]; exact HA.out, hB3⟩, by simp [intOf]; omega⟩
    · obtain rfl : k = n := by omega
      obtain ⟨hel, hLR, hB⟩ := G.out
      rw [List.take_of_length_le (by have := HL.out; omega)] at hLR
      obtain ⟨q, cap, hv, hRow⟩ := hLR.row (lasts_EY (2 * K) E) (D := D) (by omega)
      subst hv
      have ht2 := rTrim8_any ⟨_, hRow⟩ (Nat.le_refl _) (by omega) (by omega)
      have HRW : Hid (HRow D (EY (2 * K) E) wr w.heap.size wr.heap.size (zss.map tr) ⟨q, ls.length, cap⟩ ls ∧ Below w.heap.size w wr) := ⟨hRow, hB⟩
      simp only at ht2
      rw [hel] at ht2 ⊢
      clear hRow hLR hB G
      go_wp2_with fail
      go_fit ht2
      rintro e w1 ⟨rfl, hb1⟩
      have HR' : Hid (OrP D (zss.map tr) (2 * K) E w (.returned (.slice q (olen (zss.map tr)) (olen (zss.map tr)))) w1) := trim_end HRW.out.1 HRW.out.2 hb1
      clear hb1 ht2
      generalize olen (zss.map tr) = m at *
      go_wp2
      go_ret
      exact HR'.out
theorem pr_bdk {w : World} {K : Nat} {p : Option Addr} {n nc : Nat} {es : List Ent} {zs : List Int} (h : PR w (2 * K) p n nc es zs) (i : Nat) : ((gx zs i).natAbs : Int) < pw K := by
  have e : pd (2 * K) = pw K := by unfold pd pw; rw [Int.pow_mul]; rfl
  rcases Nat.lt_or_ge i n with hi | hi
  · rw [← e]
    exact (h.ev i hi).1.bd
  · have h0 : gx zs i = 0 := by simp [gx, h.zl, hi]
    rw [h0]
    exact pw_pos K
theorem mulp_le (zs ys : List Int) : (mulp zs ys).length ≤ zs.length + ys.length := by
  unfold mulp
  split
  · simp
  · rw [length_mulz]; omega
end Go.Proofs.YtcdfckjlmifjiaaGreat
/-
  Bits of trimmed polynomials (out of Dt).
-/
namespace Go.Proofs.YtcdfckjlmifjiaaGreat
open Go.RowKit
set_option linter.unusedVariables false
set_option linter.unusedSimpArgs false

theorem pb_trim (zs : List Int) : pb (tr zs) = pb zs := by
  have step : ∀ j, tlen zs ≤ j → j ≤ zs.length → pb (zs.take j) = pb (tr zs) := by
    intro j
    induction j with
    | zero => intro h1 _; have : tlen zs = 0 := by omega
              rw [tr, this]
    | succ j ih =>
      intro h1 h2
      rcases Nat.lt_or_ge j (tlen zs) with h | h
      · have : tlen zs = j + 1 := by omega
        rw [tr, this]
      · rw [pb_take zs j (by omega), ih h (by omega), tlen_zero zs j h, show zb 0 = 0 from rfl, Nat.max_zero]
  have := step zs.length (tlen_le zs) (Nat.le_refl _)
  rw [List.take_length] at this
  exact this.symm
theorem pb_few {w : World} {K : Nat} {p : Option Addr} {n nc : Nat} {es : List Ent} {zs : List Int} (h : PA w K p n nc es zs) : pb zs ≤ 32 * K := by
  have key : ∀ j, j ≤ zs.length → pb (zs.take j) ≤ 32 * K := by
    intro j
    induction j with
    | zero => intro _; simp [pb]
    | succ j ih =>
      intro hj
      rw [pb_take zs j (by omega)]
      have h1 := ih (by omega)
      have h2 := zb_le (h.ev j (by have := h.zl; omega))
      omega
  have := key zs.length (Nat.le_refl _)
  rw [List.take_length] at this
  exact this
theorem pb_le_of (zs : List Int) (K : Nat) (h : ∀ j, j < zs.length → zb (gx zs j) ≤ K) : ∀ j, j ≤ zs.length → pb (zs.take j) ≤ K
  | 0, _ => by simp [pb]
  | j + 1, hj => by
    rw [pb_take zs j (by omega)]
    have := pb_le_of zs K h j (by omega)
    have := h j (by omega)
    omega
end Go.Proofs.YtcdfckjlmifjiaaGreat
/-
  Plain: normal forms (out of Al).
-/
namespace Go.Proofs.YtcdfckjlmifjiaaGreat
open Go.RowKit
set_option linter.unusedVariables false
set_option linter.unusedSimpArgs false

theorem length_oz (z : List (List Int)) : (oz z).length = olen z := by
  have := olen_le z
  simp [oz]
  omega
theorem tr_zero {a : List Int} (h : tlen a = 0) : tr a = [] := by
  rw [tr, h]
  rfl
theorem gt_oz (z : List (List Int)) (j : Nat) : gt (oz z) j = tr (gt z j) := by
  rcases Nat.lt_or_ge j (olen z) with h | h
  · have h1 : j < z.length := Nat.lt_of_lt_of_le h (olen_le z)
    simp [oz, gt, h, h1]
  · rw [gt_over0 _ _ (by rw [length_oz]; exact h), tr_zero (olen_zero z j h)]
theorem gt_mapt (z : List (List Int)) (j : Nat) : gt (z.map tr) j = tr (gt z j) := by
  rcases Nat.lt_or_ge j z.length with h | h
  · simp [gt, h]
  · rw [gt_over0 _ _ (by simpa using h), gt_over0 _ _ h]
    rfl
theorem olen_tlen {a b : List (List Int)} (h : ∀ j, tlen (gt a j) = tlen (gt b j)) : olen a = olen b := by
  refine olen_eq a (olen b) (fun j hj => by rw [h j]; exact olen_zero b j hj) ?_
  rcases Nat.eq_zero_or_pos (olen b) with h0 | h0
  · exact .inl h0
  · refine .inr ?_
    rw [h]
    intro e
    have h1 := tlen_top (b.map fun z => (tlen z : Int)) h0
    rw [gx_tlens] at h1
    apply h1
    show (tlen (gt b (olen b - 1)) : Int) = 0
    rw [e]
    rfl
theorem olen_mapt (z : List (List Int)) : olen (z.map tr) = olen z := olen_tlen fun j => by rw [gt_mapt, tlen_tr]
theorem otr_mapt (z : List (List Int)) : otr (z.map tr) = oz z := by rw [otr, olen_mapt, ← List.map_take]; rfl
theorem olen_oz (z : List (List Int)) : olen (oz z) = olen z := olen_tlen fun j => by rw [gt_oz, tlen_tr]
theorem otr_oz (z : List (List Int)) : otr (oz z) = oz z := by rw [otr, olen_oz, List.take_of_length_le (by rw [length_oz]; exact Nat.le_refl _)]
theorem odeg_low (zss : List (List Int)) : ∀ j, j ≤ zss.length → -1 ≤ odeg (zss.take j) := by
  intro j
  induction j with
  | zero => intro _; simp [odeg]
  | succ j ih =>
    intro hj
    have h1 := ih (by omega)
    rw [odeg_take zss j (by omega)]
    omega
theorem odeg_oz (z : List (List Int)) : odeg (oz z) = odeg z := by
  have key : ∀ j, odeg ((oz z).take j) = odeg (z.take j) := by
    intro j
    induction j with
    | zero => rfl
    | succ j ih =>
      rcases Nat.lt_or_ge j (olen z) with h | h
      · rw [odeg_take _ j (by rw [length_oz]; exact h), odeg_take _ j (Nat.lt_of_lt_of_le h (olen_le z)), ih, gt_oz, tlen_tr]
      · rw [List.take_of_length_le (by rw [length_oz]; omega)] at ih ⊢
        rcases Nat.lt_or_ge j z.length with h1 | h1
        · have h2 : -1 ≤ odeg (z.take j) := by
            have hb := odeg_low z j (by omega)
            exact hb
          rw [odeg_take _ j h1, ih, olen_zero z j h]
          simp only [Int.natCast_zero]
          omega
        · rw [List.take_of_length_le (by omega)] at ih ⊢
          exact ih
  have := key (max z.length (oz z).length)
  rw [List.take_of_length_le (by omega), List.take_of_length_le (by omega)] at this
  exact this
theorem obit_oz (z : List (List Int)) : obit (oz z) = obit z := by
  have key : ∀ j, obit ((oz z).take j) = obit (z.take j) := by
    intro j
    induction j with
    | zero => rfl
    | succ j ih =>
      rcases Nat.lt_or_ge j (olen z) with h | h
      · rw [obit_take _ j (by rw [length_oz]; exact h), obit_take _ j (Nat.lt_of_lt_of_le h (olen_le z)), ih, gt_oz, pb_trim]
      · rw [List.take_of_length_le (by rw [length_oz]; omega)] at ih ⊢
        rcases Nat.lt_or_ge j z.length with h1 | h1
        · have h2 : pb (gt z j) = 0 := by
            rw [← pb_trim, tr_zero (olen_zero z j h)]
            rfl
          rw [obit_take _ j h1, ih, h2]
          omega
        · rw [List.take_of_length_le (by omega)] at ih ⊢
          exact ih
  have := key (max z.length (oz z).length)
  rw [List.take_of_length_le (by omega), List.take_of_length_le (by omega)] at this
  exact this
end Go.Proofs.YtcdfckjlmifjiaaGreat
