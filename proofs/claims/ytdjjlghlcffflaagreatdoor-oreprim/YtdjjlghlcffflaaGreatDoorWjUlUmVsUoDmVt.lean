/-
  limbs.multiply, product, Mul: where one of the two has fewer than 80 limbs.
-/
import Derived.Test.YtdjjlghlcffflaaGreatDoorVqDcUjLeUkWi
import Derived.Test.YtdjjlghlcffflaaGreatDoorWdWeNi
import Derived.Test.YtdjjlghlcffflaaGreatDoorRpDkDlDbRiRjRgRkUi
import Derived.Test.YtdjjlghlcffflaaGreatDoorCyViDsAeVuWxUpUqRm
import Derived.Deep.DeepFit
namespace Go.Proofs.YtdjjlghlcffflaaGreatDoor
open Go.RowKit
set_option linter.unusedVariables false
set_option linter.unusedSimpArgs false
set_option maxHeartbeats 8000000
theorem multiply_small (g o cap : Nat) (Z : List Int) (p q : Option Addr) (n nc m mc : Nat) (xs ys : List Int) (w : World)
    (hz : o + (n + m) ≤ Z.length) (hcap : cap ≤ 1099511627776) (hn : n + m ≤ cap) (hR : Row w g 97 .u32 Z) (hZ : (Z.drop o).take (n + m) = zeros (n + m)) (hx : xs.length = n) (hy : ys.length = m)
    (hX : Rd w p .u32 xs) (hXu : U32 xs) (hY : Rd w q .u32 ys) (hYu : U32 ys) (hoffx : 0 < n → Off g p) (hoffy : 0 < m → Off g q) (h80 : n < 80 ∨ m < 80) :
    Calls Tryz.prog 201 #[.slice (some ⟨g, o, none⟩) (n + m) cap, .slice p n nc, .slice q m mc] w fun e w' => ∃ R, e = .returned (.tuple #[]) ∧ R.length = n + m ∧ U32 R ∧ val R = val xs * val ys ∧ Row w' g 97 .u32 (mid Z o R) ∧ w.grownBy w' (some g) := by
  by_cases hlt : n < m
  · have h1 : (n : Int) < m := by omega
    have h2 : (n : Int) < 80 := by omega
    go_enter Tryz.func201, Tryz.ntmps201
    go_wp2_with fail
    have hmr := multiplyRows_any g o cap Z q p m mc n nc ys xs w (by omega) hcap (by omega) hR (by rw [Nat.add_comm m n]; exact hZ) hy hx hY hYu hX hXu hoffy hoffx
    rw [Nat.add_comm m n] at hmr
    refine hmr.mono ?_
    rintro e w' ⟨R, rfl, r1, r2, r3, r4, r5⟩
    go_wp2
    go_end0
    exact ⟨R, rfl, r1, r2, by rw [r3, Int.mul_comm], r4, r5⟩
  · have h1 : ¬ (n : Int) < m := by omega
    have h2 : (m : Int) < 80 := by omega
    go_enter Tryz.func201, Tryz.ntmps201
    go_wp2_with fail
    refine (multiplyRows_any g o cap Z p q n nc m mc xs ys w hz hcap hn hR hZ hx hy hX hXu hY hYu hoffx hoffy).mono ?_
    rintro e w' ⟨R, rfl, r1, r2, r3, r4, r5⟩
    go_wp2
    go_end0
    exact ⟨R, rfl, r1, r2, r3, r4, r5⟩
theorem product_small (p q : Option Addr) (n nc m mc : Nat) (xs ys : List Int) (w : World) (hn : n ≤ 100000000) (hm : m ≤ 100000000) (hx : xs.length = n) (hy : ys.length = m)
    (hX : Rd w p .u32 xs) (hXu : U32 xs) (hY : Rd w q .u32 ys) (hYu : U32 ys) (h80 : n < 80 ∨ m < 80) :
    Calls Tryz.prog 174 #[.slice p n nc, .slice q m mc] w fun e w' => ∃ R, e = .returned (.slice (some ⟨w.heap.size, 0, none⟩) (n + m) (n + m)) ∧ R.length = n + m ∧ U32 R ∧ val R = val xs * val ys ∧ Row w' w.heap.size 97 .u32 R ∧ Below w.heap.size w w' := by
  have hmk := mk_u32 (n + m) (by omega)
  have ec : ((n + m : Nat) : Int) = (n : Int) + (m : Int) := by omega
  rw [ec] at hmk
  clear ec
  go_enter Tryz.func174, Tryz.ntmps174
  go_wp2_with fail
  refine (multiply_small w.heap.size 0 (n + m) (zeros (n + m)) p q n nc m mc xs ys _ (by rw [length_zeros]; omega) (by omega) (Nat.le_refl _) (Row.new w _ _ _) (by rw [List.drop_zero, List.take_of_length_le (by rw [length_zeros]; omega)]) hx hy (hX.alloc _) hXu (hY.alloc _) hYu (fun h => hX.off (Nat.le_refl _) (by omega)) (fun h => hY.off (Nat.le_refl _) (by omega)) h80).mono ?_
  rintro e w' ⟨R, rfl, r1, r2, r3, r4, r5⟩
  go_wp2
  go_ret
  rw [mid_zero _ _ (by rw [r1, length_zeros])] at r4
  exact ⟨R, rfl, r1, r2, r3, r4, below_grown ((Below.refl _ _).alloc (Nat.le_refl _) _) r5 (by simp) (Nat.le_refl _)⟩
theorem ival_mul (s t : Bool) (xs ys zs : List Int) (h : val zs = val xs * val ys) : ival (s != t) zs = ival s xs * ival t ys := by
  cases s <;> cases t <;> simp [ival, h, Int.neg_mul, Int.mul_neg]
theorem Mul_small (s t : Bool) (p q : Option Addr) (n nc m mc : Nat) (xs ys : List Int) (w : World) (hA : AI w p n nc xs) (hB : AI w q m mc ys) (h80 : n < 80 ∨ m < 80) :
    Calls Tryz.prog 134 #[.agg #[.bool s, .slice p n nc], .agg #[.bool t, .slice q m mc]] w fun e w' => ∃ s' p' n' zs, e = .returned (.agg #[.bool s', .slice p' n' n']) ∧ NI w.heap.size w' s' p' n' zs (ival s xs * ival t ys) ∧ n' ≤ n + m ∧ Below w.heap.size w w' := by
  have tx := tlen_le xs
  have ty := tlen_le ys
  have lx := hA.len
  have ly := hB.len
  have bx := hA.sml
  have by' := hB.sml
  go_enter Tryz.func134, Tryz.ntmps134
  go_wp2
  have hX := boxes3' w (.bool s) (.slice p n nc) (.bool t) (.slice q m mc) (.bool false) (.slice none 0 0) 50 50 50
  generalize ((w.alloc (Obj.cells #[Value.bool s, Value.slice p n nc] 50)).alloc (Obj.cells #[Value.bool t, Value.slice q m mc] 50)).alloc (Obj.cells #[Value.bool false, Value.slice none 0 0] 50) = W at *
  have hA' := hA.below hX.below
  have hB' := hB.below hX.below
  have k0 := hX.ca0
  have k1 := hX.ca1
  have k2 := hX.cb0
  have k3 := hX.cb1
  go_region_held3 (fun w' => w'.cell? ⟨w.heap.size, 0, none⟩ = some (.bool s) ∧ w'.cell? ⟨w.heap.size, 1, none⟩ = some (.slice p n nc) ∧ w'.cell? ⟨w.heap.size + 1, 0, none⟩ = some (.bool t) ∧ w'.cell? ⟨w.heap.size + 1, 1, none⟩ = some (.slice q m mc)) (first | (simp [go_sem, *]; done) | exact keepc4 (by assumption) (by assumption))
    (first
      | (go_at_call_of 78 (Value.slice p n nc); refine (trim_any p n nc xs _ hA.len hA.cap hA.bnd ?_).mono ?_; exact hA'.rd.drew; rintro e w' ⟨rfl, rfl⟩)
      | (go_at_call_of 78 (Value.slice q m mc); refine (trim_any q m mc ys _ hB.len hB.cap hB.bnd ?_).mono ?_; exact hB'.rd.drew; rintro e w' ⟨rfl, rfl⟩)
      | (go_at_call 174; refine (product_small p q (tlen xs) nc (tlen ys) mc (tr xs) (tr ys) _ (by omega) (by omega) (length_tr xs) (length_tr ys) ?_ (u32_tr hA.u) ?_ (u32_tr hB.u) (by omega)).mono ?_; exact hA'.tr.rd.drew; exact hB'.tr.rd.drew; rintro e w1 ⟨zs, rfl, z1, z2, z3, z4, hb1⟩)
      | (go_at_call 115; refine (number_any (s != t) (some ⟨W.heap.size, 0, none⟩) (tlen xs + tlen ys) (tlen xs + tlen ys) zs _ z1 (Nat.le_refl _) (by unfold maxLen; omega) ?_).mono ?_; exact z4.rd_all; rintro e w2 ⟨rfl, hb2⟩; obtain ⟨c0, c1, f0, f1⟩ := resbox ((undrew hb1).trans (hb2.mono (undrew hb1).size)) hX.cr0 hX.cr1 hX.fr0 hX.fr1))
  go_wp2
  have hsz := hX.size
  have hend := end_number (z := ival s xs * ival t ys) (sg := s != t) (u := .bool (nsg (s != t) zs)) (v := .slice (nad (some ⟨W.heap.size, 0, none⟩) zs) (tlen zs) (tlen zs)) hX.below (r := w.heap.size + 1 + 1) (by omega) (by omega) z4 z2 (undrew hb1) hb2 (by rw [val_tr, val_tr] at z3; exact ival_mul s t xs ys zs z3)
  refine bodyPost_ret (v := .agg #[.bool (nsg (s != t) zs), .slice (nad (some ⟨W.heap.size, 0, none⟩) zs) (tlen zs) (tlen zs)]) (by simp [results, Tryz.results134, go_sem, c0, c1]) rfl ⟨_, _, _, tr zs, rfl, hend.1, ?_, hend.2⟩
  have := tlen_le zs
  omega
def ps (zs ys : List Int) : Nat → Nat → Int
  | 0, _ => 0
  | i + 1, t => ps zs ys i t + (if i ≤ t then gx zs i * gx ys (t - i) else 0)
def pj (zs ys : List Int) (i j t : Nat) : Int := ps zs ys i t + (if i ≤ t ∧ t < i + j then gx zs i * gx ys (t - i) else 0)
theorem pj_zero (zs ys : List Int) (i t : Nat) : pj zs ys i 0 t = ps zs ys i t := by
  rw [pj, if_neg (by omega), Int.add_zero]
theorem pj_all (zs ys : List Int) (i t : Nat) : pj zs ys i ys.length t = ps zs ys (i + 1) t := by
  rw [pj, ps]
  by_cases h : i ≤ t
  · rw [if_pos h]
    by_cases h2 : t < i + ys.length
    · rw [if_pos ⟨h, h2⟩]
    · rw [if_neg (by omega), gx_past ys ys.length (Nat.le_refl _) (t - i) (by omega), Int.mul_zero]
  · rw [if_neg (by omega), if_neg h]
theorem pj_succ_same (zs ys : List Int) (i j : Nat) : pj zs ys i (j + 1) (i + j) = pj zs ys i j (i + j) + gx zs i * gx ys j := by
  rw [pj, pj, if_pos (by omega), if_neg (by omega), Int.add_zero, Nat.add_sub_cancel_left]
theorem pj_succ_other (zs ys : List Int) (i j t : Nat) (h : t ≠ i + j) : pj zs ys i (j + 1) t = pj zs ys i j t := by
  rw [pj, pj]
  by_cases h1 : i ≤ t ∧ t < i + j
  · rw [if_pos (by omega), if_pos h1]
  · rw [if_neg (by omega), if_neg h1]
theorem ps_none (zs ys : List Int) (i t : Nat) (h : gx zs i = 0) : ps zs ys (i + 1) t = ps zs ys i t := by
  rw [ps, h]
  split <;> simp
theorem term_bd {x y : Int} {K L : Nat} (hx : (x.natAbs : Int) < pw K) (hy : (y.natAbs : Int) < pw L) : ((x * y).natAbs : Int) ≤ pw (K + L) := by
  rw [Int.natAbs_mul, pw_add]
  push_cast
  exact Int.mul_le_mul (by omega) (by omega) (by omega) (by have := pw_pos K; omega)
theorem ps_bd {zs ys : List Int} {K L : Nat} (hx : ∀ i, ((gx zs i).natAbs : Int) < pw K) (hy : ∀ i, ((gx ys i).natAbs : Int) < pw L) (i t : Nat) : ((ps zs ys i t).natAbs : Int) ≤ i * pw (K + L) := by
  induction i with
  | zero => simp [ps]
  | succ i ih =>
    rw [ps]
    have h1 := term_bd (hx i) (hy (t - i))
    have h2 := pw_pos (K + L)
    have e : ((i + 1 : Nat) : Int) * pw (K + L) = i * pw (K + L) + pw (K + L) := by push_cast; rw [Int.add_mul, Int.one_mul]
    rw [e]
    split <;> omega
theorem pj_bd {zs ys : List Int} {K L : Nat} (hx : ∀ i, ((gx zs i).natAbs : Int) < pw K) (hy : ∀ i, ((gx ys i).natAbs : Int) < pw L) (i j t : Nat) (hi : i ≤ 1000000) : ((pj zs ys i j t).natAbs : Int) < pw (K + L + 1) := by
  have h1 := ps_bd hx hy i t
  have h2 := term_bd (hx i) (hy (t - i))
  have h3 := pw_pos (K + L)
  have e : pw (K + L + 1) = 4294967296 * pw (K + L) := pw_succ _
  have h4 : (i : Int) * pw (K + L) ≤ 1000000 * pw (K + L) := Int.mul_le_mul_of_nonneg_right (by omega) (by omega)
  rw [pj, e]
  split <;> omega
theorem PA.gbd {w : World} {K : Nat} {p : Option Addr} {n nc : Nat} {es : List Ent} {zs : List Int} (h : PA w K p n nc es zs) : ∀ i, ((gx zs i).natAbs : Int) < pw K := fun i => by
  rcases Nat.lt_or_ge i n with hlt | hge
  · obtain ⟨xs, h1, h2, h3⟩ := h.ev i hlt
    have h4 := h1.lt (ge es i).s
    rw [h2] at h4
    have := pw_mono h3
    omega
  · rw [gx_past zs n (by rw [h.zl]; exact Nat.le_refl _) i hge]
    exact pw_pos K
theorem Mul_ev {w : World} {K L : Nat} {x y : Int} {e f : Ent} (h : EV w K x e) (k : EV w L y f) (hK : K < 80) : Calls Tryz.prog 134 #[.agg #[.bool e.s, .slice e.p e.n e.c], .agg #[.bool f.s, .slice f.p f.n f.c]] w fun r w' => ∃ u : Ent, r = .returned (.agg #[.bool u.s, .slice u.p u.n u.c]) ∧ NV w.heap.size w' (K + L) (x * y) u ∧ Below w.heap.size w w' := by
  obtain ⟨xs, h1, rfl, h3⟩ := h
  obtain ⟨ys, k1, rfl, k3⟩ := k
  refine (Mul_small e.s f.s e.p f.p e.n e.c f.n f.c xs ys w h1 k1 (.inl (by omega))).mono ?_
  rintro r w' ⟨s', p', n', zs, g1, g2, g3, g4⟩
  exact ⟨⟨s', p', n', n'⟩, g1, ⟨zs, g2, rfl, by show n' ≤ _; omega⟩, g4⟩
theorem NV.le {B : Nat} {w : World} {K M : Nat} {z : Int} {e : Ent} (h : NV B w K z e) (hz : (z.natAbs : Int) < pw M) : NV B w M z e := by
  obtain ⟨xs, h1, h2, h3⟩ := h
  exact ⟨xs, h1, h2, h1.le hz⟩
theorem Bx_any {w : World} {r g o : Nat} {a0 a1 u v : Value} (h : Bx w r a0 a1) (hne : r ≠ g) : Bx ((w.setCell ⟨g, o, none⟩ u).setCell ⟨g, o + 1, none⟩ v) r a0 a1 := by
  have e : ((w.setCell ⟨g, o, none⟩ u).setCell ⟨g, o + 1, none⟩ v).heap[r]? = w.heap[r]? := (heap_setCell_other _ _ r v hne).trans (heap_setCell_other _ _ r u hne)
  exact ⟨(World.cell?_of_block (a := ⟨r, 0, none⟩) e).trans h.c0, (World.cell?_of_block (a := ⟨r, 1, none⟩) e).trans h.c1, (World.frozen?_of_block (a := ⟨r, 0, none⟩) e).trans h.f0, (World.frozen?_of_block (a := ⟨r, 1, none⟩) e).trans h.f1⟩
def mulz (zs ys : List Int) : List Int := (List.range (zs.length + ys.length - 1)).map (ps zs ys zs.length)
theorem length_mulz (zs ys : List Int) : (mulz zs ys).length = zs.length + ys.length - 1 := by simp [mulz]
theorem gx_mulz (zs ys : List Int) (t : Nat) (h : t < zs.length + ys.length - 1) : gx (mulz zs ys) t = ps zs ys zs.length t := by
  rw [gx_mem _ _ (by rw [length_mulz]; exact h)]
  simp [mulz]
theorem ps_far (zs ys : List Int) (t : Nat) : ∀ i, i + ys.length ≤ t + 1 → ps zs ys i t = 0
  | 0, _ => rfl
  | i + 1, h => by
    rw [ps, ps_far zs ys t i (by omega), gx_past ys ys.length (Nat.le_refl _) (t - i) (by omega)]
    simp
theorem mulz_top {zs ys : List Int} (h1 : tlen zs = zs.length) (h2 : tlen ys = ys.length) (hz : 0 < zs.length) (hy : 0 < ys.length) : tlen (mulz zs ys) = zs.length + ys.length - 1 := by
  refine tlen_eq _ _ (fun j hj => gx_past _ _ (by rw [length_mulz]; exact Nat.le_refl _) j hj) (.inr ?_)
  rw [gx_mulz _ _ _ (by omega)]
  obtain ⟨a, ha⟩ : ∃ a, zs.length = a + 1 := ⟨zs.length - 1, by omega⟩
  rw [ha, ps, ps_far _ _ _ _ (by omega), if_pos (by omega)]
  have e1 := tlen_top zs (by omega)
  have e2 := tlen_top ys (by omega)
  rw [h1, ha] at e1
  rw [h2] at e2
  have e3 : a + 1 + ys.length - 1 - 1 - a = ys.length - 1 := by omega
  rw [e3]
  have e4 : a + 1 - 1 = a := by omega
  rw [e4] at e1
  rw [Int.zero_add]
  exact Int.mul_ne_zero e1 e2
theorem mk_rpoly (n : Nat) (h : n ≤ 1000000000) (w : World) : (Instr.makeSlice 31 (.int .i64 n) (.int .i64 n)).run Tryz.prog w =
    .ok (.slice (some ⟨w.heap.size, 0, none⟩) n n) (w.alloc (.cells (ca2 (ezs n)) 65)) := by
  have hi := info_ref
  cases hq : Tryz.prog.info? 65 with
  | none => rw [hq] at hi; cases hi
  | some i =>
    rw [hq] at hi
    simp only [Option.map_some, Option.some.injEq, Prod.mk.injEq] at hi
    obtain ⟨h1, h2, h3⟩ := hi
    have hr := run_make (P := Tryz.prog) w 31 65 i (.agg #[.bool false, .slice none 0 0]) Tryz.underlying31 hq h1 .i64 .i64 n n (by omega) (Int.le_refl _) (by rw [h3]; omega) (by omega)
    rw [Int.toNat_natCast, h2] at hr
    rw [hr]
    exact congrArg (fun c => Result.ok (Value.slice (some ⟨w.heap.size, 0, none⟩) n n) (w.alloc (.cells c 65))) (made_ez n)
def RF (B : Nat) (w : World) (N : Nat) (z : Int) (e : Ent) : Prop := RE w N z e ∧ Go.Proofs.YtdjjlghlcffflaaGreatDoor.From B e.p
theorem RF.below {B : Nat} {w w' : World} {N : Nat} {z : Int} {e : Ent} (h : RF B w N z e) (hb : Below w.heap.size w w') : RF B w' N z e := ⟨h.1.below hb, h.2⟩
theorem RF.mono {B B' : Nat} {w : World} {N : Nat} {z : Int} {e : Ent} (h : RF B w N z e) (hB : B' ≤ B) : RF B' w N z e := ⟨h.1, fun a ha => Nat.le_trans hB (h.2 a ha)⟩
theorem RF.set2 {B : Nat} {w : World} {N : Nat} {z : Int} {e : Ent} {g o : Nat} (h : RF B w N z e) (hg : g < B) (u v : Value) : RF B ((w.setCell ⟨g, o, none⟩ u).setCell ⟨g, o + 1, none⟩ v) N z e :=
  ⟨h.1.set2 (fun _ a ha => by have := h.2 a ha; omega), h.2⟩
theorem RF.le {B : Nat} {w : World} {N M : Nat} {z : Int} {e : Ent} (h : RF B w N z e) (hz : (z.natAbs : Int) < pd M) : RF B w M z e := by
  obtain ⟨⟨⟨ds, h1, h2, h3⟩, h4⟩, h5⟩ := h
  exact ⟨⟨⟨ds, h1, h2, h1.fit (by rw [h2]; exact hz)⟩, h4⟩, h5⟩
theorem RF.ez (B : Nat) (w : World) (N : Nat) : RF B w N 0 ez := ⟨⟨⟨[], ⟨rfl, Rd.nil, fun j => by simp [gx], by decide, fun _ => rfl, Nat.zero_le _⟩, by decide, Nat.zero_le _⟩, rfl⟩, fun a ha => by cases ha⟩
def PrR (F : Nat → Int) (M g N : Nat) (W0 wr : World) : Prop :=
  ∃ es, Row2 wr g 65 es ∧ es.length = N ∧ (∀ t, t < N → RF (g + 1) wr M (F t) (ge es t)) ∧ Below g W0 wr
theorem rrows_step {w W0 W2 v2 v3 : World} {M M' N i j t : Nat} {zs ys : List Int} {us : List Ent} {e2 : Ent} (hR1 : Row2 W2 w.heap.size 65 us) (hul : us.length = N) (hev : ∀ t, t < N → RF (w.heap.size + 1) W2 M (pj zs ys i j t) (ge us t)) (hB1 : Below w.heap.size W0 W2)
    (hpb : ((pj zs ys i (j + 1) t).natAbs : Int) < pd M) (ht : t = i + j) (htN : t < N) (hs0 : w.heap.size + 1 ≤ W0.heap.size)
    (hV2 : Below W2.heap.size W2 v2) (hb3 : Below v2.heap.size v2 v3) (hN2 : RF v2.heap.size v3 M' (pj zs ys i j t + gx zs i * gx ys j) e2) :
    PrR (pj zs ys i (j + 1)) M w.heap.size N W0 ((v3.setCell ⟨w.heap.size, t * 2, none⟩ (.bool e2.s)).setCell ⟨w.heap.size, t * 2 + 1, none⟩ (.slice e2.p e2.n e2.c)) := by
  have hb := bnext' hV2 hb3
  have hR3 := hR1.below hb hR1.lt
  have hs1 := hB1.size
  have hs2 := hV2.size
  have hval : pj zs ys i j t + gx zs i * gx ys j = pj zs ys i (j + 1) t := by subst ht; exact (pj_succ_same zs ys i j).symm
  rw [hval] at hN2
  refine ⟨us.set t e2, hR3.set t e2 (by omega), by simpa using hul, fun t' ht' => ?_, ?_⟩
  · by_cases he : t' = t
    · subst he
      rw [ge_set_same _ _ _ (by omega)]
      exact ((hN2.le hpb).mono (by omega)).set2 (by omega) _ _
    · rw [ge_set_other _ _ _ _ he, pj_succ_other _ _ _ _ _ (by omega)]
      exact ((hev t' ht').below hb).set2 (by omega) _ _
  · exact ((hB1.trans (hb.mono (by omega))).setCell (p := ⟨w.heap.size, t * 2, none⟩) (Nat.le_refl _) _).setCell (p := ⟨w.heap.size, t * 2 + 1, none⟩) (Nat.le_refl _) _
set_option maxRecDepth 100000 in
theorem rpMul_somen {w : World} {A B K L : Nat} {p q : Option Addr} {n nc m mc : Nat} {es fs : List Ent} {zs ys : List Int} (h : PR w A p n nc es zs) (k : PR w B q m mc fs ys) (hn : n ≤ 1000) (hm : m ≤ 1000) (hn1 : 1 ≤ n) (hm1 : 1 ≤ m) (hA : A ≤ 200) (hB : B ≤ 200) (hX : ∀ i, ((gx zs i).natAbs : Int) < pw K) (hY : ∀ i, ((gx ys i).natAbs : Int) < pw L) (hKL : K + L ≤ 100) :
    Calls Tryz.prog 27 #[.slice p n nc, .slice q m mc] w (PrF (tr (mulz zs ys)) (2 * (K + L + 1)) w) := by
  have hel := h.el
  have hfl := k.el
  have hzl := h.zl
  have hyl := k.zl
  obtain ⟨N, hN⟩ : ∃ N, N = n + m - 1 := ⟨_, rfl⟩
  have hNI : (n : Int) + (m : Int) - 1 = (N : Int) := by omega
  have w1 : IntKind.i64.wrap ((n : Int) + (m : Int)) = (n : Int) + (m : Int) := by rw [IntKind.wrap_i64]; omega
  have w2 : IntKind.i64.wrap (N : Int) = (N : Int) := by rw [IntKind.wrap_i64]; omega
  have g1 : ((n : Int) == 0) = false := by rw [beq_eq_false_iff_ne]; omega
  have g2 : ((m : Int) == 0) = false := by rw [beq_eq_false_iff_ne]; omega
  have g3 : ¬ (n : Int) = 0 := by omega
  have g4 : ¬ (m : Int) = 0 := by omega
  have HN : Hid (N = n + m - 1) := hN
  have hN3 : N ≤ 2000 := by omega
  obtain ⟨S, hS⟩ : ∃ S, S = 2 * (K + L + 1) := ⟨_, rfl⟩
  rw [← hS]
  have HS : Hid (S = 2 * (K + L + 1)) := hS
  have hS2 : S ≤ 202 := by omega
  clear hN hS
  have hmk := mk_rpoly N (by omega)
  have HX := (show Hid (∀ i, ((gx zs i).natAbs : Int) < pw K) from hX)
  have HY := (show Hid (∀ i, ((gx ys i).natAbs : Int) < pw L) from hY)
  clear hX hY
  go_enter Tryz.func27, Tryz.ntmps27
  go_wp2_with fail
  have hR0 := Row2.new w 65 (ezs N)
  have hW0 : Below w.heap.size w (w.alloc (.cells (ca2 (ezs N)) 65)) := (Below.refl _ _).alloc (Nat.le_refl _) _
  have hs0 : w.heap.size + 1 ≤ (w.alloc (.cells (ca2 (ezs N)) 65)).heap.size := by simp
  generalize w.alloc (.cells (ca2 (ezs N)) 65) = W0 at *
  clear hmk
  go_loopw [6, 7] (fun iv jv wr => ∃ i : Nat, i ≤ n ∧ iv = .int .i64 i ∧ Hid (PrR (ps zs ys i) S w.heap.size N W0 wr)) (fun iv _ _ => n - (intOf iv).toNat)
  case atStart => exact ⟨0, Nat.zero_le _, by go_num, ezs N, hR0, length_ezs N, fun t ht => by rw [ge_ezs]; exact RF.ez _ _ _, Below.refl _ _⟩
  case round =>
    obtain ⟨i, hi, rfl, H⟩ := hrel
    rcases Nat.lt_or_ge i n with hlt | hge
    · have i1 : (i : Int) < (n : Int) := by omega
      go_wp2_with fail
      go_loopw [7] (fun jv w3 => ∃ j : Nat, j ≤ m ∧ jv = .int .i64 j ∧ Hid (PrR (pj zs ys i j) S w.heap.size N W0 w3)) (fun jv _ => m - (intOf jv).toNat)
      case atStart =>
        obtain ⟨es', hR, hel', hev, hB⟩ := H.out
        exact ⟨0, Nat.zero_le _, by go_num, es', hR, hel', fun t ht => by rw [pj_zero]; exact hev t ht, hB⟩
      case round =>
        obtain ⟨j, hj, rfl, HJ⟩ := hrel
        rcases Nat.lt_or_ge j m with hjm | hjm
        · obtain ⟨us, hR1, hul, hev, hB1⟩ := HJ.out
          have hBw : Below w.heap.size w wr := hW0.trans hB1
          have hPA := h.below hBw
          have hQA := k.below hBw
          obtain ⟨b, o, hp, hc⟩ := hPA.pl (by omega)
          obtain ⟨c, r, hq, hd⟩ := hQA.pl (by omega)
          subst hp hq
          obtain ⟨c0, c1⟩ := hc i (by omega)
          obtain ⟨d0, d1⟩ := hd j (by omega)
          have hv := hPA.ev i hlt
          have hu := hQA.ev j hjm
          have j1 : (j : Int) < (m : Int) := by omega
          obtain ⟨t, ht⟩ : ∃ t, t = i + j := ⟨_, rfl⟩
          have hwt : IntKind.i64.wrap ((i : Int) + (j : Int)) = (t : Int) := by rw [IntKind.wrap_i64]; omega
          have htN : t < N := by have := HN.out; omega
          have HT : Hid (t = i + j) := ht
          obtain ⟨x0, x1⟩ := hR1.cell t (by omega)
          have HE : Hid (∀ t, t < N → RF (w.heap.size + 1) wr S (pj zs ys i j t) (ge us t)) := hev
          have hpb : Hid (((pj zs ys i (j + 1) t).natAbs : Int) < pd S) := by
            show _ < _
            rw [HS.out, pd_two]
            exact pj_bd HX.out HY.out i (j + 1) t (by omega)
          have hmu := rMul_e hv.drew hu.drew (by omega) (by omega)
          clear ht hev hc hd hPA hQA HJ
          go_wp2_with fail
          go_region_with (first
            | (go_at_call 65; go_fit hmu; rintro r v2 ⟨e1, rfl, hN1, hF1, hb2⟩; have hV2 := undrew hb2; have hR2 := hR1.below hV2 hR1.lt; obtain ⟨y0, y1⟩ := hR2.cell t (by omega); have had := rAdd_e ((HE.out t htN).1.below hV2) hN1 (by omega) (by omega))
            | (go_at_call 64; go_fit had; rintro r v3 ⟨e2, rfl, hN2, hF2, hb3⟩; have hR3 := hR2.below hb3 hR2.lt; obtain ⟨z0, z1⟩ := hR3.cell t (by omega); have f0 := hR3.frozen (t * 2); have f1 := hR3.frozen (t * 2 + 1)))
          all_goals
            have hstep := rrows_step (zs := zs) (ys := ys) (i := i) (j := j) hR1 hul HE.out hB1 hpb.out HT.out htN hs0 hV2 hb3 ⟨hN2, hF2⟩
            have HST := (show Hid _ from hstep)
            clear hstep x0 x1 y0 y1 c0 c1 d0 d1 hR1 hB1 HE hN1 hN2 hR2 hR3 hv hu hmu had
            go_wp2
            refine ⟨⟨j + 1, by omega, by go_num, HST.out⟩, by simp [intOf]; omega⟩
        · obtain rfl : j = m := by omega
          have HQ : Hid (PrR (ps zs ys (i + 1)) S w.heap.size N W0 wr) := by
            obtain ⟨us, hR, hul, hev, hB⟩ := HJ.out
            exact ⟨us, hR, hul, fun t ht => by rw [← pj_all, hyl]; exact hev t ht, hB⟩
          clear HJ hjm
          go_wp2
          refine ⟨⟨i + 1, by omega, by go_num, HQ.out⟩, by simp [intOf]; omega⟩
    · obtain rfl : i = n := by omega
      obtain ⟨us, hR, hul, hev, hB⟩ := H.out
      have hvl := length_mulz zs ys
      have hPR : PR wr S (some ⟨w.heap.size, 0, none⟩) N N us (mulz zs ys) := ⟨hul, by have := HN.out; omega, Nat.le_refl _, by unfold maxLen; omega, hR.pl, fun t ht => by
        rw [gx_mulz _ _ _ (by have := HN.out; omega), hzl]
        exact (hev t ht).1⟩
      have HB : Hid (Below w.heap.size w wr) := hW0.trans hB
      have HEV : Hid (∀ t, t < N → Go.Proofs.YtdjjlghlcffflaaGreatDoor.From w.heap.size (ge us t).p) := fun t ht a ha => Nat.le_trans (Nat.le_succ _) ((hev t ht).2 a ha)
      clear H hge hR hev hB
      go_wp2_with fail
      refine (rTrim_any S _ N N us (mulz zs ys) _ hPR (by omega)).mono ?_
      rintro e w1 ⟨rfl, hb1⟩
      have HP : Hid (PR wr S (some ⟨w.heap.size, 0, none⟩) N N us (mulz zs ys)) := hPR
      clear hPR
      go_wp2
      go_ret
      have htl := tlen_le (mulz zs ys)
      have hvk := HP.out.zl
      have hT := (HP.out.below hb1).take (tlen (mulz zs ys)) (tlen (mulz zs ys)) (by omega) (Nat.le_refl _) (by omega)
      refine ⟨_, tlen (mulz zs ys), us.take (tlen (mulz zs ys)), rfl, hT, (fun a ha => by cases ha; exact Nat.le_refl _), tlen_tr _, fun j hj h0 => ?_, bnext' HB.out hb1⟩
      rw [ge_take _ _ _ hj]
      exact HEV.out j (by omega)
theorem PnP.from {zs : List Int} {K : Nat} {w w' : World} {e : Ending} {w'' : World} (h : PnP zs K w' e w'') (hb : Below w.heap.size w w') : PnP zs K w e w'' := by
  obtain ⟨p, n, es, h1, h2, h3⟩ := h
  exact ⟨p, n, es, h1, h2.mono hb.size, bnext' hb h3⟩
def mulp (zs ys : List Int) : List Int := if zs.length = 0 ∨ ys.length = 0 then [] else mulz zs ys
theorem pn_nil (B : Nat) (w : World) (K : Nat) : PN B w K none 0 [] [] := ⟨rfl, rfl, rfl, PL.nil, (fun a h => by cases h), fun j hj => by omega⟩
theorem pr_nil (w : World) (N : Nat) : PR w N none 0 0 [] [] := ⟨rfl, rfl, Nat.le_refl _, Nat.zero_le _, PL.nil, fun j hj => by omega⟩
set_option maxRecDepth 100000 in
theorem rpMul_nil (w : World) (N : Nat) (p q : Option Addr) (n m nc mc : Nat) (hn : n ≤ 1000000) (hm : m ≤ 1000000) (h : n = 0 ∨ m = 0) :
    Calls Tryz.prog 27 #[.slice p n nc, .slice q m mc] w (PrF [] N w) := by
  by_cases h0 : n = 0
  · subst h0
    go_enter Tryz.func27, Tryz.ntmps27
    go_wp2
    go_ret
    exact ⟨none, 0, [], rfl, pr_nil _ _, (fun a ha => by cases ha), rfl, fun j hj => absurd hj (Nat.not_lt_zero j), Below.refl _ _⟩
  · have h1 : m = 0 := by omega
    subst h1
    have g1 : ((n : Int) == 0) = false := by rw [beq_eq_false_iff_ne]; omega
    have g3 : ¬ (n : Int) = 0 := by omega
    go_enter Tryz.func27, Tryz.ntmps27
    go_wp2
    go_ret
    exact ⟨none, 0, [], rfl, pr_nil _ _, (fun a ha => by cases ha), rfl, fun j hj => absurd hj (Nat.not_lt_zero j), Below.refl _ _⟩
theorem rpMul_new {w : World} {A B K L : Nat} {p q : Option Addr} {n nc m mc : Nat} {es fs : List Ent} {zs ys : List Int} (h : PR w A p n nc es zs) (k : PR w B q m mc fs ys) (hz : tlen zs = zs.length) (hy : tlen ys = ys.length) (hn : n ≤ 1000) (hm : m ≤ 1000) (hA : A ≤ 200) (hB : B ≤ 200) (hX : ∀ i, ((gx zs i).natAbs : Int) < pw K) (hY : ∀ i, ((gx ys i).natAbs : Int) < pw L) (hKL : K + L ≤ 100) :
    Calls Tryz.prog 27 #[.slice p n nc, .slice q m mc] w (PrF (mulp zs ys) (2 * (K + L + 1)) w) := by
  rw [mulp, h.zl, k.zl]
  by_cases h0 : n = 0 ∨ m = 0
  · rw [if_pos h0]
    exact rpMul_nil w _ p q n m nc mc (by omega) (by omega) h0
  · rw [if_neg h0]
    have hzl := h.zl
    have hyl := k.zl
    have := rpMul_somen h k hn hm (by omega) (by omega) hA hB hX hY hKL
    rwa [tr_of_tlen (by rw [mulz_top hz hy (by omega) (by omega), length_mulz])] at this
theorem rpMul_any {w : World} {A B K L : Nat} {p q : Option Addr} {n nc m mc : Nat} {es fs : List Ent} {zs ys : List Int} (h : PR w A p n nc es zs) (k : PR w B q m mc fs ys) (hz : tlen zs = zs.length) (hy : tlen ys = ys.length) (hn : n ≤ 1000) (hm : m ≤ 1000) (hA : A ≤ 200) (hB : B ≤ 200) (hX : ∀ i, ((gx zs i).natAbs : Int) < pw K) (hY : ∀ i, ((gx ys i).natAbs : Int) < pw L) (hKL : K + L ≤ 100) :
    Calls Tryz.prog 27 #[.slice p n nc, .slice q m mc] w (PrP (mulp zs ys) (2 * (K + L + 1)) w) :=
  (rpMul_new h k hz hy hn hm hA hB hX hY hKL).mono fun _ _ h => h.any
end Go.Proofs.YtdjjlghlcffflaaGreatDoor
