/-
  upoly.takeTimes.
-/
import Derived.Test.YtgecfnoecmjacaaGreatDoorWfUuUx
import Derived.Test.YtgecfnoecmjacaaGreatDoorUmPqGaGbKp
import Derived.Test.YtgecfnoecmjacaaGreatDoorWbWc
import Derived.Test.YtgecfnoecmjacaaGreatDoorVuVvUdLnWrIb
import Derived.Deep.RegionHeld3
namespace Go.Proofs.YtgecfnoecmjacaaGreatDoor
open Go.RowKit
set_option linter.unusedVariables false
set_option linter.unusedSimpArgs false

theorem Sub_ev {w : World} {K L : Nat} {x y : Int} {e f : Ent} (h : EV w K x e) (k : EV w L y f) : Calls Tryz.prog 61 #[.agg #[.bool e.s, .slice e.p e.n e.c], .agg #[.bool f.s, .slice f.p f.n f.c]] w fun r w' => ∃ u : Ent, r = .returned (.agg #[.bool u.s, .slice u.p u.n u.c]) ∧ NV w.heap.size w' (K + L + 1) (x - y) u ∧ Below w.heap.size w w' := by
  obtain ⟨xs, h1, rfl, h3⟩ := h
  obtain ⟨ys, k1, rfl, k3⟩ := k
  refine (Sub_any e.s f.s e.p f.p e.n e.c f.n f.c xs ys w h1 k1).mono ?_
  rintro r w' ⟨s', p', n', zs, g1, g2, g3, g4⟩
  exact ⟨⟨s', p', n', n'⟩, g1, ⟨zs, g2, rfl, by show n' ≤ _; omega⟩, g4⟩
/-- The entries below T of a list that is written in block g; none lies in g or g2. -/
structure TR (wr : World) (g g2 T M : Nat) (us : List Ent) (F : Nat → Int) : Prop where
  row : RW wr g 26 us
  len : T ≤ us.length
  ev : ∀ t, t < T → EV wr M (F t) (ge us t) ∧ (0 < (ge us t).n → Off g (ge us t).p ∧ Off g2 (ge us t).p)
theorem TR.below {wr w' : World} {g g2 T M : Nat} {us : List Ent} {F : Nat → Int} (h : TR wr g g2 T M us F) (hb : Below wr.heap.size wr w') : TR w' g g2 T M us F :=
  ⟨h.row.below hb h.row.lt, h.len, fun t ht => ⟨(h.ev t ht).1.below hb, (h.ev t ht).2⟩⟩
theorem TR.set {wr : World} {g g2 T M : Nat} {us : List Ent} {F G : Nat → Int} (h : TR wr g g2 T M us F) (t : Nat) (e : Ent) (ht : t < T) (hv : EV wr M (G t) e) (ho : 0 < e.n → Off g e.p ∧ Off g2 e.p) (hG : ∀ s, s < T → s ≠ t → G s = F s) :
    TR ((wr.setCell ⟨g, t * 2, none⟩ (.bool e.s)).setCell ⟨g, t * 2 + 1, none⟩ (.slice e.p e.n e.c)) g g2 T M (us.set t e) G := by
  have hl := h.len
  refine ⟨h.row.set t e (by omega), by simpa using hl, fun s hs => ?_⟩
  by_cases he : s = t
  · subst he
    rw [ge_set_same _ _ _ (by omega)]
    exact ⟨hv.set2 fun h0 => (ho h0).1, ho⟩
  · rw [ge_set_other _ _ _ _ he, hG s hs he]
    exact ⟨(h.ev s hs).1.set2 fun h0 => ((h.ev s hs).2 h0).1, (h.ev s hs).2⟩
/-- What takeTimes makes of the entries, j of them done. -/
def tkf (F : Nat → Int) (x : Int) (ys : List Int) (o j t : Nat) : Int := if o ≤ t ∧ t < o + j then F t - x * gx ys (t - o) else F t
theorem tkf_zero (F : Nat → Int) (x : Int) (ys : List Int) (o t : Nat) : tkf F x ys o 0 t = F t := by rw [tkf, if_neg (by omega)]
theorem tkf_none (F : Nat → Int) (ys : List Int) (o j t : Nat) : tkf F 0 ys o j t = F t := by
  rw [tkf]
  split <;> simp
theorem tkf_same (F : Nat → Int) (x : Int) (ys : List Int) (o j : Nat) : tkf F x ys o (j + 1) (o + j) = tkf F x ys o j (o + j) - x * gx ys j := by
  rw [tkf, tkf, if_pos (by omega), if_neg (by omega), Nat.add_sub_cancel_left]
theorem tkf_other (F : Nat → Int) (x : Int) (ys : List Int) (o j t : Nat) (h : t ≠ o + j) : tkf F x ys o (j + 1) t = tkf F x ys o j t := by
  rw [tkf, tkf]
  by_cases h1 : o ≤ t ∧ t < o + j
  · rw [if_pos (by omega), if_pos h1]
  · rw [if_neg (by omega), if_neg h1]
theorem EV.le {w : World} {K L : Nat} {z : Int} {e : Ent} (h : EV w K z e) (hk : K ≤ L) : EV w L z e := by
  obtain ⟨xs, h1, h2, h3⟩ := h
  exact ⟨xs, h1, h2, Nat.le_trans h3 hk⟩
theorem grown2c {w v3 : World} {g o : Nat} {u v : Value} (h : w.grownBy v3 (some g)) : w.grownBy ((v3.setCell ⟨g, o, none⟩ u).setCell ⟨g, o + 1, none⟩ v) (some g) := grownBy_setCell (grownBy_setCell h _ _) _ _
theorem take_step {w wr v2 v3 : World} {g g2 o r j M M' K L : Nat} {us us' : List Ent} {F : Nat → Int} {q : Option Addr} {m mc : Nat} {fs : List Ent} {ys : List Int} {x : Int} {e e2 : Ent} (hT : TR wr g g2 (o + r) M us' (tkf F x ys o j)) (hP : PA wr L q m mc fs ys) (hX : Bx wr w.heap.size (.bool e.s) (.slice e.p e.n e.c)) (hG : w.grownBy wr (some g)) (hv : EV wr K x e) (hxo : 0 < e.n → Off g e.p) (hq : Off g q) (hqe : ∀ j, j < m → 0 < (ge fs j).n → Off g (ge fs j).p) (hgw : g < w.heap.size) (hg2 : g2 < w.heap.size) (hj : j < r) (hul : us'.length = us.length) (hM : M ≤ 200)
    (hbd : ∀ t, o ≤ t → t < o + r → ((F t - x * gx ys (t - o)).natAbs : Int) < pw M) (hV2 : Below wr.heap.size wr v2) (hb3 : Below v2.heap.size v2 v3) (hN : NV v2.heap.size v3 M' (tkf F x ys o j (o + j) - x * gx ys j) e2) :
    ∃ us'', us''.length = us.length ∧ TR ((v3.setCell ⟨g, (o + j) * 2, none⟩ (.bool e2.s)).setCell ⟨g, (o + j) * 2 + 1, none⟩ (.slice e2.p e2.n e2.c)) g g2 (o + r) M us'' (tkf F x ys o (j + 1)) ∧ PA ((v3.setCell ⟨g, (o + j) * 2, none⟩ (.bool e2.s)).setCell ⟨g, (o + j) * 2 + 1, none⟩ (.slice e2.p e2.n e2.c)) L q m mc fs ys ∧ EV ((v3.setCell ⟨g, (o + j) * 2, none⟩ (.bool e2.s)).setCell ⟨g, (o + j) * 2 + 1, none⟩ (.slice e2.p e2.n e2.c)) K x e ∧ Bx ((v3.setCell ⟨g, (o + j) * 2, none⟩ (.bool e2.s)).setCell ⟨g, (o + j) * 2 + 1, none⟩ (.slice e2.p e2.n e2.c)) w.heap.size (.bool e.s) (.slice e.p e.n e.c) ∧ w.grownBy ((v3.setCell ⟨g, (o + j) * 2, none⟩ (.bool e2.s)).setCell ⟨g, (o + j) * 2 + 1, none⟩ (.slice e2.p e2.n e2.c)) (some g) := by
  have hb := bnext' hV2 hb3
  rw [← tkf_same] at hN
  have hz : ((tkf F x ys o (j + 1) (o + j)).natAbs : Int) < pw M := by
    have := hbd (o + j) (by omega) (by omega)
    rw [tkf, if_pos (by omega)]
    exact this
  have hN' := hN.le hz
  have hs := hV2.size
  have hlt := hT.row.lt
  have hwl := block_lt_of_cell hX.c0
  have hoff : 0 < e2.n → Off g e2.p ∧ Off g2 e2.p := fun h0 => by
    obtain ⟨xs, k1, -⟩ := hN
    exact ⟨off_from k1.fr (by omega), off_from k1.fr (by simp at hwl; omega)⟩
  refine ⟨us'.set (o + j) e2, by simpa using hul, ?_, (hP.below hb).gset (fun _ => hq) hqe, (hv.below hb).set2 hxo, Bx_any (hX.later hb) (by omega), grown2c (grownBy_trans hG (grownBy_below hb _))⟩
  exact (hT.below hb).set (o + j) e2 (by omega) (hN'.ev (by omega)) hoff (fun s _ hne => tkf_other F x ys o j s hne)
set_option maxHeartbeats 4000000 in
set_option maxRecDepth 100000 in
/-- upoly.takeTimes. -/
theorem utake_any {w : World} {g g2 o r rc M K L : Nat} {us : List Ent} {F : Nat → Int} {q : Option Addr} {m mc : Nat} {fs : List Ent} {ys : List Int} {x : Int} {e : Ent} (h : TR w g g2 (o + r) M us F) (hg2 : g2 < w.heap.size) (k : PA w L q m mc fs ys) (hq : Off g q) (hqe : ∀ j, j < m → 0 < (ge fs j).n → Off g (ge fs j).p) (hx : EV w K x e) (hxo : 0 < e.n → Off g e.p) (hrm : r ≤ m) (hm : m ≤ 1000) (hr : r ≤ rc) (hrc : rc ≤ 9223372036854775807) (hK : K < 80) (hL : L < 80) (hM : M ≤ 200) (ho : o ≤ 100000)
    (hbd : ∀ t, o ≤ t → t < o + r → ((F t - x * gx ys (t - o)).natAbs : Int) < pw M) :
    Calls Tryz.prog 144 #[.slice (some ⟨g, o * 2, none⟩) r rc, .slice q m mc, .agg #[.bool e.s, .slice e.p e.n e.c]] w fun r' w' => ∃ us', r' = .returned (.tuple #[]) ∧ us'.length = us.length ∧ TR w' g g2 (o + r) M us' (tkf F x ys o r) ∧ w.grownBy w' (some g) := by
  have hfl := k.el
  have hyl := k.zl
  go_enter Tryz.func144, Tryz.ntmps144
  go_wp2_with fail
  have hal := bel_al (o := .cells #[.bool e.s, .slice e.p e.n e.c] 26) (Below.refl w.heap.size w)
  have hX1 : Bx (w.alloc (.cells #[.bool e.s, .slice e.p e.n e.c] 26)) w.heap.size (.bool e.s) (.slice e.p e.n e.c) := Bx.new _ _ _ rfl
  have hgw : g < w.heap.size := h.row.lt
  have h1 := h.below hal
  have k1 := k.below hal
  have hx1 := hx.below hal
  generalize w.alloc (.cells #[.bool e.s, .slice e.p e.n e.c] 26) = W1 at *
  refine (isZero_any hx1).mono ?_
  rintro r' v1 ⟨rfl, hb1⟩
  have hX2 := hX1.later hb1
  have hx2 := hx1.below hb1
  have h2 := h1.below hb1
  have k2 := k1.below hb1
  have hB2 := bnext' hal hb1
  clear hX1 hx1 h1 k1 hal hb1 h k hx
  have hcs : Hid (x = 0 ∨ ¬ x = 0) := Classical.em _
  rcases hcs.out with hz | hz
  · rw [decide_eq_true hz]
    have HZ : Hid (x = 0) := hz
    have HI : Hid (TR v1 g g2 (o + r) M us F ∧ Below w.heap.size w v1) := ⟨h2, hB2⟩
    clear hz hcs h2 k2 hx2 hX2 hB2 hbd hqe
    go_wp2
    (try simp only [Exit.inBlock, Exit.then])
    refine bodyPost_ret (results_none rfl _ _ _) rfl ?_
    refine ⟨us, rfl, rfl, ⟨HI.out.1.row, HI.out.1.len, fun t ht => ?_⟩, grownBy_below HI.out.2 _⟩
    rw [HZ.out, tkf_none]
    exact HI.out.1.ev t ht
  · rw [decide_eq_false hz]
    clear hz hcs
    have HQ : Hid (∀ j, j < m → 0 < (ge fs j).n → Off g (ge fs j).p) := hqe
    have HBD := (show Hid _ from hbd)
    clear hqe hbd
    have HA : Hid (PA v1 L q m mc fs ys ∧ TR v1 g g2 (o + r) M us F ∧ EV v1 K x e ∧ Bx v1 w.heap.size (.bool e.s) (.slice e.p e.n e.c) ∧ Below w.heap.size w v1) := ⟨k2, h2, hx2, hX2, hB2⟩
    clear k2 h2 hx2 hX2 hB2
    go_wp2_with fail
    go_loopw [6, 11] (fun jv kv wr => ∃ j : Nat, j ≤ r ∧ kv = .int .i64 j ∧ Hid (∃ us', us'.length = us.length ∧ TR wr g g2 (o + r) M us' (tkf F x ys o j) ∧ PA wr L q m mc fs ys ∧ EV wr K x e ∧ Bx wr w.heap.size (.bool e.s) (.slice e.p e.n e.c) ∧ w.grownBy wr (some g))) (fun _ kv _ => r - (intOf kv).toNat)
    case atStart => exact ⟨0, Nat.zero_le _, by go_num, us, rfl, ⟨HA.out.2.1.row, HA.out.2.1.len, fun t ht => by rw [tkf_zero]; exact HA.out.2.1.ev t ht⟩, HA.out.1, HA.out.2.2.1, HA.out.2.2.2.1, grownBy_below HA.out.2.2.2.2 _⟩
    case round =>
      clear HA
      obtain ⟨j, hj, rfl, HJ⟩ := hrel
      rcases Nat.lt_or_ge j r with hlt | hge
      · obtain ⟨us', hul, hT, hP, hv, hX, hG⟩ := HJ.out
        obtain ⟨c, s, hq', hd⟩ := hP.pl (by omega)
        subst hq'
        obtain ⟨d0, d1⟩ := hd j (by omega)
        have hu := hP.ev j (by omega)
        have hTl := hT.len
        have eo : o * 2 + j * 2 = (o + j) * 2 := by omega
        obtain ⟨x0, x1⟩ := hT.row.cell (o + j) (by omega)
        obtain ⟨a0, a1, -, -⟩ := id hX
        have HE : Hid (TR wr g g2 (o + r) M us' (tkf F x ys o j) ∧ PA wr L (some ⟨c, s, none⟩) m mc fs ys ∧ Bx wr w.heap.size (.bool e.s) (.slice e.p e.n e.c) ∧ w.grownBy wr (some g)) := ⟨hT, hP, hX, hG⟩
        have hjm : (j : Int) < (m : Int) := by omega
        have hjr : (j : Int) < (r : Int) := by omega
        clear hT hP hX hG HJ hd
        go_upto_region 5 with fail
        go_region_with (first
          | (go_at_call 69; refine (Mul_ev hv.drew hu.drew hK).mono ?_; rintro r' v2 ⟨e1, rfl, hN1, hb2⟩; have hV2 := undrew hb2; have hT2 := HE.out.1.below hV2; obtain ⟨y0, y1⟩ := hT2.row.cell (o + j) (by omega))
          | (go_at_call 61; refine (Sub_ev (hT2.ev (o + j) (by omega)).1 (hN1.ev (by omega))).mono ?_; rintro r' v3 ⟨e2, rfl, hN2, hb3⟩; have hT3 := hT2.below hb3; obtain ⟨z0, z1⟩ := hT3.row.cell (o + j) (by omega); have f0 := hT3.row.frozen ((o + j) * 2); have f1 := hT3.row.frozen ((o + j) * 2 + 1)))
        all_goals
          have hstep := take_step (us := us) HE.out.1 HE.out.2.1 HE.out.2.2.1 HE.out.2.2.2 hv hxo hq HQ.out hgw hg2 hlt hul hM HBD.out hV2 hb3 hN2
          have HST := (show Hid _ from hstep)
          clear hstep x0 x1 a0 a1 d0 d1 y0 y1 HE hN1 hN2 hT2 hT3 hv hu z0 z1 f0 f1
          go_wp2
          refine ⟨⟨j + 1, by omega, by go_num, HST.out⟩, by simp [intOf]; omega⟩
      · obtain rfl : j = r := by omega
        clear hge
        go_wp2
        go_end0
        obtain ⟨us', hul, hT, hP, hv, hX, hG⟩ := HJ.out
        exact ⟨us', rfl, hul, hT, hG⟩
end Go.Proofs.YtgecfnoecmjacaaGreatDoor
/-
  upoly.pack.
-/
namespace Go.Proofs.YtgecfnoecmjacaaGreatDoor
open Go.RowKit
set_option linter.unusedVariables false
set_option linter.unusedSimpArgs false

/-- copy of limbs into a row. -/
theorem copy_into (ty : TypeId) (w : World) (g off dl dc : Nat) (q : Option Addr) (m mc : Nat) (Z xs : List Int) (hg : Row w g 82 .u32 Z) (hX : Rd w q .u32 xs) (hl : xs.length = m) (hm : m ≤ dl) (hfit : off + m ≤ Z.length) :
    ∃ W', (Builtin.copy_ #[24, 24] ty #[.slice (some ⟨g, off, none⟩) dl dc, .slice q m mc]).run Tryz.prog w = .ok (.int .i64 m) W' ∧ Row W' g 82 .u32 (mid Z off xs) ∧ w.grownBy W' (some g) := by
  rcases Nat.eq_zero_or_pos m with h0 | h0
  · subst h0
    have : xs = [] := List.eq_nil_of_length_eq_zero hl
    subst this
    refine ⟨w, run_copy_none (P := Tryz.prog) _ 24 24 ty 82 _ _ dl dc 0 mc Tryz.underlying24 (by kernel_rfl) (by simp), ?_, grownBy_refl _ _⟩
    rw [mid]
    simpa using hg
  · obtain ⟨b, o, rfl, hc⟩ := hX (by omega)
    have hr := run_copy_row (P := Tryz.prog) w 24 24 ty 82 g off dl dc ⟨b, o, none⟩ m mc _ 82 (xs.map (Value.int .u32)) Tryz.underlying24 (by kernel_rfl) hg (by rw [List.length_map, hl]; exact (Nat.min_eq_left hm).symm) (Rd.src hc) (by rw [List.length_map, size_ca]; omega) (oneCell_ca _ _)
    rw [List.length_map, hl] at hr
    refine ⟨w.setRow g _, hr, ?_, ⟨rfl, rfl, rfl, by simp, fun k _ hk => setRow_other w g k _ (fun e => hk (by rw [e]))⟩⟩
    have e : (List.take off (ca .u32 Z).toList ++ xs.map (Value.int .u32) ++ List.drop (off + m) (ca .u32 Z).toList).toArray = ca .u32 (mid Z off xs) := by
      unfold ca mid
      rw [List.map_append, List.map_append, List.map_take, List.map_drop, hl]
    rw [e]
    exact setRow_heap w g _ _ _ _ hg
theorem step_copy_g {ops : Array Oper} {o : Oper} {a : Act} {w : World} {K : Act → World → Prop} {Q : Exit → Act → World → Prop} {E : Prop} (hgd : o.guard = none) (d s : Operand)
    (ho : o.op = .call { callee := .builtin .copy, args := #[d, s], argTypes := #[24, 24] }) (g off dl dc : Nat) (q : Option Addr) (m mc : Nat) (hd : a.eval d = .slice (some ⟨g, off, none⟩) dl dc) (hs : a.eval s = .slice q m mc)
    (Z xs : List Int) (hg : Row w g 82 .u32 Z) (hX : Rd w q .u32 xs) (hl : xs.length = m) (hm : m ≤ dl) (hfit : off + m ≤ Z.length)
    (h : ∀ w', Row w' g 82 .u32 (mid Z off xs) → w.grownBy w' (some g) → K (a.put o.dst (.int .i64 m)) w') :
    if Region.wanted o (yielded ops a.tmps) = true then Oper.wp Tryz.prog o a w K Q else E := by
  obtain ⟨W', e, h1, h2⟩ := copy_into o.type w g off dl dc q m mc Z xs hg hX hl hm hfit
  have hk := h W' h1 h2
  rw [if_pos (by simp [Region.wanted, hgd]), Oper.wp]
  simp [e, hd, hs, ho, builtin, invoke, resolve, execOp, Result.andThen]
  exact hk
/-- pack's two rows, k entries done. -/
structure PK (w wr : World) (ga gb W n k : Nat) (zs A Bl : List Int) : Prop where
  ra : Row wr ga 82 .u32 A
  rb : Row wr gb 82 .u32 Bl
  la : A.length = W * n
  lb : Bl.length = W * n
  ua : U32 A
  ub : U32 Bl
  za : ∀ j, W * k ≤ j → gx A j = 0
  zb : ∀ j, W * k ≤ j → gx Bl j = 0
  v : val A - val Bl = pkf W (gx zs) k
  ne : ga ≠ gb
  fa : w.heap.size < ga
  fb : w.heap.size < gb
  rx : Bx wr w.heap.size (.bool false) (.slice none 0 0)
  bw : Below w.heap.size w wr
theorem en_parts {w : World} {K : Nat} {z : Int} {e : Ent} (h : EN w K z e) : ∃ xs, Rd w e.p .u32 xs ∧ xs.length = e.n ∧ U32 xs ∧ ((e.s = false ∧ val xs = z) ∨ (e.s = true ∧ val xs = -z)) := by
  obtain ⟨xs, h1, h2, h3, h4, h5⟩ := h
  refine ⟨xs, h1.rd, h1.len, h1.u, ?_⟩
  cases hs : e.s <;> rw [hs] at h2 <;> simp [ival] at h2
  · exact .inl ⟨rfl, h2⟩
  · exact .inr ⟨rfl, by omega⟩
theorem PK.above {w wr v w' : World} {ga gb W n k : Nat} {zs A Bl xs : List Int} (h : PK w wr ga gb W n k zs A Bl) (hb : Below wr.heap.size wr v) (hu : U32 xs) (hv : val xs = gx zs k) (hl : xs.length ≤ W) (hk : k < n) (hr : Row w' ga 82 .u32 (mid A (W * k) xs)) (hg : v.grownBy w' (some ga)) : PK w w' ga gb W n (k + 1) zs (mid A (W * k) xs) Bl := by
  have h1 : W * (k + 1) ≤ W * n := Nat.mul_le_mul_left _ hk
  have h2 : W * (k + 1) = W * k + W := by rw [Nat.mul_add, Nat.mul_one]
  have hfit : W * k + xs.length ≤ A.length := by rw [h.la]; omega
  have hne := h.ne
  have hfa := h.fa
  refine ⟨hr, (h.rb.below hb h.rb.lt).kept hg (by simp; omega), by rw [mid_length _ _ _ hfit]; exact h.la, h.lb, u32_midz h.ua hu, h.ub, fun j hj => gx_midz hfit h.za j (by omega), fun j hj => h.zb j (by omega), ?_, h.ne, h.fa, h.fb, Bx.kept (h.rx.later hb) hg (by simp; omega), below_grown (bnext' h.bw hb) hg (by have := h.bw.size; have := hb.size; omega) (by omega)⟩
  rw [val_midz hfit h.za, pkf, ← h.v, hv, Int.mul_comm]
  omega
theorem PK.under {w wr v w' : World} {ga gb W n k : Nat} {zs A Bl xs : List Int} (h : PK w wr ga gb W n k zs A Bl) (hb : Below wr.heap.size wr v) (hu : U32 xs) (hv : val xs = -gx zs k) (hl : xs.length ≤ W) (hk : k < n) (hr : Row w' gb 82 .u32 (mid Bl (W * k) xs)) (hg : v.grownBy w' (some gb)) : PK w w' ga gb W n (k + 1) zs A (mid Bl (W * k) xs) := by
  have h1 : W * (k + 1) ≤ W * n := Nat.mul_le_mul_left _ hk
  have h2 : W * (k + 1) = W * k + W := by rw [Nat.mul_add, Nat.mul_one]
  have hfit : W * k + xs.length ≤ Bl.length := by rw [h.lb]; omega
  have hne := h.ne
  have hfb := h.fb
  refine ⟨(h.ra.below hb h.ra.lt).kept hg (by simp; omega), hr, h.la, by rw [mid_length _ _ _ hfit]; exact h.lb, h.ua, u32_midz h.ub hu, fun j hj => h.za j (by omega), fun j hj => gx_midz hfit h.zb j (by omega), ?_, h.ne, h.fa, h.fb, Bx.kept (h.rx.later hb) hg (by simp; omega), below_grown (bnext' h.bw hb) hg (by have := h.bw.size; have := hb.size; omega) (by omega)⟩
  rw [val_midz hfit h.zb, pkf, ← h.v, hv, Int.mul_neg, Int.mul_comm]
  omega
end Go.Proofs.YtgecfnoecmjacaaGreatDoor
/-
  upoly.pack.
-/
namespace Go.Proofs.YtgecfnoecmjacaaGreatDoor
open Go.RowKit
set_option linter.unusedVariables false
set_option linter.unusedSimpArgs false

set_option maxHeartbeats 4000000 in
set_option maxRecDepth 100000 in
/-- upoly.pack. -/
theorem pack_any {B : Nat} {w : World} {K : Nat} {p : Option Addr} {n : Nat} {es : List Ent} {zs : List Int} (h : PB B w K p n es zs) (W : Nat) (hW1 : 1 ≤ W) (hW : W ≤ 1000) (hn : n ≤ 1000) (hWe : ∀ j, j < n → zl (gx zs j) ≤ W) :
    Calls Tryz.prog 117 #[.slice p n n, .int .i64 W] w fun r w' => ∃ u : Ent, r = .returned (.agg #[.bool u.s, .slice u.p u.n u.c]) ∧ NV w.heap.size w' (W * n + W * n + 1) (pkf W (gx zs) n) u ∧ Below w.heap.size w w' := by
  obtain ⟨N, hN⟩ : ∃ N, N = W * n := ⟨_, rfl⟩
  have hNle : N ≤ 1000000 := by rw [hN]; exact Nat.mul_le_mul hW hn
  have e1 : (W : Int) * (n : Int) = (N : Int) := by rw [hN]; push_cast; rfl
  have HN : Hid (N = W * n) := hN
  rw [← hN]
  clear hN
  have hmk := mk_u32 N (by omega)
  have HX : Hid (PB B w K p n es zs ∧ ∀ j, j < n → zl (gx zs j) ≤ W) := ⟨h, hWe⟩
  clear h hWe
  go_enter Tryz.func117, Tryz.ntmps117
  go_wp2_with fail
  have hP0 : PK w (((w.alloc (.cells #[.bool false, .slice none 0 0] 26)).alloc (.cells (ca .u32 (zeros N)) 82)).alloc (.cells (ca .u32 (zeros N)) 82)) (w.heap.size + 1) (w.heap.size + 1 + 1) W n 0 zs (zeros N) (zeros N) := by
    refine ⟨?_, ?_, by rw [length_zeros]; exact HN.out, by rw [length_zeros]; exact HN.out, u32_zeros _, u32_zeros _, fun j _ => gx_zeros _ _, fun j _ => gx_zeros _ _, by rw [pkf]; omega, by omega, by omega, by omega, ((Bx.new _ _ _ rfl).alloc _).alloc _, bel_al (bel_al (bel_al (Below.refl _ _)))⟩
    · exact (Row.new1 w _ 82 .u32 (zeros N)).alloc _
    · exact Row.new2 w _ _ 82 .u32 (zeros N)
  have HP0 := (show Hid _ from hP0)
  generalize ((w.alloc (.cells #[.bool false, .slice none 0 0] 26)).alloc (.cells (ca .u32 (zeros N)) 82)).alloc (.cells (ca .u32 (zeros N)) 82) = W0 at *
  obtain ⟨ga, hga⟩ : ∃ ga, ga = w.heap.size + 1 := ⟨_, rfl⟩
  obtain ⟨gb, hgb⟩ : ∃ gb, gb = w.heap.size + 1 + 1 := ⟨_, rfl⟩
  rw [← hgb, ← hga] at HP0 ⊢
  clear hP0 hmk hga hgb
  go_loopw [7, 8, 9, 22] (fun _ _ _ kv wr => ∃ (k : Nat) (A Bl : List Int), k ≤ n ∧ kv = .int .i64 k ∧ Hid (PK w wr ga gb W n k zs A Bl)) (fun _ _ _ kv _ => n - (intOf kv).toNat)
  case atStart => exact ⟨0, zeros N, zeros N, Nat.zero_le _, by go_num, HP0.out⟩
  case round =>
    clear HP0
    obtain ⟨k, A, Bl, hk, rfl, H⟩ := hrel
    rcases Nat.lt_or_ge k n with hlt | hge
    · have hV := H.out
      have hPB := HX.out.1.below hV.bw
      obtain ⟨b, o, hp, hc⟩ := hPB.pl (by rw [hPB.el]; omega)
      subst hp
      obtain ⟨c0, c1⟩ := hc k (by rw [hPB.el]; omega)
      have hen := hPB.ev k hlt
      obtain ⟨z1, z2⟩ := hen.zl
      have hzw : (ge es k).n ≤ W := by rw [z1]; exact HX.out.2 k hlt
      obtain ⟨xs, r1, r2, r3, r4⟩ := en_parts hen
      obtain ⟨off, hoff⟩ : ∃ off, off = W * k := ⟨_, rfl⟩
      have hof1 : off + W ≤ N := by
        rw [hoff, HN.out]
        have : W * (k + 1) ≤ W * n := Nat.mul_le_mul_left _ hlt
        rw [Nat.mul_add, Nat.mul_one] at this
        exact this
      have e2 : (k : Int) * (W : Int) = (off : Int) := by rw [hoff, Int.mul_comm]; push_cast; rfl
      have HOF : Hid (off = W * k) := hoff
      have e3 : (off : Int) ≤ (N : Int) := by omega
      have e4 : IntKind.i64.wrap (off : Int) = (off : Int) := by rw [IntKind.wrap_i64]; omega
      have hlb : b < w.heap.size := by
        obtain ⟨b', o', hb', hl'⟩ := HX.out.1.pl.lt (by rw [HX.out.1.el]; omega)
        cases hb'
        exact hl'
      clear hc hPB hen z1 z2 hV hoff
      rcases r4 with ⟨hs, hv⟩ | ⟨hs, hv⟩
      · rw [hs] at c0
        clear hs
        have HV : Hid (val xs = gx zs k ∧ Rd wr (ge es k).p .u32 xs ∧ xs.length = (ge es k).n ∧ U32 xs) := ⟨hv, r1, r2, r3⟩
        clear hv r1 r2 r3
        go_upto_region 9 with fail
        have hal := bel_al (o := .cells #[.bool false, .slice (ge es k).p (ge es k).n (ge es k).c] 26) (Below.refl wr.heap.size wr)
        have hX1 : Bx (wr.alloc (.cells #[.bool false, .slice (ge es k).p (ge es k).n (ge es k).c] 26)) wr.heap.size (.bool false) (.slice (ge es k).p (ge es k).n (ge es k).c) := Bx.new _ _ _ rfl
        generalize wr.alloc (.cells #[.bool false, .slice (ge es k).p (ge es k).n (ge es k).c] 26) = W1 at *
        obtain ⟨q0, q1, -, -⟩ := hX1
        have hrow : Row W1.drew ga 82 .u32 A := (H.out.ra.below hal H.out.ra.lt).drew
        have hrd : Rd W1.drew (ge es k).p .u32 xs := (HV.out.2.1.below hal).drew
        have hlx := HV.out.2.2.1
        have hfit : off + (ge es k).n ≤ A.length := by rw [H.out.la, ← HN.out]; omega
        have hm : (ge es k).n ≤ N - off := by omega
        have HB1 : Hid (Below wr.heap.size wr W1.drew) := hal.drew
        have hne : ¬ N = off := by omega
        have hnei : ¬ (N : Int) = (off : Int) := by omega
        clear c0 c1 hal
        go_region_law (refine step_copy_g rfl (.tmp 35) (.tmp 37) rfl ga off (N - off) (N - off) (ge es k).p (ge es k).n (ge es k).c (by simp [Act.eval, Act.put]) (by simp [Act.eval, Act.put]) A xs hrow hrd hlx hm hfit ?_; intro w5 hr5 hg5)
        all_goals
          have hnx : ∃ A' B', PK w w5 ga gb W n (k + 1) zs A' B' := ⟨_, _, H.out.above HB1.out HV.out.2.2.2 HV.out.1 (by rw [hlx]; exact hzw) hlt (by rw [← HOF.out]; exact hr5) hg5⟩
          have HNX := (show Hid _ from hnx)
          clear hnx hr5 hg5 hrow hrd q0 q1
          go_wp2
          obtain ⟨A', B', hnx⟩ := HNX.out
          exact ⟨⟨k + 1, A', B', by omega, by go_num, hnx⟩, by simp [intOf]; omega⟩
      · rw [hs] at c0
        clear hs
        have HV : Hid (val xs = -gx zs k ∧ Rd wr (ge es k).p .u32 xs ∧ xs.length = (ge es k).n ∧ U32 xs) := ⟨hv, r1, r2, r3⟩
        clear hv r1 r2 r3
        go_upto_region 9 with fail
        have hal := bel_al (o := .cells #[.bool true, .slice (ge es k).p (ge es k).n (ge es k).c] 26) (Below.refl wr.heap.size wr)
        have hX1 : Bx (wr.alloc (.cells #[.bool true, .slice (ge es k).p (ge es k).n (ge es k).c] 26)) wr.heap.size (.bool true) (.slice (ge es k).p (ge es k).n (ge es k).c) := Bx.new _ _ _ rfl
        generalize wr.alloc (.cells #[.bool true, .slice (ge es k).p (ge es k).n (ge es k).c] 26) = W1 at *
        obtain ⟨q0, q1, -, -⟩ := hX1
        have hrow : Row W1.drew gb 82 .u32 Bl := (H.out.rb.below hal H.out.rb.lt).drew
        have hrd : Rd W1.drew (ge es k).p .u32 xs := (HV.out.2.1.below hal).drew
        have hlx := HV.out.2.2.1
        have hfit : off + (ge es k).n ≤ Bl.length := by rw [H.out.lb, ← HN.out]; omega
        have hm : (ge es k).n ≤ N - off := by omega
        have HB1 : Hid (Below wr.heap.size wr W1.drew) := hal.drew
        have hne : ¬ N = off := by omega
        have hnei : ¬ (N : Int) = (off : Int) := by omega
        clear c0 c1 hal
        go_region_law (refine step_copy_g rfl (.tmp 35) (.tmp 37) rfl gb off (N - off) (N - off) (ge es k).p (ge es k).n (ge es k).c (by simp [Act.eval, Act.put]) (by simp [Act.eval, Act.put]) Bl xs hrow hrd hlx hm hfit ?_; intro w5 hr5 hg5)
        all_goals
          have hnx : ∃ A' B', PK w w5 ga gb W n (k + 1) zs A' B' := ⟨_, _, H.out.under HB1.out HV.out.2.2.2 HV.out.1 (by rw [hlx]; exact hzw) hlt (by rw [← HOF.out]; exact hr5) hg5⟩
          have HNX := (show Hid _ from hnx)
          clear hnx hr5 hg5 hrow hrd q0 q1
          go_wp2
          obtain ⟨A', B', hnx⟩ := HNX.out
          exact ⟨⟨k + 1, A', B', by omega, by go_num, hnx⟩, by simp [intOf]; omega⟩
    · obtain rfl : k = n := by omega
      have hV := H.out
      have hai : AI wr (some ⟨ga, 0, none⟩) N N A := ⟨by rw [hV.la, HN.out], Nat.le_refl _, by unfold maxLen; omega, by omega, hV.ra.rd_all, hV.ua⟩
      have hbi : AI wr (some ⟨gb, 0, none⟩) N N Bl := ⟨by rw [hV.lb, HN.out], Nat.le_refl _, by unfold maxLen; omega, by omega, hV.rb.rd_all, hV.ub⟩
      have hsb := Sub_ev (e := ⟨false, some ⟨ga, 0, none⟩, N, N⟩) (f := ⟨false, some ⟨gb, 0, none⟩, N, N⟩) (K := N) (L := N) ⟨A, hai, rfl, Nat.le_refl _⟩ ⟨Bl, hbi, rfl, Nat.le_refl _⟩
      have ev : ival false A - ival false Bl = pkf W (gx zs) k := by simp only [ival]; exact hV.v
      rw [ev] at hsb
      have hrx := hV.rx
      have HB : Hid (Below w.heap.size w wr) := hV.bw
      have sR : w.heap.size < wr.heap.size := block_lt_of_cell hrx.c0
      clear H hV hai hbi ev hge
      go_wp2_with fail
      refine hsb.mono ?_
      rintro r w5 ⟨u, rfl, hN5, hb5⟩
      obtain ⟨r0, r1, f0, f1⟩ := hrx.later hb5
      have HN5 : Hid (NV wr.heap.size w5 (N + N + 1) (pkf W (gx zs) k) u) := hN5
      clear hsb hN5 hrx
      go_wp2
      refine bodyPost_ret (v := .agg #[.bool u.s, .slice u.p u.n u.c]) (by simp [results, Tryz.results117, go_sem, r0, r1]) rfl ⟨u, rfl, ?_, ?_⟩
      · exact (HN5.out.set2 (g := w.heap.size) (o := 0) sR _ _).mono (Nat.le_of_lt sR)
      · exact bset2 (bnext' HB.out hb5) (Nat.le_refl _) _ _
end Go.Proofs.YtgecfnoecmjacaaGreatDoor
