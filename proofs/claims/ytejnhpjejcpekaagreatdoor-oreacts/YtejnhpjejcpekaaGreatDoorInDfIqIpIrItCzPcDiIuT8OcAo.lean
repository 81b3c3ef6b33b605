/-
  Plain facts on division without fractions, step by step.
-/
import Derived.Test.YtejnhpjejcpekaaGreatDoorCyViVuWxUpUqRmRpDkDlDbRiRjRgRkVqDcUmUoDmDvPmHuVsVtVy
import Derived.Test.YtejnhpjejcpekaaGreatDoorByDqUxUtUvUwUyUzUrUsHaHbHcWvUhHeVvCu
import Derived.Test.YtejnhpjejcpekaaGreatDoorFpCdDeGaGbKpGcGdGeQaQbQcQdQgQhGfGgUnWfUu
import Derived.Test.YtejnhpjejcpekaaGreatDoorBwGkVpVzCcGlPyHfCaHwDg
import Derived.Deep.DeepFit
import Derived.Test.YtejnhpjejcpekaaGreatDoorDpAaAbDnDo
import Derived.Test.YtejnhpjejcpekaaGreatDoorRoVbDaCxRb
import Derived.Test.YtejnhpjejcpekaaGreatDoorAdDtAgAiVdRtDhVeRsVfVcAjDrBmBqDuAkAl
import Derived.Test.YtejnhpjejcpekaaGreatDoorRhCqRrRwVaVg
import Derived.Test.YtejnhpjejcpekaaGreatDoorOaOfJpRzCwDjVkJoNcOn
import Derived.Test.YtejnhpjejcpekaaGreatDoorT4T6T7
import Derived.Test.YtejnhpjejcpekaaGreatDoorKjDwNfNn
import Derived.Test.YtejnhpjejcpekaaGreatDoorApEpGiGj
namespace Go.Proofs.YtejnhpjejcpekaaGreatDoor
open Go.RowKit
set_option linter.unusedVariables false
set_option linter.unusedSimpArgs false
set_option maxHeartbeats 8000000
section
variable (L : Int) (b : List Int) (m K0 : Nat) (a : Nat → Int)
end
section
variable {w wr w' : World} {g gp M n KL s : Nat} {us : List Ent} {F G : Nat → Int} {L : Int} {l f u : Ent} {N N' : Nat → Prop}
end
section
variable {w wr w' : World} {g gp g2 M m R KL k k1 : Nat} {us vs : List Ent} {F G H : Nat → Int} {L : Int} {l f u : Ent}
end
structure Pv (w wr : World) (g : Nat) (s : Bool) (p : Option Addr) (n : Nat) (ds : List Int) (s1 : Bool) (p1 : Option Addr) (n1 : Nat) (d1 : List Int) : Prop where
  ba : Bx wr w.heap.size (.bool s) (.slice p n n)
  br : Bx wr (w.heap.size + 1) (.bool false) (.slice none 0 0)
  bp : Bx wr g (.bool s1) (.slice p1 n1 n1)
  ra : RN wr s p n ds
  r1 : RN wr s1 p1 n1 d1
  hg : w.heap.size + 2 ≤ g
  f1 : Go.Proofs.YtejnhpjejcpekaaGreatDoor.From (w.heap.size + 2) p1
  bel : Below w.heap.size w wr
structure AcS (w v : World) (g : Nat) (al y : Int) (zss : List (List Int)) (ha : Hdr) (yss : List (List Int)) (hb : Hdr) (zs : List Int) (p : Option Addr) (n nc : Nat) (es : List Ent) : Prop where
  a : Lies (EOp 4 3 1) 0 (fun _ => False) v zss ha
  d : Lies (EOp 4 3 1) 0 (fun _ => False) v yss hb
  f : PA v 1 p n nc es zs
  n : n ≤ 5
  r : RuleQ v g al y
  b : Below w.heap.size w v
theorem AcS.later {w v v' : World} {g : Nat} {al y : Int} {zss yss : List (List Int)} {ha hb : Hdr} {zs : List Int} {p : Option Addr} {n nc : Nat} {es : List Ent} (k : AcS w v g al y zss ha yss hb zs p n nc es) (h : Below v.heap.size v v') : AcS w v' g al y zss ha yss hb zs p n nc es :=
  ⟨k.a.below (lOp _ _ _) h, k.d.below (lOp _ _ _) h, k.f.below h, k.n, k.r.below h, bnext' k.b h⟩
section
variable {w v : World} {g : Nat} {al y : Int} {zss yss : List (List Int)} {ha hb : Hdr} {zs : List Int} {p : Option Addr} {n nc : Nat} {es : List Ent}
theorem AcS.mul (k : AcS w v g al y zss ha yss hb zs p n nc es) : Calls Tryz.prog 25 #[.pointer (some ⟨g, 0, none⟩), .slice ha.p ha.n ha.c, .slice hb.p hb.n hb.c] v (MuR 7 15 5 al y zss yss v) := by
  obtain ⟨B, T, h1, h2, -, -⟩ := k.a
  obtain ⟨B', T', h3, h4, -, -⟩ := k.d
  exact mul_told k.r h1 h2 h3 h4 (by decide) (by decide) (by decide) (by decide) (by decide) (by decide) (by decide) (by decide) (by decide)
theorem AcS.app (k : AcS w v g al y zss ha yss hb zs p n nc es) : Calls Tryz.prog 30 #[.pointer (some ⟨g, 0, none⟩), .slice hb.p hb.n hb.c, .slice p n nc] v (AmR 18 7 al y yss zs v) := by
  obtain ⟨B', T', h3, h4, -, -⟩ := k.d
  exact app_told k.r h3 h4 k.f k.n (by decide) (by decide) (by decide) (by decide) (by decide) (by decide) (by decide)
end
theorem AcS.end {w v : World} {g : Nat} {al y : Int} {zss yss L : List (List Int)} {ha hb : Hdr} {zs : List Int} {p : Option Addr} {n nc : Nat} {es : List Ent} {F X Y : List Int} (k : AcS w v g al y zss ha yss hb zs p n nc es) (hL : L = Pzs al y zss yss (olen zss)) (hF : F = Ozs al y yss zs (olen yss)) (hX : X = Ozs al y zss F (olen zss)) (hY : Y = Ozs al y L zs (olen L)) : X = Y := by
  subst hF hX hY hL
  refine nrm_ext (Ozs_nrm _ _ _ _ _) (Ozs_nrm _ _ _ _ _) fun t => ?_
  have h1 := Sk.acts_eq (y := y) k.r.a zss yss zs (max (olen (Pzs al y zss yss (olen zss))) (olen yss + olen zss)) (by omega) t
  rw [← h1]
  exact Sk.Ozs_more _ _ _ _ (Nat.le_refl _) (by omega) t
set_option maxRecDepth 100000 in
theorem OreActs_walk {w : World} {al : Int} {e : Ent} {p : Option Addr} {n nc : Nat} {hs0 : List Hdr} {q : Option Addr} {m mc : Nat} {rs0 : List Hdr} {fp : Option Addr} {fn fc : Nat} {fs0 : List Ent} (he : RawE w e) (h : RZ w p n nc hs0) (k : RZ w q m mc rs0) (hf : PZ w fp fn fc fs0) (hal : -9223372036854775808 ≤ al ∧ al ≤ 9223372036854775807) :
    Calls Tryz.prog 6 #[.int .i64 al, .agg #[.bool e.s, .slice e.p e.n e.c], .slice p n nc, .slice q m mc, .slice fp fn fc] w fun r w' => r = .returned (.bool true) ∧ Below w.heap.size w w' := by
  have HX : Hid (RawE w e ∧ RZ w p n nc hs0 ∧ RZ w q m mc rs0 ∧ PZ w fp fn fc fs0) := ⟨he, h, k, hf⟩
  clear h he k hf
  have hW0 : Below w.heap.size w (w.alloc (.cells #[.bool e.s, .slice e.p e.n e.c] 26)) := (Below.refl _ _).alloc (Nat.le_refl _) _
  have hBx : Bx (w.alloc (.cells #[.bool e.s, .slice e.p e.n e.c] 26)) w.heap.size (.bool e.s) (.slice e.p e.n e.c) := Bx.new _ _ _ rfl
  go_enter Tryz.func6, Tryz.ntmps6
  go_wp2_with fail
  go_fit (begun8_any _)
  rintro e1 W ⟨rfl, hb1⟩
  have hW := bnext' hW0 hb1
  have HBx : Hid (Bx W w.heap.size (.bool e.s) (.slice e.p e.n e.c)) := hBx.later hb1
  clear hBx hb1 hW0
  go_wp2_with fail
  go_fit (Cut8_any (HX.out.2.1.below hW) 3 3 1 (by decide) (by decide) (by decide))
  rintro r w1 ⟨ha, zss, rfl, -, hA1, hb1⟩
  have hB1 := bnext' hW hb1
  have HA1 : Hid (Lies (EOp 4 3 1) 0 (fun _ => False) w1 zss ha) := ⟨_, _, hA1, Nat.le_refl _, Nat.zero_le _, fun _ h => h.elim⟩
  clear hA1
  dsimp only [Hdr.val]
  go_wp2_with fail
  go_fit (Cut8_any (HX.out.2.2.1.below hB1) 3 3 1 (by decide) (by decide) (by decide))
  rintro r w2 ⟨hd, yss, rfl, -, hF2, hb2⟩
  have hB2 := bnext' hB1 hb2
  have HS : Hid (Lies (EOp 4 3 1) 0 (fun _ => False) w2 zss ha ∧ Lies (EOp 4 3 1) 0 (fun _ => False) w2 yss hd) := ⟨HA1.out.below (lOp _ _ _) hb2, _, _, hF2, Nat.le_refl _, Nat.zero_le _, fun _ h => h.elim⟩
  clear hF2 HA1
  dsimp only [Hdr.val]
  go_wp2_with fail
  go_fit (Cut3_any (HX.out.2.2.2.below hB2) 5 1 (by decide) (by decide))
  rintro r w3 ⟨f3, m3, c3, e3, zs, rfl, hP3, hm3, -, -, hb3⟩
  have hB3 := bnext' hB2 hb3
  have hm5 : m3 ≤ 5 := by omega
  clear hm3
  have HT : Hid (Lies (EOp 4 3 1) 0 (fun _ => False) w3 zss ha ∧ Lies (EOp 4 3 1) 0 (fun _ => False) w3 yss hd ∧ PA w3 1 f3 m3 c3 e3 zs ∧ m3 ≤ 5) := ⟨HS.out.1.below (lOp _ _ _) hb3, HS.out.2.below (lOp _ _ _) hb3, hP3, hm5⟩
  have hru := lRule_any (HX.out.1.below hB3) hal
  have hc := HBx.out.later (bnext' (bnext' hb1 hb2) hb3)
  have x0 : w3.cell? ⟨w.heap.size, 0, none⟩ = some (.bool e.s) := hc.c0
  have x1 : w3.cell? ⟨w.heap.size, 1, none⟩ = some (.slice e.p e.n e.c) := hc.c1
  clear hP3 hm5 hb1 hb2 hb3 HS hW hB1 hB2 HBx hc
  go_wp2_with fail
  go_fit hru
  rintro r w4 ⟨hR, hb4⟩
  have hB4 := bnext' hB3 hb4
  clear hru x0 x1
  rcases hR with rfl | ⟨g, y, xe, rfl, hRQ, hRE⟩
  · have HB : Hid (Below w.heap.size w w4) := hB4
    clear HT hB3 hb4 hB4
    go_wp2_with fail
    go_ret
    exact ⟨rfl, bel_al HB.out⟩
  have hal4 := bel_al (o := .cells #[.int .i64 al, .bool xe.s, .slice xe.p xe.n xe.c] 55) (Below.refl w4.heap.size w4)
  have hb5 := bnext' hb4 hal4
  have NS : Hid (AcS w (w4.alloc (.cells #[.int .i64 al, .bool xe.s, .slice xe.p xe.n xe.c] 55)) g al y zss ha yss hd zs f3 m3 c3 e3) := ⟨HT.out.1.below (lOp _ _ _) hb5, HT.out.2.1.below (lOp _ _ _) hb5, HT.out.2.2.1.below hb5, HT.out.2.2.2, hRQ.below hal4, bnext' hB3 hb5⟩
  clear HT hb4 hb5 hRQ hRE hB3 HX hB4 hal4
  go_wp2_with fail
  generalize (w4.alloc (.cells #[.int .i64 al, .bool xe.s, .slice xe.p xe.n xe.c] 55)) = W5 at *
  go_fit NS.out.mul
  rintro r w5 ⟨L, lq, lm, er1, B5, rfl, hL, hr1, hl1, hb5⟩
  have NS5 : Hid (AcS w w5 g al y zss ha yss hd zs f3 m3 c3 e3) := NS.out.later hb5
  have HL : Hid (HR 7 (EZ 15 5) w5 B5 w5.heap.size L ⟨lq, lm, lm⟩ ∧ (er1 = 0 → L = Pzs al y zss yss (olen zss))) := ⟨hL, hl1⟩
  clear NS hL hl1 hb5
  go_wp2_with fail
  go_fit NS5.out.app
  rintro r w6 ⟨F, gq, gm, er2, ges, rfl, hF, hgm, hr2, hl2, hb6⟩
  have NS6 : Hid (AcS w w6 g al y zss ha yss hd zs f3 m3 c3 e3 ∧ HR 7 (EZ 15 5) w6 B5 w5.heap.size L ⟨lq, lm, lm⟩ ∧ w5.heap.size ≤ w6.heap.size) := ⟨NS5.out.later hb6, (lasts_HR (lasts_EZ 15 5)).below HL.out.1 (Nat.le_refl _) hb6, hb6.size⟩
  have HF : Hid (PN w5.heap.size w6 18 gq gm ges F ∧ gm ≤ 7 ∧ (er2 = 0 → F = Ozs al y yss zs (olen yss))) := ⟨hF, hgm, hl2⟩
  have hap := app_told (w := w6) (K := 41) (N := 9) NS6.out.1.r (by exact (NS6.out.1.a.choose_spec.choose_spec).1) (by exact (NS6.out.1.a.choose_spec.choose_spec).2.1) (hF.pa (by decide) (by omega)) hgm (by decide) (by decide) (by decide) (by decide) (by decide) (by decide) (by decide)
  clear NS5 hF hl2 hb6 hgm
  go_wp2_with fail
  go_fit hap
  rintro r w7 ⟨X, xq, xm, er3, xes, rfl, hX, hxm, hr3, hl3, hb7⟩
  have NS7 : Hid (AcS w w7 g al y zss ha yss hd zs f3 m3 c3 e3 ∧ PN w6.heap.size w7 41 xq xm xes X ∧ (er3 = 0 → X = Ozs al y zss F (olen zss))) := ⟨NS6.out.1.later hb7, hX, hl3⟩
  have hap2 := app_told (w := w7) (K := 47) (N := 9) NS7.out.1.r ((lasts_HR (lasts_EZ 15 5)).below NS6.out.2.1 NS6.out.2.2 hb7) (Nat.le_trans NS6.out.2.2 hb7.size) NS7.out.1.f NS7.out.1.n (by decide) (by decide) (by decide) (by decide) (by decide) (by decide) (by decide)
  have hxm9 : Hid (xm ≤ 9) := hxm
  clear hap NS6 hX hl3 hb7 hxm
  go_wp2_with fail
  go_fit hap2
  rintro r w8 ⟨Y, yq, ym, er4, yes, rfl, hY, hym, hr4, hl4, hb8⟩
  have NS8 : Hid (AcS w w8 g al y zss ha yss hd zs f3 m3 c3 e3 ∧ PN w6.heap.size w8 41 xq xm xes X) := ⟨NS7.out.1.later hb8, NS7.out.2.1.below hb8⟩
  have HB8 : Hid (Below w.heap.size w w8) := NS8.out.1.b
  have hfr := rpFrom_any (hY.pa (by decide) (by omega)) (by omega) (by decide)
  have hE : Hid (er1 = 0 → er2 = 0 → er3 = 0 → er4 = 0 → X = tr Y) := fun a1 a2 a3 a4 => by
    rw [hY.tr]
    exact NS8.out.1.end (HL.out.2 a1) (HF.out.2.2 a2) (NS7.out.2.2 a3) (hl4 a4)
  clear hap2 hY hl4 hb8 NS7 HL HF hym
  rcases hr1 with rfl | rfl
  · rcases hr2 with rfl | rfl
    · rcases hr3 with rfl | rfl
      · rcases hr4 with rfl | rfl
        · go_wp2_with fail
          go_fit hfr
          rintro r w9 ⟨q9, n9, es9, rfl, hR9, -, -, hb9⟩
          have his := rpIs3 (NS8.out.2.below hb9) (zs := X) (by rw [hE.out (by trivial) (by trivial) (by trivial) (by trivial)]; exact hR9) (by decide) (by decide) (by have := NS8.out.2.zl; have := hxm9.out; omega)
          have hB9 := bnext' HB8.out hb9
          clear hfr hR9 hb9 HB8
          go_wp2_with fail
          go_fit his
          rintro r w10 ⟨rfl, hb10⟩
          have HB : Hid (Below w.heap.size w w10) := bnext' hB9 hb10
          clear his hb10 hB9 NS8
          go_wp2
          go_ret
          exact ⟨rfl, HB.out⟩
        · clear hfr hE NS8
          go_wp2_with fail
          go_ret
          exact ⟨rfl, HB8.out⟩
      · clear hfr hE NS8 hr4
        go_wp2_with fail
        go_ret
        exact ⟨rfl, HB8.out⟩
    · clear hfr hE NS8 hr4 hr3
      go_wp2_with fail
      go_ret
      exact ⟨rfl, HB8.out⟩
  · clear hfr hE NS8 hr4 hr3 hr2
    go_wp2_with fail
    go_ret
    exact ⟨rfl, HB8.out⟩
open Go.ChangeShapes Go.WideShapes Go.ChangeAt Go.RowKit Go.Joins
theorem cellsInt : Tryz.prog.cellsOf 26 = 2 := by kernel_rfl
theorem cellsLimb : Tryz.prog.cellsOf 88 = 1 := by kernel_rfl
def IntArg (W : World) (v : Value) : Prop := ∃ (s : Bool) (pa : Option Addr) (n nc : Nat) (xs : List Int), v = .agg #[.bool s, .slice pa n nc] ∧ xs.length = n ∧ n ≤ nc ∧ nc ≤ maxLen ∧ Rd W pa .u32 xs ∧ U32 xs ∧ (pa = none → nc = 0)
set_option maxRecDepth 100000 in
theorem openInt {H : Type} {enc : TypeId × Value → H} {W : World} {base : Nat} {v0 : Value} {d0 : DataW H} {p0 : List MemPlace} (hv : Value.okWide Tryz.prog W .any base 26 v0)
    (h0 : DataW.Trod enc Tryz.prog W 0 (fun _ => true) true 26 v0 d0 p0) : IntArg W v0 := by
  obtain ⟨c0, c1, y0, y1, k, rfl, -, -, hy0, hy1⟩ := open_agg2 Tryz.underlying26 (by kernel_rfl) cellsInt hv h0
  obtain ⟨s, e0, -⟩ := DataW.trod_bool Tryz.underlying4 hy0
  simp only [List.cons.injEq, and_true] at e0
  subst e0
  rcases open_ints Tryz.underlying24 Tryz.underlying88 cellsLimb hy1 with ⟨hcs, -⟩ | ⟨a, len, cap, zs, hcs, -, hl, hm, hz, -, hcell, hwz⟩
  · simp only [List.cons.injEq, and_true] at hcs
    subst hcs
    exact ⟨s, none, 0, 0, [], rfl, rfl, Nat.le_refl _, Nat.zero_le _, Rd.nil, u32_nil, fun _ => rfl⟩
  · simp only [List.cons.injEq, and_true] at hcs
    subst hcs
    simp only [if_true] at hz
    refine ⟨s, some a, len, cap, zs.take len, rfl, by simp; omega, hl, hm, ?_, ?_, fun h => by cases h⟩
    · intro hp
      have hp' : 0 < zs.length := by simp at hp; omega
      obtain ⟨b, off, rfl, hc⟩ := ints_at hcell hp'
      refine ⟨b, off, rfl, fun j hj => ?_⟩
      have hj' : j < len ∧ j < zs.length := by simp at hj; omega
      rw [gx_take _ _ _ hj'.1]
      exact hc j hj'.2
    · refine u32_take (fun j => ?_) len
      by_cases hj : j < zs.length
      · have := hwz zs[j] (List.getElem_mem hj)
        rw [gx_mem zs j hj]
        have h4 : 0 ≤ zs[j] ∧ zs[j] ≤ 4294967295 := by
          simpa [Lit.wf, IntKind.min, IntKind.max, IntKind.signed, IntKind.bits] using this
        exact ⟨h4.1, by omega⟩
      · rw [gx_past zs _ (Nat.le_refl _) j (by omega)]; decide
set_option maxRecDepth 100000 in
theorem openOp {H : Type} {enc : TypeId × Value → H} {W : World} {v0 : Value} {d0 : DataW H} {p0 : List MemPlace} {base : Nat} (hv : Value.okWide Tryz.prog W .any base 51 v0)
    (h0 : DataW.Trod enc Tryz.prog W 0 (fun _ => true) true 51 v0 d0 p0) : ∃ (p : Option Addr) (n nc : Nat) (hs : List Hdr), v0 = .slice p n nc ∧ RZ W p n nc hs := by
  obtain ⟨a0, len, cap, rfl⟩ := okWide_slice Tryz.underlying51 hv
  obtain ⟨fuel, hf⟩ := h0
  obtain ⟨-, h1, h2, h3, hs, h4, h5, h6⟩ := sliceT Tryz.underlying51 cellsP hf (E := fun h => ∃ es, PZ W h.p h.n h.c es) (fun fuel u y hy => polyT hy)
  exact ⟨a0, len, cap, hs, rfl, h4, h1, h2, h3, h5, h6⟩
end Go.Proofs.YtejnhpjejcpekaaGreatDoor
