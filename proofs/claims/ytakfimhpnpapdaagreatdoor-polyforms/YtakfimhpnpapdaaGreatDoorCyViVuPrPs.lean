/-
  What the walks of the laws share: reference numbers carried on.
-/
import Derived.Test.YtakfimhpnpapdaaGreatDoorVbDaCxRb
import Derived.Test.YtakfimhpnpapdaaGreatDoorRhCqRrRwVa
import Derived.Test.YtakfimhpnpapdaaGreatDoorWlBxBbCvNj
import Derived.Test.YtakfimhpnpapdaaGreatDoorUmPqGaGbKp
import Derived.Test.YtakfimhpnpapdaaGreatDoorWbWcWdWe
import Derived.Test.YtakfimhpnpapdaaGreatDoorUtReRxRf
import Derived.Deep.RegionHeld3
namespace Go.Proofs.YtakfimhpnpapdaaGreatDoor
open Go.RowKit
set_option linter.unusedVariables false
set_option linter.unusedSimpArgs false

/-- A reference number with its value. -/
theorem From_ansF (s : Bool) (p : Option Addr) (n nc : Nat) (xs : List Int) (w : World) (hA : AI w p n nc xs) :
    Calls Tryz.prog 35 #[.agg #[.bool s, .slice p n nc]] w fun e w' => ∃ s' p' n' ds', e = .returned (.agg #[.bool s', .slice p' n' n']) ∧ RN w' s' p' n' ds' ∧ rval s' ds' = ival s xs ∧ n' ≤ 2 * n ∧ Go.Proofs.YtakfimhpnpapdaaGreatDoor.From w.heap.size p' ∧ Below w.heap.size w w' := by
  refine (From_any s p n nc xs w hA).mono ?_
  rintro e w' ⟨s', q, nq, rfl, hR, rfl, hF, hb⟩
  refine ⟨_, q, nq, _, rfl, hR, by rw [rval_nsg s (u16_spl hA.u), rval_spl], ?_, hF, hb⟩
  have h1 := hR.nrm
  rw [tlen_tr] at h1
  have h2 := tlen_le (spl xs)
  rw [length_spl] at h2
  have := hA.len
  omega
theorem From_ans (s : Bool) (p : Option Addr) (n nc : Nat) (xs : List Int) (w : World) (hA : AI w p n nc xs) :
    Calls Tryz.prog 35 #[.agg #[.bool s, .slice p n nc]] w fun e w' => ∃ s' p' n' ds', e = .returned (.agg #[.bool s', .slice p' n' n']) ∧ RN w' s' p' n' ds' ∧ rval s' ds' = ival s xs ∧ n' ≤ 2 * n ∧ Below w.heap.size w w' := by
  refine (From_ansF s p n nc xs w hA).mono ?_
  rintro e w' ⟨s', p', n', ds', h1, h2, h3, h4, h5, h6⟩
  exact ⟨s', p', n', ds', h1, h2, h3, h4, h6⟩
end Go.Proofs.YtakfimhpnpapdaaGreatDoor
/-
  ashlarref3.From.
-/
namespace Go.Proofs.YtakfimhpnpapdaaGreatDoor
open Go.RowKit
set_option linter.unusedVariables false
set_option linter.unusedSimpArgs false

theorem lasts_RE (N : Nat) : Lasts (fun w z e => RE w N z e) := ⟨fun h hg hne => h.grown hg hne, fun h => h.lt⟩
theorem LG.pr {base : Nat} {w : World} {N : Nat} {v : Value} {es : List Ent} {zs : List Int} (h : LG base 46 (fun w z e => RE w N z e) w v es zs) : ∃ q cap, v = .slice q es.length cap ∧ PR w N q es.length cap es zs ∧ Go.Proofs.YtakfimhpnpapdaaGreatDoor.From base q := by
  obtain ⟨q, cap, h1, h2, h3, h4, h5, -⟩ := h.pl
  exact ⟨q, cap, h1, ⟨rfl, h.zl, h2, h3, h4, h.ev⟩, h5⟩
theorem lg_app {base : Nat} {t : TypeId} {E : World → Int → Ent → Prop} (L : Lasts E) {wr w1 w3 : World} {v : Value} {es : List Ent} {zs : List Int} {z : Int} {s : Bool} {p : Option Addr} {n c k : Nat} {o : Obj} {g cap : Nat} (hk : es.length = k) (h : LG base t E wr v es zs) (hb1 : Below wr.heap.size wr w1) (hE : E w1 z ⟨s, p, n, c⟩) (hF : Go.Proofs.YtakfimhpnpapdaaGreatDoor.From wr.heap.size p)
    (hown : w3.ownsRow base t 2 (.slice (some ⟨g, 0, none⟩) (k + 1) cap) (k + 1) (fl es ++ [.bool s, .slice p n c])) (hgrow : (w1.alloc o).grownBy w3 v.ownBlock) (hat : v.ownBlock = some g ∨ g = (w1.alloc o).heap.size) :
    LG base t E w3 (.slice (some ⟨g, 0, none⟩) (k + 1) cap) (es ++ [⟨s, p, n, c⟩]) (zs ++ [z]) :=
  LG.app L hk h hb1 hE (fun _ a ha => .inr (hF a ha)) hown hgrow hat
set_option maxHeartbeats 2000000 in
set_option maxRecDepth 100000 in
/-- ashlarref3.From. -/
theorem rpFrom_any {w : World} {K : Nat} {p : Option Addr} {n nc : Nat} {es0 : List Ent} {zs : List Int} (h : PA w K p n nc es0 zs) (hn : n ≤ 100000) (hK : K ≤ 400) :
    Calls Tryz.prog 11 #[.slice p n nc] w (PrP (tr zs) (2 * K) w) := by
  obtain ⟨i0, hi, hzz⟩ := Option.map_eq_some_iff.1 info_ref
  simp only [Prod.mk.injEq] at hzz
  obtain ⟨hz0, hz1, hz2⟩ := hzz
  have HI : Hid (Tryz.prog.info? 46 = some i0 ∧ i0.zero = some (.agg #[.bool false, .slice none 0 0]) ∧ i0.size = 2 ∧ i0.bytes = 32) := ⟨hi, hz0, hz1, hz2⟩
  have HX : Hid (PA w K p n nc es0 zs) := h
  clear h hi hz0 hz1 hz2
  go_enter Tryz.func11, Tryz.ntmps11
  go_wp2_with fail
  go_loopw [3, 4] (fun qv iv wr => ∃ (k : Nat) (es : List Ent), k ≤ n ∧ iv = .int .i64 k ∧ Hid (es.length = k ∧ LG w.heap.size 46 (fun w z e => RE w (2 * K) z e) wr qv es (zs.take k) ∧ Below w.heap.size w wr)) (fun _ iv _ => n - (intOf iv).toNat)
  case atStart => exact ⟨0, [], Nat.zero_le _, by go_num, rfl, by rw [List.take_zero]; exact LG.nil _ _ _ _, Below.refl _ _⟩
  case round =>
    obtain ⟨k, es, hk, rfl, H⟩ := hrel
    rcases Nat.lt_or_ge k n with hlt | hge
    · obtain ⟨hel, hLR, hB⟩ := H.out
      have hPA := HX.out.below hB
      obtain ⟨b, o, hp, hc⟩ := hPA.pl (by rw [hPA.el]; omega)
      subst hp
      obtain ⟨c0, c1⟩ := hc k (by rw [hPA.el]; omega)
      obtain ⟨xs, hA, hv, hle⟩ := hPA.ev k hlt
      have hzl := hPA.zl
      clear hel hLR hB hc hPA
      go_wp2_with fail
      refine (From_ansF (ge es0 k).s (ge es0 k).p (ge es0 k).n (ge es0 k).c xs _ hA).mono ?_
      rintro e w1 ⟨s1, p1, n1, d1, rfl, hR1, hv1, hn1, hF1, hb1⟩
      have HE : Hid (RE w1 (2 * K) (gx zs k) ⟨s1, p1, n1, n1⟩) := ⟨⟨d1, hR1, by rw [hv1, hv], by show n1 ≤ _; omega⟩, rfl⟩
      clear c0 c1 hR1 hv1 hA hv
      obtain ⟨hi, hz0, hz1, hz2⟩ := HI.out
      have hown0 := own_below H.out.2.1.own hb1
      rw [H.out.1] at hown0
      have HO : Hid (w1.ownsRow w.heap.size 46 2 u3 k (fl es)) := hown0
      have hsz : w.heap.size ≤ w1.heap.size := Nat.le_trans H.out.2.2.size hb1.size
      clear hown0
      go_wp2_with (refine wpList_append_lies _ rfl _ _ 33 rfl w.heap.size 46 i0 (.agg #[.bool false, .slice none 0 0]) 2 32 Tryz.underlying33 hi hz0 hz1 hz2 rfl (by decide) u3 k (fl es) rfl (HO.out.alloc _) ⟨w1.heap.size, 0, none⟩ 1 1 [.bool s1, .slice p1 n1 n1] rfl rfl ?_ (fun x hx => by simp at hx; rcases hx with rfl | rfl <;> rfl) (by decide) (by unfold maxLen; omega) (by omega) (by simp; omega) _ rfl ?_; exact World.news_of_block (heap_alloc_new w1 _); intro g cap w3 hown3 hgrow3 hat3 hlt3; have hB3 : Below w.heap.size w w3 := ((bnext' H.out.2.2 hb1).alloc hsz _).grown hgrow3 (by simp; omega) (fun q hq => (HO.out.lt q hq).1); have HA : Hid (LG w.heap.size 46 (fun w z e => RE w (2 * K) z e) w3 (.slice (some ⟨g, 0, none⟩) (k + 1) cap) (es ++ [⟨s1, p1, n1, n1⟩]) (zs.take k ++ [gx zs k])) := lg_app (lasts_RE _) H.out.1 H.out.2.1 hb1 HE.out hF1 hown3 hgrow3 hat3; clear hown3 hgrow3 hat3)
      refine ⟨⟨k + 1, es ++ [⟨s1, p1, n1, n1⟩], by omega, by go_num, by have := H.out.1; simp; omega, by rw [take_snocg zs k (by omega)]; exact HA.out, hB3⟩, by simp [intOf]; omega⟩
    · obtain rfl : k = n := by omega
      obtain ⟨hel, hLR, hB⟩ := H.out
      have hzl := HX.out.zl
      rw [List.take_of_length_le (by omega)] at hLR
      obtain ⟨q, cap, hv, hPR, hF⟩ := hLR.pr
      subst hv
      rw [hel] at hPR ⊢
      have HB : Hid (Below w.heap.size w wr) := hB
      clear H hLR hB hge hk
      go_wp2_with fail
      refine (rTrim_any (2 * K) q k cap es zs _ hPR (by omega)).mono ?_
      rintro e w1 ⟨rfl, hb1⟩
      have HP : Hid (PR wr (2 * K) q k cap es zs) := hPR
      clear hPR
      go_wp2
      go_ret
      have htl := tlen_le zs
      have hcap := HP.out.cap
      have hT := (HP.out.below hb1).take (tlen zs) (tlen zs) (by omega) (Nat.le_refl _) (by omega)
      exact ⟨q, tlen zs, es.take (tlen zs), rfl, hT, hF, tlen_tr zs, bnext' HB.out hb1⟩
end Go.Proofs.YtakfimhpnpapdaaGreatDoor
/-
  Small rules on the reference's numbers in a list.
-/
namespace Go.Proofs.YtakfimhpnpapdaaGreatDoor
open Go.RowKit
set_option linter.unusedVariables false
set_option linter.unusedSimpArgs false

theorem rval_abs (s : Bool) {ds : List Int} (h : U16 ds) : vd ds = ((rval s ds).natAbs : Int) := by
  have := vd_nonneg h
  unfold rval
  split <;> omega
theorem RE.set2 {w : World} {N : Nat} {z : Int} {e : Ent} {g o : Nat} {u v : Value} (h : RE w N z e) (ho : 0 < e.n → Off g e.p) : RE ((w.setCell ⟨g, o, none⟩ u).setCell ⟨g, o + 1, none⟩ v) N z e := by
  obtain ⟨⟨ds, h1, h2⟩, h4⟩ := h
  refine ⟨⟨ds, ⟨h1.len, fun hx => ?_, h1.u, h1.nrm, h1.sg, h1.sml⟩, h2⟩, h4⟩
  have := ho (by rw [h1.len] at hx; exact hx)
  exact ((h1.rd.set_other ⟨g, o, none⟩ u this).set_other ⟨g, o + 1, none⟩ v this) hx
theorem RN.fit {w : World} {s : Bool} {p : Option Addr} {n N : Nat} {ds : List Int} (h : RN w s p n ds) (hz : ((rval s ds).natAbs : Int) < pd N) : n ≤ N := by
  have a := vd_nonneg h.u
  have e : ((rval s ds).natAbs : Int) = vd ds := by unfold rval; split <;> omega
  rw [e] at hz
  rcases Nat.lt_or_ge N n with hk | hk
  · have b := vd_pos_of_top h.u (by rw [h.nrm]; omega)
    rw [h.nrm] at b
    have c := pd_mono (show N ≤ n - 1 by omega)
    omega
  · exact hk
theorem RE_al {w : World} {N : Nat} {z : Int} {e : Ent} {o : Obj} (h : RE w N z e) : RE (w.alloc o) N z e := h.below ((Below.refl _ _).alloc (Nat.le_refl _) o)
theorem re_st {w : World} {N : Nat} {z : Int} {e : Ent} {a : Addr} {v : Value} (h : RE w N z e) (ho : 0 < e.n → Off a.block e.p) : RE (w.setCell a v) N z e := by
  obtain ⟨⟨ds, h1, h2⟩, h4⟩ := h
  exact ⟨⟨ds, ⟨h1.len, fun hx => (h1.rd.set_other a v (ho (by rw [h1.len] at hx; exact hx))) hx, h1.u, h1.nrm, h1.sg, h1.sml⟩, h2⟩, h4⟩
theorem RE_st2 {w : World} {N U : Nat} {z : Int} {e : Ent} {a : Addr} {v : Value} (hU : 0 < e.n → ∀ x, e.p = some x → x.block < U) (ha : U ≤ a.block) (h : RE w N z e) : RE (w.setCell a v) N z e := re_st h fun h0 b hb e' => by have := hU h0 b hb; omega
theorem RE_st3 {w : World} {N F : Nat} {z : Int} {e : Ent} {a : Addr} {v : Value} (hF : Go.Proofs.YtakfimhpnpapdaaGreatDoor.From F e.p) (ha : a.block < F) (h : RE w N z e) : RE (w.setCell a v) N z e := re_st h fun h0 b hb e' => by have := hF b hb; omega
theorem unFr {w : World} {p : Option Addr} (h : Go.Proofs.YtakfimhpnpapdaaGreatDoor.From w.drew.heap.size p) : Go.Proofs.YtakfimhpnpapdaaGreatDoor.From w.heap.size p := h
theorem keep4R {w w' : World} {a c i j k l : Nat} {u v x y : Value} (h : w.cell? ⟨a, i, none⟩ = some u ∧ w.cell? ⟨a, j, none⟩ = some v ∧ w.cell? ⟨c, k, none⟩ = some x ∧ w.cell? ⟨c, l, none⟩ = some y) (hb : Below w.heap.size w w') : w'.cell? ⟨a, i, none⟩ = some u ∧ w'.cell? ⟨a, j, none⟩ = some v ∧ w'.cell? ⟨c, k, none⟩ = some x ∧ w'.cell? ⟨c, l, none⟩ = some y :=
  ⟨cell_later hb h.1, cell_later hb h.2.1, cell_later hb h.2.2.1, cell_later hb h.2.2.2⟩
theorem Bx.kept {w w' : World} {r : Nat} {a b : Value} {row : Option Nat} (h : Bx w r a b) (hg : w.grownBy w' row) (hne : some r ≠ row) : Bx w' r a b := by
  have e : w'.heap[r]? = w.heap[r]? := hg.block r (block_lt_of_cell h.c0) hne
  exact ⟨(World.cell?_of_block (a := ⟨r, 0, none⟩) e).trans h.c0, (World.cell?_of_block (a := ⟨r, 1, none⟩) e).trans h.c1, (World.frozen?_of_block (a := ⟨r, 0, none⟩) e).trans h.f0, (World.frozen?_of_block (a := ⟨r, 1, none⟩) e).trans h.f1⟩
theorem tr_of_tlen {zs : List Int} (h : tlen zs = zs.length) : tr zs = zs := by rw [tr, h, List.take_length]
theorem sign_re {w : World} {N : Nat} {z : Int} {e : Ent} (h : RE w N z e) (hz : z ≠ 0) : e.s = decide (z < 0) := by
  obtain ⟨⟨ds, h1, h2, h3⟩, h4⟩ := h
  have := vd_nonneg h1.u
  cases hs : e.s <;> rw [hs, rval] at h2 <;> simp at h2 <;> simp <;> omega
end Go.Proofs.YtakfimhpnpapdaaGreatDoor
/-
  upoly.pack.
-/
namespace Go.Proofs.YtakfimhpnpapdaaGreatDoor
open Go.RowKit
set_option linter.unusedVariables false
set_option linter.unusedSimpArgs false

/-- copy of limbs into a row. -/
theorem copy_into (ty : TypeId) (w : World) (g off dl dc : Nat) (q : Option Addr) (m mc : Nat) (Z xs : List Int) (hg : Row w g 26 .u32 Z) (hX : Rd w q .u32 xs) (hl : xs.length = m) (hm : m ≤ dl) (hfit : off + m ≤ Z.length) :
    ∃ W', (Builtin.copy_ #[27, 27] ty #[.slice (some ⟨g, off, none⟩) dl dc, .slice q m mc]).run Tryz.prog w = .ok (.int .i64 m) W' ∧ Row W' g 26 .u32 (mid Z off xs) ∧ w.grownBy W' (some g) := by
  rcases Nat.eq_zero_or_pos m with h0 | h0
  · subst h0
    have : xs = [] := List.eq_nil_of_length_eq_zero hl
    subst this
    refine ⟨w, run_copy_none (P := Tryz.prog) _ 27 27 ty 26 _ _ dl dc 0 mc Tryz.underlying27 (by kernel_rfl) (by simp), ?_, grownBy_refl _ _⟩
    rw [mid]
    simpa using hg
  · obtain ⟨b, o, rfl, hc⟩ := hX (by omega)
    have hr := run_copy_row (P := Tryz.prog) w 27 27 ty 26 g off dl dc ⟨b, o, none⟩ m mc _ 26 (xs.map (Value.int .u32)) Tryz.underlying27 (by kernel_rfl) hg (by rw [List.length_map, hl]; exact (Nat.min_eq_left hm).symm) (Rd.src hc) (by rw [List.length_map, size_ca]; omega) (oneCell_ca _ _)
    rw [List.length_map, hl] at hr
    refine ⟨w.setRow g _, hr, ?_, ⟨rfl, rfl, rfl, by simp, fun k _ hk => setRow_other w g k _ (fun e => hk (by rw [e]))⟩⟩
    have e : (List.take off (ca .u32 Z).toList ++ xs.map (Value.int .u32) ++ List.drop (off + m) (ca .u32 Z).toList).toArray = ca .u32 (mid Z off xs) := by
      unfold ca mid
      rw [List.map_append, List.map_append, List.map_take, List.map_drop, hl]
    rw [e]
    exact setRow_heap w g _ _ _ _ hg
theorem step_copy_g {ops : Array Oper} {o : Oper} {a : Act} {w : World} {K : Act → World → Prop} {Q : Exit → Act → World → Prop} {E : Prop} (hgd : o.guard = none) (d s : Operand)
    (ho : o.op = .call { callee := .builtin .copy, args := #[d, s], argTypes := #[27, 27] }) (g off dl dc : Nat) (q : Option Addr) (m mc : Nat) (hd : a.eval d = .slice (some ⟨g, off, none⟩) dl dc) (hs : a.eval s = .slice q m mc)
    (Z xs : List Int) (hg : Row w g 26 .u32 Z) (hX : Rd w q .u32 xs) (hl : xs.length = m) (hm : m ≤ dl) (hfit : off + m ≤ Z.length)
    (h : ∀ w', Row w' g 26 .u32 (mid Z off xs) → w.grownBy w' (some g) → K (a.put o.dst (.int .i64 m)) w') :
    if Region.wanted o (yielded ops a.tmps) = true then Oper.wp Tryz.prog o a w K Q else E := by
  obtain ⟨W', e, h1, h2⟩ := copy_into o.type w g off dl dc q m mc Z xs hg hX hl hm hfit
  have hk := h W' h1 h2
  rw [if_pos (by simp [Region.wanted, hgd]), Oper.wp]
  simp [e, hd, hs, ho, builtin, invoke, resolve, execOp, Result.andThen]
  exact hk
/-- pack's two rows, k entries done. -/
structure PK (w wr : World) (ga gb W n k : Nat) (zs A Bl : List Int) : Prop where
  ra : Row wr ga 26 .u32 A
  rb : Row wr gb 26 .u32 Bl
  la : A.length = W * n
  lb : Bl.length = W * n
  ua : U32 A
  ub : U32 Bl
  za : ∀ j, W * k ≤ j → gx A j = 0
  zb : ∀ j, W * k ≤ j → gx Bl j = 0
  v : val A - val Bl = pkf W (gx zs) k
  ne : ga ≠ gb
  fa : w.heap.size < ga
  fb : w.heap.size < gb
  rx : Bx wr w.heap.size (.bool false) (.slice none 0 0)
  bw : Below w.heap.size w wr
theorem en_parts {w : World} {K : Nat} {z : Int} {e : Ent} (h : EN w K z e) : ∃ xs, Rd w e.p .u32 xs ∧ xs.length = e.n ∧ U32 xs ∧ ((e.s = false ∧ val xs = z) ∨ (e.s = true ∧ val xs = -z)) := by
  obtain ⟨xs, h1, h2, h3, h4, h5⟩ := h
  refine ⟨xs, h1.rd, h1.len, h1.u, ?_⟩
  cases hs : e.s <;> rw [hs] at h2 <;> simp [ival] at h2
  · exact .inl ⟨rfl, h2⟩
  · exact .inr ⟨rfl, by omega⟩
theorem PK.above {w wr v w' : World} {ga gb W n k : Nat} {zs A Bl xs : List Int} (h : PK w wr ga gb W n k zs A Bl) (hb : Below wr.heap.size wr v) (hu : U32 xs) (hv : val xs = gx zs k) (hl : xs.length ≤ W) (hk : k < n) (hr : Row w' ga 26 .u32 (mid A (W * k) xs)) (hg : v.grownBy w' (some ga)) : PK w w' ga gb W n (k + 1) zs (mid A (W * k) xs) Bl := by
  have h1 : W * (k + 1) ≤ W * n := Nat.mul_le_mul_left _ hk
  have h2 : W * (k + 1) = W * k + W := by rw [Nat.mul_add, Nat.mul_one]
  have hfit : W * k + xs.length ≤ A.length := by rw [h.la]; omega
  have hne := h.ne
  have hfa := h.fa
  refine ⟨hr, (h.rb.below hb h.rb.lt).kept hg (by simp; omega), by rw [mid_length _ _ _ hfit]; exact h.la, h.lb, u32_midz h.ua hu, h.ub, fun j hj => gx_midz hfit h.za j (by omega), fun j hj => h.zb j (by omega), ?_, h.ne, h.fa, h.fb, Bx.kept (h.rx.later hb) hg (by simp; omega), below_grown (bnext' h.bw hb) hg (by have := h.bw.size; have := hb.size; omega) (by omega)⟩
  rw [val_midz hfit h.za, pkf, ← h.v, hv, Int.mul_comm]
  omega
theorem PK.under {w wr v w' : World} {ga gb W n k : Nat} {zs A Bl xs : List Int} (h : PK w wr ga gb W n k zs A Bl) (hb : Below wr.heap.size wr v) (hu : U32 xs) (hv : val xs = -gx zs k) (hl : xs.length ≤ W) (hk : k < n) (hr : Row w' gb 26 .u32 (mid Bl (W * k) xs)) (hg : v.grownBy w' (some gb)) : PK w w' ga gb W n (k + 1) zs A (mid Bl (W * k) xs) := by
  have h1 : W * (k + 1) ≤ W * n := Nat.mul_le_mul_left _ hk
  have h2 : W * (k + 1) = W * k + W := by rw [Nat.mul_add, Nat.mul_one]
  have hfit : W * k + xs.length ≤ Bl.length := by rw [h.lb]; omega
  have hne := h.ne
  have hfb := h.fb
  refine ⟨(h.ra.below hb h.ra.lt).kept hg (by simp; omega), hr, h.la, by rw [mid_length _ _ _ hfit]; exact h.lb, h.ua, u32_midz h.ub hu, fun j hj => h.za j (by omega), fun j hj => gx_midz hfit h.zb j (by omega), ?_, h.ne, h.fa, h.fb, Bx.kept (h.rx.later hb) hg (by simp; omega), below_grown (bnext' h.bw hb) hg (by have := h.bw.size; have := hb.size; omega) (by omega)⟩
  rw [val_midz hfit h.zb, pkf, ← h.v, hv, Int.mul_neg, Int.mul_comm]
  omega
end Go.Proofs.YtakfimhpnpapdaaGreatDoor
/-
  upoly.pack.
-/
namespace Go.Proofs.YtakfimhpnpapdaaGreatDoor
open Go.RowKit
set_option linter.unusedVariables false
set_option linter.unusedSimpArgs false

set_option maxHeartbeats 4000000 in
set_option maxRecDepth 100000 in
/-- upoly.pack. -/
theorem pack_any {B : Nat} {w : World} {K : Nat} {p : Option Addr} {n : Nat} {es : List Ent} {zs : List Int} (h : PB B w K p n es zs) (W : Nat) (hW1 : 1 ≤ W) (hW : W ≤ 1000) (hn : n ≤ 1000) (hWe : ∀ j, j < n → zl (gx zs j) ≤ W) :
    Calls Tryz.prog 64 #[.slice p n n, .int .i64 W] w fun r w' => ∃ u : Ent, r = .returned (.agg #[.bool u.s, .slice u.p u.n u.c]) ∧ NV w.heap.size w' (W * n + W * n + 1) (pkf W (gx zs) n) u ∧ Below w.heap.size w w' := by
  obtain ⟨N, hN⟩ : ∃ N, N = W * n := ⟨_, rfl⟩
  have hNle : N ≤ 1000000 := by rw [hN]; exact Nat.mul_le_mul hW hn
  have e1 : (W : Int) * (n : Int) = (N : Int) := by rw [hN]; push_cast; rfl
  have HN : Hid (N = W * n) := hN
  rw [← hN]
  clear hN
  have hmk := mk_u32 N (by omega)
  have HX : Hid (PB B w K p n es zs ∧ ∀ j, j < n → zl (gx zs j) ≤ W) := ⟨h, hWe⟩
  clear h hWe
  go_enter Tryz.func64, Tryz.ntmps64
  go_wp2_with fail
  have hP0 : PK w (((w.alloc (.cells #[.bool false, .slice none 0 0] 29)).alloc (.cells (ca .u32 (zeros N)) 26)).alloc (.cells (ca .u32 (zeros N)) 26)) (w.heap.size + 1) (w.heap.size + 1 + 1) W n 0 zs (zeros N) (zeros N) := by
    refine ⟨?_, ?_, by rw [length_zeros]; exact HN.out, by rw [length_zeros]; exact HN.out, u32_zeros _, u32_zeros _, fun j _ => gx_zeros _ _, fun j _ => gx_zeros _ _, by rw [pkf]; omega, by omega, by omega, by omega, ((Bx.new _ _ _ rfl).alloc _).alloc _, bel_al (bel_al (bel_al (Below.refl _ _)))⟩
    · exact (Row.new1 w _ 26 .u32 (zeros N)).alloc _
    · exact Row.new2 w _ _ 26 .u32 (zeros N)
  have HP0 := (show Hid _ from hP0)
  generalize ((w.alloc (.cells #[.bool false, .slice none 0 0] 29)).alloc (.cells (ca .u32 (zeros N)) 26)).alloc (.cells (ca .u32 (zeros N)) 26) = W0 at *
  obtain ⟨ga, hga⟩ : ∃ ga, ga = w.heap.size + 1 := ⟨_, rfl⟩
  obtain ⟨gb, hgb⟩ : ∃ gb, gb = w.heap.size + 1 + 1 := ⟨_, rfl⟩
  rw [← hgb, ← hga] at HP0 ⊢
  clear hP0 hmk hga hgb
  go_loopw [7, 8, 9, 22] (fun _ _ _ kv wr => ∃ (k : Nat) (A Bl : List Int), k ≤ n ∧ kv = .int .i64 k ∧ Hid (PK w wr ga gb W n k zs A Bl)) (fun _ _ _ kv _ => n - (intOf kv).toNat)
  case atStart => exact ⟨0, zeros N, zeros N, Nat.zero_le _, by go_num, HP0.out⟩
  case round =>
    clear HP0
    obtain ⟨k, A, Bl, hk, rfl, H⟩ := hrel
    rcases Nat.lt_or_ge k n with hlt | hge
    · have hV := H.out
      have hPB := HX.out.1.below hV.bw
      obtain ⟨b, o, hp, hc⟩ := hPB.pl (by rw [hPB.el]; omega)
      subst hp
      obtain ⟨c0, c1⟩ := hc k (by rw [hPB.el]; omega)
      have hen := hPB.ev k hlt
      obtain ⟨z1, z2⟩ := hen.zl
      have hzw : (ge es k).n ≤ W := by rw [z1]; exact HX.out.2 k hlt
      obtain ⟨xs, r1, r2, r3, r4⟩ := en_parts hen
      obtain ⟨off, hoff⟩ : ∃ off, off = W * k := ⟨_, rfl⟩
      have hof1 : off + W ≤ N := by
        rw [hoff, HN.out]
        have : W * (k + 1) ≤ W * n := Nat.mul_le_mul_left _ hlt
        rw [Nat.mul_add, Nat.mul_one] at this
        exact this
      have e2 : (k : Int) * (W : Int) = (off : Int) := by rw [hoff, Int.mul_comm]; push_cast; rfl
      have HOF : Hid (off = W * k) := hoff
      have e3 : (off : Int) ≤ (N : Int) := by omega
      have e4 : IntKind.i64.wrap (off : Int) = (off : Int) := by rw [IntKind.wrap_i64]; omega
      have hlb : b < w.heap.size := by
        obtain ⟨b', o', hb', hl'⟩ := HX.out.1.pl.lt (by rw [HX.out.1.el]; omega)
        cases hb'
        exact hl'
      clear hc hPB hen z1 z2 hV hoff
      rcases r4 with ⟨hs, hv⟩ | ⟨hs, hv⟩
      · rw [hs] at c0
        clear hs
        have HV : Hid (val xs = gx zs k ∧ Rd wr (ge es k).p .u32 xs ∧ xs.length = (ge es k).n ∧ U32 xs) := ⟨hv, r1, r2, r3⟩
        clear hv r1 r2 r3
        go_upto_region 9 with fail
        have hal := bel_al (o := .cells #[.bool false, .slice (ge es k).p (ge es k).n (ge es k).c] 29) (Below.refl wr.heap.size wr)
        have hX1 : Bx (wr.alloc (.cells #[.bool false, .slice (ge es k).p (ge es k).n (ge es k).c] 29)) wr.heap.size (.bool false) (.slice (ge es k).p (ge es k).n (ge es k).c) := Bx.new _ _ _ rfl
        generalize wr.alloc (.cells #[.bool false, .slice (ge es k).p (ge es k).n (ge es k).c] 29) = W1 at *
        obtain ⟨q0, q1, -, -⟩ := hX1
        have hrow : Row W1.drew ga 26 .u32 A := (H.out.ra.below hal H.out.ra.lt).drew
        have hrd : Rd W1.drew (ge es k).p .u32 xs := (HV.out.2.1.below hal).drew
        have hlx := HV.out.2.2.1
        have hfit : off + (ge es k).n ≤ A.length := by rw [H.out.la, ← HN.out]; omega
        have hm : (ge es k).n ≤ N - off := by omega
        have HB1 : Hid (Below wr.heap.size wr W1.drew) := hal.drew
        have hne : ¬ N = off := by omega
        have hnei : ¬ (N : Int) = (off : Int) := by omega
        clear c0 c1 hal
        go_region_law (refine step_copy_g rfl (.tmp 35) (.tmp 37) rfl ga off (N - off) (N - off) (ge es k).p (ge es k).n (ge es k).c (by simp [Act.eval, Act.put]) (by simp [Act.eval, Act.put]) A xs hrow hrd hlx hm hfit ?_; intro w5 hr5 hg5)
        all_goals
          have hnx : ∃ A' B', PK w w5 ga gb W n (k + 1) zs A' B' := ⟨_, _, H.out.above HB1.out HV.out.2.2.2 HV.out.1 (by rw [hlx]; exact hzw) hlt (by rw [← HOF.out]; exact hr5) hg5⟩
          have HNX := (show Hid _ from hnx)
          clear hnx hr5 hg5 hrow hrd q0 q1
          go_wp2
          obtain ⟨A', B', hnx⟩ := HNX.out
          exact ⟨⟨k + 1, A', B', by omega, by go_num, hnx⟩, by simp [intOf]; omega⟩
      · rw [hs] at c0
        clear hs
        have HV : Hid (val xs = -gx zs k ∧ Rd wr (ge es k).p .u32 xs ∧ xs.length = (ge es k).n ∧ U32 xs) := ⟨hv, r1, r2, r3⟩
        clear hv r1 r2 r3
        go_upto_region 9 with fail
        have hal := bel_al (o := .cells #[.bool true, .slice (ge es k).p (ge es k).n (ge es k).c] 29) (Below.refl wr.heap.size wr)
        have hX1 : Bx (wr.alloc (.cells #[.bool true, .slice (ge es k).p (ge es k).n (ge es k).c] 29)) wr.heap.size (.bool true) (.slice (ge es k).p (ge es k).n (ge es k).c) := Bx.new _ _ _ rfl
        generalize wr.alloc (.cells #[.bool true, .slice (ge es k).p (ge es k).n (ge es k).c] 29) = W1 at *
        obtain ⟨q0, q1, -, -⟩ := hX1
        have hrow : Row W1.drew gb 26 .u32 Bl := (H.out.rb.below hal H.out.rb.lt).drew
        have hrd : Rd W1.drew (ge es k).p .u32 xs := (HV.out.2.1.below hal).drew
        have hlx := HV.out.2.2.1
        have hfit : off + (ge es k).n ≤ Bl.length := by rw [H.out.lb, ← HN.out]; omega
        have hm : (ge es k).n ≤ N - off := by omega
        have HB1 : Hid (Below wr.heap.size wr W1.drew) := hal.drew
        have hne : ¬ N = off := by omega
        have hnei : ¬ (N : Int) = (off : Int) := by omega
        clear c0 c1 hal
        go_region_law (refine step_copy_g rfl (.tmp 35) (.tmp 37) rfl gb off (N - off) (N - off) (ge es k).p (ge es k).n (ge es k).c (by simp [Act.eval, Act.put]) (by simp [Act.eval, Act.put]) Bl xs hrow hrd hlx hm hfit ?_; intro w5 hr5 hg5)
        all_goals
          have hnx : ∃ A' B', PK w w5 ga gb W n (k + 1) zs A' B' := ⟨_, _, H.out.under HB1.out HV.out.2.2.2 HV.out.1 (by rw [hlx]; exact hzw) hlt (by rw [← HOF.out]; exact hr5) hg5⟩
          have HNX := (show Hid _ from hnx)
          clear hnx hr5 hg5 hrow hrd q0 q1
          go_wp2
          obtain ⟨A', B', hnx⟩ := HNX.out
          exact ⟨⟨k + 1, A', B', by omega, by go_num, hnx⟩, by simp [intOf]; omega⟩
    · obtain rfl : k = n := by omega
      have hV := H.out
      have hai : AI wr (some ⟨ga, 0, none⟩) N N A := ⟨by rw [hV.la, HN.out], Nat.le_refl _, by unfold maxLen; omega, by omega, hV.ra.rd_all, hV.ua⟩
      have hbi : AI wr (some ⟨gb, 0, none⟩) N N Bl := ⟨by rw [hV.lb, HN.out], Nat.le_refl _, by unfold maxLen; omega, by omega, hV.rb.rd_all, hV.ub⟩
      have hsb := Sub_ev (e := ⟨false, some ⟨ga, 0, none⟩, N, N⟩) (f := ⟨false, some ⟨gb, 0, none⟩, N, N⟩) (K := N) (L := N) ⟨A, hai, rfl, Nat.le_refl _⟩ ⟨Bl, hbi, rfl, Nat.le_refl _⟩
      have ev : ival false A - ival false Bl = pkf W (gx zs) k := by simp only [ival]; exact hV.v
      rw [ev] at hsb
      have hrx := hV.rx
      have HB : Hid (Below w.heap.size w wr) := hV.bw
      have sR : w.heap.size < wr.heap.size := block_lt_of_cell hrx.c0
      clear H hV hai hbi ev hge
      go_wp2_with fail
      refine hsb.mono ?_
      rintro r w5 ⟨u, rfl, hN5, hb5⟩
      obtain ⟨r0, r1, f0, f1⟩ := hrx.later hb5
      have HN5 : Hid (NV wr.heap.size w5 (N + N + 1) (pkf W (gx zs) k) u) := hN5
      clear hsb hN5 hrx
      go_wp2
      refine bodyPost_ret (v := .agg #[.bool u.s, .slice u.p u.n u.c]) (by simp [results, Tryz.results64, go_sem, r0, r1]) rfl ⟨u, rfl, ?_, ?_⟩
      · exact (HN5.out.set2 (g := w.heap.size) (o := 0) sR _ _).mono (Nat.le_of_lt sR)
      · exact bset2 (bnext' HB.out hb5) (Nat.le_refl _) _ _
end Go.Proofs.YtakfimhpnpapdaaGreatDoor
