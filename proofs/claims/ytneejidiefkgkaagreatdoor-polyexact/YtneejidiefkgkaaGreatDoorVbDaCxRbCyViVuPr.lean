/-
  Lists of the reference that grow by append; ashlarref3.Of.
-/
import Derived.Test.YtneejidiefkgkaaGreatDoorRhCqRrRwVa
import Derived.Test.YtneejidiefkgkaaGreatDoorVgRo
import Derived.Test.YtneejidiefkgkaaGreatDoorUbUcUdOwRa
import Derived.Test.YtneejidiefkgkaaGreatDoorWkWlBxBbCvNj
import Derived.Test.YtneejidiefkgkaaGreatDoorPqReRxRf
import Derived.Test.YtneejidiefkgkaaGreatDoorWbWcWdWe
import Derived.Test.YtneejidiefkgkaaGreatDoorWfUuUxUt
import Derived.Deep.RegionHeld3
namespace Go.Proofs.YtneejidiefkgkaaGreatDoor
open Go.RowKit
set_option linter.unusedVariables false
set_option linter.unusedSimpArgs false

theorem Rd.grown {w w' : World} {p : Option Addr} {k : IntKind} {xs : List Int} {row : Option Nat} (h : Rd w p k xs) (hg : w.grownBy w' row) (hne : 0 < xs.length → ∀ a, p = some a → some a.block ≠ row) : Rd w' p k xs := fun hx => h.kept hg (hne hx) hx
theorem RE.grown {w w' : World} {N : Nat} {z : Int} {e : Ent} {row : Option Nat} (h : RE w N z e) (hg : w.grownBy w' row) (hne : 0 < e.n → ∀ a, e.p = some a → some a.block ≠ row) : RE w' N z e := by
  obtain ⟨⟨ds, h1, h2, h3⟩, h4⟩ := h
  exact ⟨⟨ds, ⟨h1.len, h1.rd.grown hg (by rw [h1.len]; exact hne), h1.u, h1.nrm, h1.sg, h1.sml⟩, h2, h3⟩, h4⟩
theorem RE.lt {w : World} {N : Nat} {z : Int} {e : Ent} (h : RE w N z e) : 0 < e.n → ∀ a, e.p = some a → a.block < w.heap.size := by
  obtain ⟨⟨ds, h1, h2, h3⟩, h4⟩ := h
  exact h1.lt
/-- A list that grows. -/
structure LR (base : Nat) (w : World) (N : Nat) (v : Value) (es : List Ent) (zs : List Int) : Prop where
  own : w.ownsRow base 50 2 v es.length (fl es)
  zl : zs.length = es.length
  ev : ∀ j, j < es.length → RE w N (gx zs j) (ge es j)
  off : ∀ j, j < es.length → 0 < (ge es j).n → ∀ a, (ge es j).p = some a → some a.block ≠ v.ownBlock
theorem LR.nil (base : Nat) (w : World) (N : Nat) : LR base w N (.slice none 0 0) [] [] := ⟨World.ownsRow_nil _ _ _ _, rfl, fun j hj => by simp at hj, fun j hj => by simp at hj⟩
theorem LR.app {base : Nat} {wr w1 w3 : World} {N : Nat} {v : Value} {es : List Ent} {zs : List Int} {z : Int} {e : Ent} {o : Obj} {g cap : Nat} (h : LR base wr N v es zs) (hb1 : Below wr.heap.size wr w1) (hE : RE w1 N z e) (hF : Go.Proofs.YtneejidiefkgkaaGreatDoor.From wr.heap.size e.p)
    (hown : w3.ownsRow base 50 2 (.slice (some ⟨g, 0, none⟩) (es.length + 1) cap) (es.length + 1) (fl es ++ [.bool e.s, .slice e.p e.n e.c])) (hgrow : (w1.alloc o).grownBy w3 v.ownBlock) (hat : v.ownBlock = some g ∨ g = (w1.alloc o).heap.size) :
    LR base w3 N (.slice (some ⟨g, 0, none⟩) (es.length + 1) cap) (es ++ [e]) (zs ++ [z]) := by
  have hal : Below w1.heap.size w1 (w1.alloc o) := (Below.refl _ _).alloc (Nat.le_refl _) o
  have hs1 := hb1.size
  have hs2 := hal.size
  have old : ∀ j, j < es.length → RE (w1.alloc o) N (gx zs j) (ge es j) := fun j hj => ((h.ev j hj).below hb1).below hal
  have new : RE (w1.alloc o) N z e := hE.below hal
  have noff : 0 < e.n → ∀ a, e.p = some a → some a.block ≠ v.ownBlock := fun _ a ha hq => by
    have h1 := (h.own.lt a.block hq.symm).2
    have h2 := hF a ha
    omega
  refine ⟨by rw [List.length_append, fl_snoc]; exact hown, by simp [h.zl], fun j hj => ?_, fun j hj hn a ha hq => ?_⟩
  · rcases Nat.lt_or_ge j es.length with hlt | hge
    · rw [ge_append_left _ _ _ hlt, gx_append_left _ _ _ (by rw [h.zl]; exact hlt)]
      exact (old j hlt).grown hgrow (h.off j hlt)
    · have : j = es.length := by simp at hj; omega
      subst this
      have e1 : gx (zs ++ [z]) es.length = z := by rw [← h.zl, gx_append_right _ _ _ (Nat.le_refl _), Nat.sub_self]; rfl
      rw [ge_snoc, e1]
      exact new.grown hgrow noff
  · have hq' : a.block = g := Option.some.inj hq
    rcases Nat.lt_or_ge j es.length with hlt | hge
    · rw [ge_append_left _ _ _ hlt] at hn ha
      rcases hat with h1 | h1
      · exact h.off j hlt hn a ha (by rw [h1, hq'])
      · have := (old j hlt).lt hn a ha
        omega
    · have : j = es.length := by simp at hj; omega
      subst this
      rw [ge_snoc] at hn ha
      rcases hat with h1 | h1
      · exact noff hn a ha (by rw [h1, hq'])
      · have := new.lt hn a ha
        omega
theorem LR.pr {base : Nat} {w : World} {N : Nat} {v : Value} {es : List Ent} {zs : List Int} (h : LR base w N v es zs) : ∃ q cap, v = .slice q es.length cap ∧ PR w N q es.length cap es zs ∧ Go.Proofs.YtneejidiefkgkaaGreatDoor.From base q := by
  obtain ⟨q, cap, h1, h2, h3, h4, -⟩ := owns2_form h.own
  have ho := h.own
  rw [h1] at ho
  exact ⟨q, cap, h1, ⟨rfl, h.zl, h2, h3, owns2_pl ho, h.ev⟩, h4⟩
end Go.Proofs.YtneejidiefkgkaaGreatDoor
/-
  Numbers of the reference: the type, what a function answers.
-/
namespace Go.Proofs.YtneejidiefkgkaaGreatDoor
open Go.RowKit
set_option linter.unusedVariables false
set_option linter.unusedSimpArgs false

theorem info_ref : (Tryz.prog.info? 50).map (fun i => (i.zero, i.size, i.bytes)) = some (some (.agg #[.bool false, .slice none 0 0]), 2, 32) := by kernel_rfl
theorem lr_app {base : Nat} {wr w1 w3 : World} {N : Nat} {v : Value} {es : List Ent} {zs : List Int} {z : Int} {s : Bool} {p : Option Addr} {n k : Nat} {o : Obj} {g cap : Nat} (hk : es.length = k) (h : LR base wr N v es zs) (hb1 : Below wr.heap.size wr w1) (hE : RE w1 N z ⟨s, p, n, n⟩) (hF : Go.Proofs.YtneejidiefkgkaaGreatDoor.From wr.heap.size p)
    (hown : w3.ownsRow base 50 2 (.slice (some ⟨g, 0, none⟩) (k + 1) cap) (k + 1) (fl es ++ [.bool s, .slice p n n])) (hgrow : (w1.alloc o).grownBy w3 v.ownBlock) (hat : v.ownBlock = some g ∨ g = (w1.alloc o).heap.size) :
    LR base w3 N (.slice (some ⟨g, 0, none⟩) (k + 1) cap) (es ++ [⟨s, p, n, n⟩]) (zs ++ [z]) := by
  subst hk
  exact h.app hb1 hE hF hown hgrow hat
/-- What a function of the reference answers that gives a polynomial: no zero at its end. -/
def PrP (zs : List Int) (N : Nat) (w : World) (e : Ending) (w' : World) : Prop :=
  ∃ p n es, e = .returned (.slice p n n) ∧ PR w' N p n n es zs ∧ Go.Proofs.YtneejidiefkgkaaGreatDoor.From w.heap.size p ∧ tlen zs = n ∧ Below w.heap.size w w'
end Go.Proofs.YtneejidiefkgkaaGreatDoor
/-
  What the walks of the laws share: numbers and boxes carried on.
-/
namespace Go.Proofs.YtneejidiefkgkaaGreatDoor
open Go.RowKit
set_option linter.unusedVariables false
set_option linter.unusedSimpArgs false

/-- A number in a variable of its own: the variable's block, its sign, its limbs, from block F on. -/
structure Vr (w : World) (g : Nat) (s : Bool) (p : Option Addr) (n nc F : Nat) (xs : List Int) : Prop where
  b : Bx w g (.bool s) (.slice p n nc)
  a : AI w p n nc xs
  f : Go.Proofs.YtneejidiefkgkaaGreatDoor.From F p
theorem Vr.later {w w' : World} {g : Nat} {s : Bool} {p : Option Addr} {n nc F : Nat} {xs : List Int} (h : Vr w g s p n nc F xs) (hb : Below w.heap.size w w') : Vr w' g s p n nc F xs := ⟨h.b.later hb, h.a.below hb, h.f⟩
end Go.Proofs.YtneejidiefkgkaaGreatDoor
/-
  ashlarref1.From.
-/
namespace Go.Proofs.YtneejidiefkgkaaGreatDoor
open Go.RowKit
set_option linter.unusedVariables false
set_option linter.unusedSimpArgs false

/-- What From answers. -/
def FromPost (s : Bool) (xs : List Int) (w : World) (e : Ending) (w' : World) : Prop :=
  ∃ s' p' n', e = .returned (.agg #[.bool s', .slice p' n' n']) ∧ RN w' s' p' n' (tr (spl xs)) ∧ s' = nsg s (spl xs) ∧ Go.Proofs.YtneejidiefkgkaaGreatDoor.From w.heap.size p' ∧ Below w.heap.size w w'

set_option maxRecDepth 100000 in
set_option maxHeartbeats 2000000 in
/-- ashlarref1.From. -/
theorem From_any (s : Bool) (p : Option Addr) (n nc : Nat) (xs : List Int) (w : World) (hA : AI w p n nc xs) :
    Calls Tryz.prog 23 #[.agg #[.bool s, .slice p n nc]] w (FromPost s xs w) := by
  obtain ⟨i0, hi, hzz⟩ := Option.map_eq_some_iff.1 info_int
  simp only [Prod.mk.injEq] at hzz
  obtain ⟨hz0, hz1, hz2⟩ := hzz
  have HI : Hid (Tryz.prog.info? 3 = some i0 ∧ i0.zero = some (.int .i64 0) ∧ i0.size = 1 ∧ i0.bytes = 8) := ⟨hi, hz0, hz1, hz2⟩
  clear hi hz0 hz1 hz2
  have hl := hA.len
  have hs := hA.sml
  go_enter Tryz.func23, Tryz.ntmps23
  go_wp2
  have hb1 : Bx ((w.alloc (.cells #[.bool s, .slice p n nc] 47)).alloc (.cells #[.bool false, .slice none 0 0] 50)) w.heap.size (.bool s) (.slice p n nc) := (Bx.new _ _ _ rfl).alloc _
  have hb2 : Bx ((w.alloc (.cells #[.bool s, .slice p n nc] 47)).alloc (.cells #[.bool false, .slice none 0 0] 50)) (w.heap.size + 1) (.bool false) (.slice none 0 0) := Bx.new _ _ _ (World.size_alloc ..).symm
  have hbw : Below w.heap.size w ((w.alloc (.cells #[.bool s, .slice p n nc] 47)).alloc (.cells #[.bool false, .slice none 0 0] 50)) := ((Below.refl _ _).alloc (Nat.le_refl _) _).alloc (by simp) _
  have hsz : ((w.alloc (.cells #[.bool s, .slice p n nc] 47)).alloc (.cells #[.bool false, .slice none 0 0] 50)).heap.size = w.heap.size + 1 + 1 := by simp
  generalize ((w.alloc (.cells #[.bool s, .slice p n nc] 47)).alloc (.cells #[.bool false, .slice none 0 0] 50)) = W at *
  have HS : Hid (W.heap.size = w.heap.size + 1 + 1) := hsz
  clear hsz
  have hAW := hA.below hbw
  go_loopw [3, 4] (fun dv iv wr => ∃ (k : Nat), k ≤ n ∧ iv = .int .i64 k ∧ Hid (wr.ownsRow W.heap.size 3 1 dv (2 * k) ((spl (xs.take k)).map (Value.int .i64)) ∧ Below W.heap.size W wr)) (fun _ iv _ => n - (intOf iv).toNat)
  case atStart => exact ⟨0, Nat.zero_le _, rfl, World.ownsRow_nil _ _ _ _, Below.refl _ _⟩
  case round =>
    obtain ⟨k, hk, rfl, H⟩ := hrel
    have hBr := H.out.2
    have hb1r := hb1.later hBr
    have hb2r := hb2.later hBr
    have k0 := hb1r.c0
    have k1 := hb1r.c1
    by_cases hlt : k < n
    · obtain ⟨b, off, rfl, hcell⟩ := (hAW.rd.below hBr) (by omega)
      have hck := hcell k (by omega)
      obtain ⟨x0, x1⟩ := hA.u k
      have hltI : (k : Int) < (n : Int) := by omega
      have q1 : (gx xs k).tmod 65536 = gx xs k % 65536 := Int.tmod_eq_emod_of_nonneg x0
      have q2 : (gx xs k).tdiv 65536 = gx xs k / 65536 := Int.tdiv_eq_ediv_of_nonneg x0
      have q3 : IntKind.i64.wrap (gx xs k % 65536) = gx xs k % 65536 := by rw [IntKind.wrap_i64]; omega
      have q4 : IntKind.u32.wrap (gx xs k / 65536) = gx xs k / 65536 := by rw [IntKind.wrap_u32']; omega
      have q5 : IntKind.i64.wrap (gx xs k / 65536) = gx xs k / 65536 := by rw [IntKind.wrap_i64]; omega
      have hbl : b < wr.heap.size := block_lt_of_cell hck
      obtain ⟨b', off', hp', hcellW⟩ := hAW.rd (by omega)
      cases hp'
      have hckW := hcellW k (by omega)
      have hwl : w.heap.size < wr.heap.size := by have h1 := HS.out; have h2 := hBr.size; omega
      clear hcell hcellW
      obtain ⟨hi, hz0, hz1, hz2⟩ := HI.out
      have hown := H.out.1
      have HO : Hid (wr.ownsRow W.heap.size 3 1 u3 (2 * k) ((spl (xs.take k)).map (Value.int .i64))) := hown
      clear hown
      go_wp2
      go_region_held3 (fun w' => w'.cell? ⟨w.heap.size, 1, none⟩ = some (.slice (some ⟨b, off, none⟩) n nc) ∧ w'.cell? ⟨b, off + k, none⟩ = some (.int .u32 (gx xs k))) (first | exact ⟨by assumption, by assumption⟩ | (simp [go_sem, *]; done))
        (first
          | (refine step_append_lies _ rfl _ _ 48 rfl W.heap.size 3 i0 (.int .i64 0) 1 8 Tryz.underlying48 hi hz0 hz1 hz2 rfl (by decide) u3 (2 * k) ((spl (xs.take k)).map (Value.int .i64)) rfl (HO.out.alloc _) ⟨wr.heap.size, 0, none⟩ 2 2 [.int .i64 (gx xs k % 65536), .int .i64 (gx xs k / 65536)] rfl rfl ?_ (fun x hx => by simp at hx; rcases hx with rfl | rfl <;> rfl) (by decide) (by unfold maxLen; omega) (by omega) (by have := hBr.size; simp; omega) _ rfl ?_; exact fun j u hu => (World.cell?_drew ..).trans (cell_two_new wr _ _ _ j u hu); intro g cap w3 hown3 hgrow3 hat3 hlt3; have hB3 : Below W.heap.size W w3 := (bel_alw hBr.drew).grown hgrow3 (by have := hBr.size; simp; omega) (fun q hq => (HO.out.lt q hq).1); have e1 := cell_later hB3 hb1.c1; have e2 := cell_later hB3 hckW))
      go_wp2
      refine ⟨⟨k + 1, by omega, by go_num, ?_, hB3⟩, by simp [intOf]; omega⟩
      rw [spl_snoc xs k (by omega), List.map_append, show 2 * (k + 1) = 2 * k + 2 by omega]
      exact hown3
    · have hkn : k = n := by omega
      subst hkn
      have c0 := hb2r.c0
      have c1 := hb2r.c1
      obtain ⟨hown, _⟩ := H.out
      rw [List.take_of_length_le (by omega)] at hown
      have hform : ∃ q cap, u3 = .slice q (2 * k) cap ∧ 2 * k ≤ cap ∧ cap ≤ maxLen ∧ Rd wr q .i64 (spl xs) ∧ Go.Proofs.YtneejidiefkgkaaGreatDoor.From W.heap.size q := by
        rcases hown.2 with ⟨h1, h2⟩ | ⟨g, cap, cur, h1, hbg, _, h4, h5, _⟩
        · refine ⟨none, 0, by rw [h1, h2], by omega, Nat.zero_le _, ?_, from_none⟩
          have : spl xs = [] := List.eq_nil_of_length_eq_zero (by rw [length_spl]; omega)
          rw [this]; exact Rd.nil
        · subst h1
          exact ⟨_, cap, rfl, h4, h5, rd_owns hown, from_new hbg⟩
      obtain ⟨q, cap, rfl, hq1, hq2, hq3, hq4⟩ := hform
      clear hown
      go_wp2_with fail
      refine (rtrim_any s q (2 * k) cap (spl xs) _ (by rw [length_spl]; omega) hq1 hq2 hq3).mono ?_
      rintro e w4 ⟨rfl, hb4⟩
      obtain ⟨z0, z1, z2, z3⟩ := resbox hb4 hb2r.c0 hb2r.c1 hb2r.f0 hb2r.f1
      go_wp2
      have htl := tlen_le (spl xs)
      rw [length_spl] at htl
      have hsW := HS.out
      refine bodyPost_ret (v := .agg #[.bool (nsg s (spl xs)), .slice q (tlen (spl xs)) (tlen (spl xs))]) (by simp [results, Tryz.results23, go_sem, z0, z1]) rfl ?_
      refine ⟨_, q, tlen (spl xs), rfl, ⟨length_tr _, ?_, u16_tr (u16_spl hA.u), tlen_tr _, fun h => by rw [nsg, if_pos h], by omega⟩, rfl, fun a ha => by have := hq4 a ha; omega, ?_⟩
      · exact ((hq3.tr.below hb4).set_other _ _ (fun a ha => by have := hq4 a ha; simp; omega)).set_other _ _ (fun a ha => by have := hq4 a ha; simp; omega)
      · exact (((hbw.trans (hBr.mono hbw.size)).trans (hb4.mono (by have := hBr.size; have := hbw.size; omega))).setCell (by simp) _).setCell (by simp) _
end Go.Proofs.YtneejidiefkgkaaGreatDoor
/-
  What the walks of the laws share: reference numbers carried on.
-/
namespace Go.Proofs.YtneejidiefkgkaaGreatDoor
open Go.RowKit
set_option linter.unusedVariables false
set_option linter.unusedSimpArgs false

/-- A reference number with its value. -/
theorem From_ansF (s : Bool) (p : Option Addr) (n nc : Nat) (xs : List Int) (w : World) (hA : AI w p n nc xs) :
    Calls Tryz.prog 23 #[.agg #[.bool s, .slice p n nc]] w fun e w' => ∃ s' p' n' ds', e = .returned (.agg #[.bool s', .slice p' n' n']) ∧ RN w' s' p' n' ds' ∧ rval s' ds' = ival s xs ∧ n' ≤ 2 * n ∧ Go.Proofs.YtneejidiefkgkaaGreatDoor.From w.heap.size p' ∧ Below w.heap.size w w' := by
  refine (From_any s p n nc xs w hA).mono ?_
  rintro e w' ⟨s', q, nq, rfl, hR, rfl, hF, hb⟩
  refine ⟨_, q, nq, _, rfl, hR, by rw [rval_nsg s (u16_spl hA.u), rval_spl], ?_, hF, hb⟩
  have h1 := hR.nrm
  rw [tlen_tr] at h1
  have h2 := tlen_le (spl xs)
  rw [length_spl] at h2
  have := hA.len
  omega
theorem From_ans (s : Bool) (p : Option Addr) (n nc : Nat) (xs : List Int) (w : World) (hA : AI w p n nc xs) :
    Calls Tryz.prog 23 #[.agg #[.bool s, .slice p n nc]] w fun e w' => ∃ s' p' n' ds', e = .returned (.agg #[.bool s', .slice p' n' n']) ∧ RN w' s' p' n' ds' ∧ rval s' ds' = ival s xs ∧ n' ≤ 2 * n ∧ Below w.heap.size w w' := by
  refine (From_ansF s p n nc xs w hA).mono ?_
  rintro e w' ⟨s', p', n', ds', h1, h2, h3, h4, h5, h6⟩
  exact ⟨s', p', n', ds', h1, h2, h3, h4, h6⟩
end Go.Proofs.YtneejidiefkgkaaGreatDoor
/-
  ashlarref3.From.
-/
namespace Go.Proofs.YtneejidiefkgkaaGreatDoor
open Go.RowKit
set_option linter.unusedVariables false
set_option linter.unusedSimpArgs false

theorem lasts_RE (N : Nat) : Lasts (fun w z e => RE w N z e) := ⟨fun h hg hne => h.grown hg hne, fun h => h.lt⟩
theorem LG.pr {base : Nat} {w : World} {N : Nat} {v : Value} {es : List Ent} {zs : List Int} (h : LG base 50 (fun w z e => RE w N z e) w v es zs) : ∃ q cap, v = .slice q es.length cap ∧ PR w N q es.length cap es zs ∧ Go.Proofs.YtneejidiefkgkaaGreatDoor.From base q := by
  obtain ⟨q, cap, h1, h2, h3, h4, h5, -⟩ := h.pl
  exact ⟨q, cap, h1, ⟨rfl, h.zl, h2, h3, h4, h.ev⟩, h5⟩
theorem lg_app {base : Nat} {t : TypeId} {E : World → Int → Ent → Prop} (L : Lasts E) {wr w1 w3 : World} {v : Value} {es : List Ent} {zs : List Int} {z : Int} {s : Bool} {p : Option Addr} {n c k : Nat} {o : Obj} {g cap : Nat} (hk : es.length = k) (h : LG base t E wr v es zs) (hb1 : Below wr.heap.size wr w1) (hE : E w1 z ⟨s, p, n, c⟩) (hF : Go.Proofs.YtneejidiefkgkaaGreatDoor.From wr.heap.size p)
    (hown : w3.ownsRow base t 2 (.slice (some ⟨g, 0, none⟩) (k + 1) cap) (k + 1) (fl es ++ [.bool s, .slice p n c])) (hgrow : (w1.alloc o).grownBy w3 v.ownBlock) (hat : v.ownBlock = some g ∨ g = (w1.alloc o).heap.size) :
    LG base t E w3 (.slice (some ⟨g, 0, none⟩) (k + 1) cap) (es ++ [⟨s, p, n, c⟩]) (zs ++ [z]) :=
  LG.app L hk h hb1 hE (fun _ a ha => .inr (hF a ha)) hown hgrow hat
set_option maxHeartbeats 2000000 in
set_option maxRecDepth 100000 in
/-- ashlarref3.From. -/
theorem rpFrom_any {w : World} {K : Nat} {p : Option Addr} {n nc : Nat} {es0 : List Ent} {zs : List Int} (h : PA w K p n nc es0 zs) (hn : n ≤ 100000) (hK : K ≤ 400) :
    Calls Tryz.prog 7 #[.slice p n nc] w (PrP (tr zs) (2 * K) w) := by
  obtain ⟨i0, hi, hzz⟩ := Option.map_eq_some_iff.1 info_ref
  simp only [Prod.mk.injEq] at hzz
  obtain ⟨hz0, hz1, hz2⟩ := hzz
  have HI : Hid (Tryz.prog.info? 50 = some i0 ∧ i0.zero = some (.agg #[.bool false, .slice none 0 0]) ∧ i0.size = 2 ∧ i0.bytes = 32) := ⟨hi, hz0, hz1, hz2⟩
  have HX : Hid (PA w K p n nc es0 zs) := h
  clear h hi hz0 hz1 hz2
  go_enter Tryz.func7, Tryz.ntmps7
  go_wp2_with fail
  go_loopw [3, 4] (fun qv iv wr => ∃ (k : Nat) (es : List Ent), k ≤ n ∧ iv = .int .i64 k ∧ Hid (es.length = k ∧ LG w.heap.size 50 (fun w z e => RE w (2 * K) z e) wr qv es (zs.take k) ∧ Below w.heap.size w wr)) (fun _ iv _ => n - (intOf iv).toNat)
  case atStart => exact ⟨0, [], Nat.zero_le _, by go_num, rfl, by rw [List.take_zero]; exact LG.nil _ _ _ _, Below.refl _ _⟩
  case round =>
    obtain ⟨k, es, hk, rfl, H⟩ := hrel
    rcases Nat.lt_or_ge k n with hlt | hge
    · obtain ⟨hel, hLR, hB⟩ := H.out
      have hPA := HX.out.below hB
      obtain ⟨b, o, hp, hc⟩ := hPA.pl (by rw [hPA.el]; omega)
      subst hp
      obtain ⟨c0, c1⟩ := hc k (by rw [hPA.el]; omega)
      obtain ⟨xs, hA, hv, hle⟩ := hPA.ev k hlt
      have hzl := hPA.zl
      clear hel hLR hB hc hPA
      go_wp2_with fail
      refine (From_ansF (ge es0 k).s (ge es0 k).p (ge es0 k).n (ge es0 k).c xs _ hA).mono ?_
      rintro e w1 ⟨s1, p1, n1, d1, rfl, hR1, hv1, hn1, hF1, hb1⟩
      have HE : Hid (RE w1 (2 * K) (gx zs k) ⟨s1, p1, n1, n1⟩) := ⟨⟨d1, hR1, by rw [hv1, hv], by show n1 ≤ _; omega⟩, rfl⟩
      clear c0 c1 hR1 hv1 hA hv
      obtain ⟨hi, hz0, hz1, hz2⟩ := HI.out
      have hown0 := own_below H.out.2.1.own hb1
      rw [H.out.1] at hown0
      have HO : Hid (w1.ownsRow w.heap.size 50 2 u3 k (fl es)) := hown0
      have hsz : w.heap.size ≤ w1.heap.size := Nat.le_trans H.out.2.2.size hb1.size
      clear hown0
      go_wp2_with (refine wpList_append_lies _ rfl _ _ 27 rfl w.heap.size 50 i0 (.agg #[.bool false, .slice none 0 0]) 2 32 Tryz.underlying27 hi hz0 hz1 hz2 rfl (by decide) u3 k (fl es) rfl (HO.out.alloc _) ⟨w1.heap.size, 0, none⟩ 1 1 [.bool s1, .slice p1 n1 n1] rfl rfl ?_ (fun x hx => by simp at hx; rcases hx with rfl | rfl <;> rfl) (by decide) (by unfold maxLen; omega) (by omega) (by simp; omega) _ rfl ?_; exact World.news_of_block (heap_alloc_new w1 _); intro g cap w3 hown3 hgrow3 hat3 hlt3; have hB3 : Below w.heap.size w w3 := ((bnext' H.out.2.2 hb1).alloc hsz _).grown hgrow3 (by simp; omega) (fun q hq => (HO.out.lt q hq).1); have HA : Hid (LG w.heap.size 50 (fun w z e => RE w (2 * K) z e) w3 (.slice (some ⟨g, 0, none⟩) (k + 1) cap) (es ++ [⟨s1, p1, n1, n1⟩]) (zs.take k ++ [gx zs k])) := lg_app (lasts_RE _) H.out.1 H.out.2.1 hb1 HE.out hF1 hown3 hgrow3 hat3; clear hown3 hgrow3 hat3)
      refine ⟨⟨k + 1, es ++ [⟨s1, p1, n1, n1⟩], by omega, by go_num, by have := H.out.1; simp; omega, by rw [take_snocg zs k (by omega)]; exact HA.out, hB3⟩, by simp [intOf]; omega⟩
    · obtain rfl : k = n := by omega
      obtain ⟨hel, hLR, hB⟩ := H.out
      have hzl := HX.out.zl
      rw [List.take_of_length_le (by omega)] at hLR
      obtain ⟨q, cap, hv, hPR, hF⟩ := hLR.pr
      subst hv
      rw [hel] at hPR ⊢
      have HB : Hid (Below w.heap.size w wr) := hB
      clear H hLR hB hge hk
      go_wp2_with fail
      refine (rTrim_any (2 * K) q k cap es zs _ hPR (by omega)).mono ?_
      rintro e w1 ⟨rfl, hb1⟩
      have HP : Hid (PR wr (2 * K) q k cap es zs) := hPR
      clear hPR
      go_wp2
      go_ret
      have htl := tlen_le zs
      have hcap := HP.out.cap
      have hT := (HP.out.below hb1).take (tlen zs) (tlen zs) (by omega) (Nat.le_refl _) (by omega)
      exact ⟨q, tlen zs, es.take (tlen zs), rfl, hT, hF, tlen_tr zs, bnext' HB.out hb1⟩
end Go.Proofs.YtneejidiefkgkaaGreatDoor
/-
  Small rules on the reference's numbers in a list.
-/
namespace Go.Proofs.YtneejidiefkgkaaGreatDoor
open Go.RowKit
set_option linter.unusedVariables false
set_option linter.unusedSimpArgs false

theorem rval_abs (s : Bool) {ds : List Int} (h : U16 ds) : vd ds = ((rval s ds).natAbs : Int) := by
  have := vd_nonneg h
  unfold rval
  split <;> omega
theorem RE.set2 {w : World} {N : Nat} {z : Int} {e : Ent} {g o : Nat} {u v : Value} (h : RE w N z e) (ho : 0 < e.n → Off g e.p) : RE ((w.setCell ⟨g, o, none⟩ u).setCell ⟨g, o + 1, none⟩ v) N z e := by
  obtain ⟨⟨ds, h1, h2⟩, h4⟩ := h
  refine ⟨⟨ds, ⟨h1.len, fun hx => ?_, h1.u, h1.nrm, h1.sg, h1.sml⟩, h2⟩, h4⟩
  have := ho (by rw [h1.len] at hx; exact hx)
  exact ((h1.rd.set_other ⟨g, o, none⟩ u this).set_other ⟨g, o + 1, none⟩ v this) hx
theorem RN.fit {w : World} {s : Bool} {p : Option Addr} {n N : Nat} {ds : List Int} (h : RN w s p n ds) (hz : ((rval s ds).natAbs : Int) < pd N) : n ≤ N := by
  have a := vd_nonneg h.u
  have e : ((rval s ds).natAbs : Int) = vd ds := by unfold rval; split <;> omega
  rw [e] at hz
  rcases Nat.lt_or_ge N n with hk | hk
  · have b := vd_pos_of_top h.u (by rw [h.nrm]; omega)
    rw [h.nrm] at b
    have c := pd_mono (show N ≤ n - 1 by omega)
    omega
  · exact hk
theorem RE_al {w : World} {N : Nat} {z : Int} {e : Ent} {o : Obj} (h : RE w N z e) : RE (w.alloc o) N z e := h.below ((Below.refl _ _).alloc (Nat.le_refl _) o)
theorem re_st {w : World} {N : Nat} {z : Int} {e : Ent} {a : Addr} {v : Value} (h : RE w N z e) (ho : 0 < e.n → Off a.block e.p) : RE (w.setCell a v) N z e := by
  obtain ⟨⟨ds, h1, h2⟩, h4⟩ := h
  exact ⟨⟨ds, ⟨h1.len, fun hx => (h1.rd.set_other a v (ho (by rw [h1.len] at hx; exact hx))) hx, h1.u, h1.nrm, h1.sg, h1.sml⟩, h2⟩, h4⟩
theorem RE_st2 {w : World} {N U : Nat} {z : Int} {e : Ent} {a : Addr} {v : Value} (hU : 0 < e.n → ∀ x, e.p = some x → x.block < U) (ha : U ≤ a.block) (h : RE w N z e) : RE (w.setCell a v) N z e := re_st h fun h0 b hb e' => by have := hU h0 b hb; omega
theorem RE_st3 {w : World} {N F : Nat} {z : Int} {e : Ent} {a : Addr} {v : Value} (hF : Go.Proofs.YtneejidiefkgkaaGreatDoor.From F e.p) (ha : a.block < F) (h : RE w N z e) : RE (w.setCell a v) N z e := re_st h fun h0 b hb e' => by have := hF b hb; omega
theorem unFr {w : World} {p : Option Addr} (h : Go.Proofs.YtneejidiefkgkaaGreatDoor.From w.drew.heap.size p) : Go.Proofs.YtneejidiefkgkaaGreatDoor.From w.heap.size p := h
theorem keep4R {w w' : World} {a c i j k l : Nat} {u v x y : Value} (h : w.cell? ⟨a, i, none⟩ = some u ∧ w.cell? ⟨a, j, none⟩ = some v ∧ w.cell? ⟨c, k, none⟩ = some x ∧ w.cell? ⟨c, l, none⟩ = some y) (hb : Below w.heap.size w w') : w'.cell? ⟨a, i, none⟩ = some u ∧ w'.cell? ⟨a, j, none⟩ = some v ∧ w'.cell? ⟨c, k, none⟩ = some x ∧ w'.cell? ⟨c, l, none⟩ = some y :=
  ⟨cell_later hb h.1, cell_later hb h.2.1, cell_later hb h.2.2.1, cell_later hb h.2.2.2⟩
theorem Bx.kept {w w' : World} {r : Nat} {a b : Value} {row : Option Nat} (h : Bx w r a b) (hg : w.grownBy w' row) (hne : some r ≠ row) : Bx w' r a b := by
  have e : w'.heap[r]? = w.heap[r]? := hg.block r (block_lt_of_cell h.c0) hne
  exact ⟨(World.cell?_of_block (a := ⟨r, 0, none⟩) e).trans h.c0, (World.cell?_of_block (a := ⟨r, 1, none⟩) e).trans h.c1, (World.frozen?_of_block (a := ⟨r, 0, none⟩) e).trans h.f0, (World.frozen?_of_block (a := ⟨r, 1, none⟩) e).trans h.f1⟩
theorem tr_of_tlen {zs : List Int} (h : tlen zs = zs.length) : tr zs = zs := by rw [tr, h, List.take_length]
theorem sign_re {w : World} {N : Nat} {z : Int} {e : Ent} (h : RE w N z e) (hz : z ≠ 0) : e.s = decide (z < 0) := by
  obtain ⟨⟨ds, h1, h2, h3⟩, h4⟩ := h
  have := vd_nonneg h1.u
  cases hs : e.s <;> rw [hs, rval] at h2 <;> simp at h2 <;> simp <;> omega
end Go.Proofs.YtneejidiefkgkaaGreatDoor
/-
  upoly.pack.
-/
namespace Go.Proofs.YtneejidiefkgkaaGreatDoor
open Go.RowKit
set_option linter.unusedVariables false
set_option linter.unusedSimpArgs false

/-- copy of limbs into a row. -/
theorem copy_into (ty : TypeId) (w : World) (g off dl dc : Nat) (q : Option Addr) (m mc : Nat) (Z xs : List Int) (hg : Row w g 78 .u32 Z) (hX : Rd w q .u32 xs) (hl : xs.length = m) (hm : m ≤ dl) (hfit : off + m ≤ Z.length) :
    ∃ W', (Builtin.copy_ #[45, 45] ty #[.slice (some ⟨g, off, none⟩) dl dc, .slice q m mc]).run Tryz.prog w = .ok (.int .i64 m) W' ∧ Row W' g 78 .u32 (mid Z off xs) ∧ w.grownBy W' (some g) := by
  rcases Nat.eq_zero_or_pos m with h0 | h0
  · subst h0
    have : xs = [] := List.eq_nil_of_length_eq_zero hl
    subst this
    refine ⟨w, run_copy_none (P := Tryz.prog) _ 45 45 ty 78 _ _ dl dc 0 mc Tryz.underlying45 (by kernel_rfl) (by simp), ?_, grownBy_refl _ _⟩
    rw [mid]
    simpa using hg
  · obtain ⟨b, o, rfl, hc⟩ := hX (by omega)
    have hr := run_copy_row (P := Tryz.prog) w 45 45 ty 78 g off dl dc ⟨b, o, none⟩ m mc _ 78 (xs.map (Value.int .u32)) Tryz.underlying45 (by kernel_rfl) hg (by rw [List.length_map, hl]; exact (Nat.min_eq_left hm).symm) (Rd.src hc) (by rw [List.length_map, size_ca]; omega) (oneCell_ca _ _)
    rw [List.length_map, hl] at hr
    refine ⟨w.setRow g _, hr, ?_, ⟨rfl, rfl, rfl, by simp, fun k _ hk => setRow_other w g k _ (fun e => hk (by rw [e]))⟩⟩
    have e : (List.take off (ca .u32 Z).toList ++ xs.map (Value.int .u32) ++ List.drop (off + m) (ca .u32 Z).toList).toArray = ca .u32 (mid Z off xs) := by
      unfold ca mid
      rw [List.map_append, List.map_append, List.map_take, List.map_drop, hl]
    rw [e]
    exact setRow_heap w g _ _ _ _ hg
theorem step_copy_g {ops : Array Oper} {o : Oper} {a : Act} {w : World} {K : Act → World → Prop} {Q : Exit → Act → World → Prop} {E : Prop} (hgd : o.guard = none) (d s : Operand)
    (ho : o.op = .call { callee := .builtin .copy, args := #[d, s], argTypes := #[45, 45] }) (g off dl dc : Nat) (q : Option Addr) (m mc : Nat) (hd : a.eval d = .slice (some ⟨g, off, none⟩) dl dc) (hs : a.eval s = .slice q m mc)
    (Z xs : List Int) (hg : Row w g 78 .u32 Z) (hX : Rd w q .u32 xs) (hl : xs.length = m) (hm : m ≤ dl) (hfit : off + m ≤ Z.length)
    (h : ∀ w', Row w' g 78 .u32 (mid Z off xs) → w.grownBy w' (some g) → K (a.put o.dst (.int .i64 m)) w') :
    if Region.wanted o (yielded ops a.tmps) = true then Oper.wp Tryz.prog o a w K Q else E := by
  obtain ⟨W', e, h1, h2⟩ := copy_into o.type w g off dl dc q m mc Z xs hg hX hl hm hfit
  have hk := h W' h1 h2
  rw [if_pos (by simp [Region.wanted, hgd]), Oper.wp]
  simp [e, hd, hs, ho, builtin, invoke, resolve, execOp, Result.andThen]
  exact hk
/-- pack's two rows, k entries done. -/
structure PK (w wr : World) (ga gb W n k : Nat) (zs A Bl : List Int) : Prop where
  ra : Row wr ga 78 .u32 A
  rb : Row wr gb 78 .u32 Bl
  la : A.length = W * n
  lb : Bl.length = W * n
  ua : U32 A
  ub : U32 Bl
  za : ∀ j, W * k ≤ j → gx A j = 0
  zb : ∀ j, W * k ≤ j → gx Bl j = 0
  v : val A - val Bl = pkf W (gx zs) k
  ne : ga ≠ gb
  fa : w.heap.size < ga
  fb : w.heap.size < gb
  rx : Bx wr w.heap.size (.bool false) (.slice none 0 0)
  bw : Below w.heap.size w wr
theorem en_parts {w : World} {K : Nat} {z : Int} {e : Ent} (h : EN w K z e) : ∃ xs, Rd w e.p .u32 xs ∧ xs.length = e.n ∧ U32 xs ∧ ((e.s = false ∧ val xs = z) ∨ (e.s = true ∧ val xs = -z)) := by
  obtain ⟨xs, h1, h2, h3, h4, h5⟩ := h
  refine ⟨xs, h1.rd, h1.len, h1.u, ?_⟩
  cases hs : e.s <;> rw [hs] at h2 <;> simp [ival] at h2
  · exact .inl ⟨rfl, h2⟩
  · exact .inr ⟨rfl, by omega⟩
theorem PK.above {w wr v w' : World} {ga gb W n k : Nat} {zs A Bl xs : List Int} (h : PK w wr ga gb W n k zs A Bl) (hb : Below wr.heap.size wr v) (hu : U32 xs) (hv : val xs = gx zs k) (hl : xs.length ≤ W) (hk : k < n) (hr : Row w' ga 78 .u32 (mid A (W * k) xs)) (hg : v.grownBy w' (some ga)) : PK w w' ga gb W n (k + 1) zs (mid A (W * k) xs) Bl := by
  have h1 : W * (k + 1) ≤ W * n := Nat.mul_le_mul_left _ hk
  have h2 : W * (k + 1) = W * k + W := by rw [Nat.mul_add, Nat.mul_one]
  have hfit : W * k + xs.length ≤ A.length := by rw [h.la]; omega
  have hne := h.ne
  have hfa := h.fa
  refine ⟨hr, (h.rb.below hb h.rb.lt).kept hg (by simp; omega), by rw [mid_length _ _ _ hfit]; exact h.la, h.lb, u32_midz h.ua hu, h.ub, fun j hj => gx_midz hfit h.za j (by omega), fun j hj => h.zb j (by omega), ?_, h.ne, h.fa, h.fb, Bx.kept (h.rx.later hb) hg (by simp; omega), below_grown (bnext' h.bw hb) hg (by have := h.bw.size; have := hb.size; omega) (by omega)⟩
  rw [val_midz hfit h.za, pkf, ← h.v, hv, Int.mul_comm]
  omega
theorem PK.under {w wr v w' : World} {ga gb W n k : Nat} {zs A Bl xs : List Int} (h : PK w wr ga gb W n k zs A Bl) (hb : Below wr.heap.size wr v) (hu : U32 xs) (hv : val xs = -gx zs k) (hl : xs.length ≤ W) (hk : k < n) (hr : Row w' gb 78 .u32 (mid Bl (W * k) xs)) (hg : v.grownBy w' (some gb)) : PK w w' ga gb W n (k + 1) zs A (mid Bl (W * k) xs) := by
  have h1 : W * (k + 1) ≤ W * n := Nat.mul_le_mul_left _ hk
  have h2 : W * (k + 1) = W * k + W := by rw [Nat.mul_add, Nat.mul_one]
  have hfit : W * k + xs.length ≤ Bl.length := by rw [h.lb]; omega
  have hne := h.ne
  have hfb := h.fb
  refine ⟨(h.ra.below hb h.ra.lt).kept hg (by simp; omega), hr, h.la, by rw [mid_length _ _ _ hfit]; exact h.lb, h.ua, u32_midz h.ub hu, fun j hj => h.za j (by omega), fun j hj => gx_midz hfit h.zb j (by omega), ?_, h.ne, h.fa, h.fb, Bx.kept (h.rx.later hb) hg (by simp; omega), below_grown (bnext' h.bw hb) hg (by have := h.bw.size; have := hb.size; omega) (by omega)⟩
  rw [val_midz hfit h.zb, pkf, ← h.v, hv, Int.mul_neg, Int.mul_comm]
  omega
end Go.Proofs.YtneejidiefkgkaaGreatDoor
