/-
  upoly.productByRows.
-/
import Derived.Test.YtejnhpjejcpekaaGreatDoorUfUgUjBsLeUkUiWiWj
import Derived.Test.YtejnhpjejcpekaaGreatDoorRdLnWrIb
import Derived.Test.YtejnhpjejcpekaaGreatDoorBbCvNjUbUcUdOwRaWmBe
namespace Go.Proofs.YtejnhpjejcpekaaGreatDoor
open Go.RowKit
set_option linter.unusedVariables false
set_option linter.unusedSimpArgs false
set_option maxHeartbeats 8000000
def ps (zs ys : List Int) : Nat → Nat → Int
  | 0, _ => 0
  | i + 1, t => ps zs ys i t + (if i ≤ t then gx zs i * gx ys (t - i) else 0)
def pj (zs ys : List Int) (i j t : Nat) : Int := ps zs ys i t + (if i ≤ t ∧ t < i + j then gx zs i * gx ys (t - i) else 0)
theorem pj_zero (zs ys : List Int) (i t : Nat) : pj zs ys i 0 t = ps zs ys i t := by
  rw [pj, if_neg (by omega), Int.add_zero]
theorem pj_all (zs ys : List Int) (i t : Nat) : pj zs ys i ys.length t = ps zs ys (i + 1) t := by
  rw [pj, ps]
  by_cases h : i ≤ t
  · rw [if_pos h]
    by_cases h2 : t < i + ys.length
    · rw [if_pos ⟨h, h2⟩]
    · rw [if_neg (by omega), gx_past ys ys.length (Nat.le_refl _) (t - i) (by omega), Int.mul_zero]
  · rw [if_neg (by omega), if_neg h]
theorem pj_succ_same (zs ys : List Int) (i j : Nat) : pj zs ys i (j + 1) (i + j) = pj zs ys i j (i + j) + gx zs i * gx ys j := by
  rw [pj, pj, if_pos (by omega), if_neg (by omega), Int.add_zero, Nat.add_sub_cancel_left]
theorem pj_succ_other (zs ys : List Int) (i j t : Nat) (h : t ≠ i + j) : pj zs ys i (j + 1) t = pj zs ys i j t := by
  rw [pj, pj]
  by_cases h1 : i ≤ t ∧ t < i + j
  · rw [if_pos (by omega), if_pos h1]
  · rw [if_neg (by omega), if_neg h1]
theorem ps_none (zs ys : List Int) (i t : Nat) (h : gx zs i = 0) : ps zs ys (i + 1) t = ps zs ys i t := by
  rw [ps, h]
  split <;> simp
theorem term_bd {x y : Int} {K L : Nat} (hx : (x.natAbs : Int) < pw K) (hy : (y.natAbs : Int) < pw L) : ((x * y).natAbs : Int) ≤ pw (K + L) := by
  rw [Int.natAbs_mul, pw_add]
  push_cast
  exact Int.mul_le_mul (by omega) (by omega) (by omega) (by have := pw_pos K; omega)
theorem ps_bd {zs ys : List Int} {K L : Nat} (hx : ∀ i, ((gx zs i).natAbs : Int) < pw K) (hy : ∀ i, ((gx ys i).natAbs : Int) < pw L) (i t : Nat) : ((ps zs ys i t).natAbs : Int) ≤ i * pw (K + L) := by
  induction i with
  | zero => simp [ps]
  | succ i ih =>
    rw [ps]
    have h1 := term_bd (hx i) (hy (t - i))
    have h2 := pw_pos (K + L)
    have e : ((i + 1 : Nat) : Int) * pw (K + L) = i * pw (K + L) + pw (K + L) := by push_cast; rw [Int.add_mul, Int.one_mul]
    rw [e]
    split <;> omega
theorem pj_bd {zs ys : List Int} {K L : Nat} (hx : ∀ i, ((gx zs i).natAbs : Int) < pw K) (hy : ∀ i, ((gx ys i).natAbs : Int) < pw L) (i j t : Nat) (hi : i ≤ 1000000) : ((pj zs ys i j t).natAbs : Int) < pw (K + L + 1) := by
  have h1 := ps_bd hx hy i t
  have h2 := term_bd (hx i) (hy (t - i))
  have h3 := pw_pos (K + L)
  have e : pw (K + L + 1) = 4294967296 * pw (K + L) := pw_succ _
  have h4 : (i : Int) * pw (K + L) ≤ 1000000 * pw (K + L) := Int.mul_le_mul_of_nonneg_right (by omega) (by omega)
  rw [pj, e]
  split <;> omega
theorem PA.gbd {w : World} {K : Nat} {p : Option Addr} {n nc : Nat} {es : List Ent} {zs : List Int} (h : PA w K p n nc es zs) : ∀ i, ((gx zs i).natAbs : Int) < pw K := fun i => by
  rcases Nat.lt_or_ge i n with hlt | hge
  · obtain ⟨xs, h1, h2, h3⟩ := h.ev i hlt
    have h4 := h1.lt (ge es i).s
    rw [h2] at h4
    have := pw_mono h3
    omega
  · rw [gx_past zs n (by rw [h.zl]; exact Nat.le_refl _) i hge]
    exact pw_pos K
theorem NV.le {B : Nat} {w : World} {K M : Nat} {z : Int} {e : Ent} (h : NV B w K z e) (hz : (z.natAbs : Int) < pw M) : NV B w M z e := by
  obtain ⟨xs, h1, h2, h3⟩ := h
  exact ⟨xs, h1, h2, h1.le hz⟩
theorem Bx_any {w : World} {r g o : Nat} {a0 a1 u v : Value} (h : Bx w r a0 a1) (hne : r ≠ g) : Bx ((w.setCell ⟨g, o, none⟩ u).setCell ⟨g, o + 1, none⟩ v) r a0 a1 := by
  have e : ((w.setCell ⟨g, o, none⟩ u).setCell ⟨g, o + 1, none⟩ v).heap[r]? = w.heap[r]? := (heap_setCell_other _ _ r v hne).trans (heap_setCell_other _ _ r u hne)
  exact ⟨(World.cell?_of_block (a := ⟨r, 0, none⟩) e).trans h.c0, (World.cell?_of_block (a := ⟨r, 1, none⟩) e).trans h.c1, (World.frozen?_of_block (a := ⟨r, 0, none⟩) e).trans h.f0, (World.frozen?_of_block (a := ⟨r, 1, none⟩) e).trans h.f1⟩
theorem rEq_same (s : Bool) (p q : Option Addr) (n nc mc : Nat) (xs : List Int) (w : World) (hA : AI w p n nc xs) (hB : AI w q n mc xs) :
    Calls Tryz.prog 113 #[.agg #[.bool s, .slice p n nc], .agg #[.bool s, .slice q n mc]] w fun e w' => e = .returned (.bool true) ∧ Below w.heap.size w w' := by
  have hl := hA.len
  have hsm := hA.sml
  have hss : (s != s) = false := by cases s <;> rfl
  have hnn : ((n : Int) != (n : Int)) = false := by simp
  go_enter Tryz.func113, Tryz.ntmps113
  go_wp2
  have hX := boxes2 w (.bool s) (.slice p n nc) (.bool s) (.slice q n mc) 26 26
  generalize ((w.alloc (Obj.cells #[Value.bool s, Value.slice p n nc] 26)).alloc (Obj.cells #[Value.bool s, Value.slice q n mc] 26)) = W at *
  go_loopw [5] (fun iv wr => ∃ k : Nat, k ≤ n ∧ iv = .int .i64 k ∧ Hid (Below W.heap.size W wr)) (fun iv _ => n - (intOf iv).toNat)
  case atStart => exact ⟨0, Nat.zero_le _, rfl, Below.refl _ _⟩
  case round =>
    obtain ⟨k, hk, rfl, H⟩ := hrel
    have hXr := hX.later H.out
    have k1 := hXr.ca1
    have k3 := hXr.cb1
    by_cases hlt : k < n
    · have hltI : (k : Int) < (n : Int) := by omega
      obtain ⟨b1, o1, rfl, hc1⟩ := ((hA.below hX.below).rd.below H.out) (by omega)
      obtain ⟨b2, o2, rfl, hc2⟩ := ((hB.below hX.below).rd.below H.out) (by omega)
      have g1 := hc1 k (by omega)
      have g2 := hc2 k (by omega)
      have hq : (gx xs k != gx xs k) = false := by simp
      clear hc1 hc2 hXr
      go_wp2
      go_quiet (fail)
      go_wp2
      refine ⟨⟨k + 1, by omega, by go_num, below_drewN H.out nq⟩, by simp [intOf]; omega⟩
    · have hltI : ¬ (k : Int) < (n : Int) := by omega
      go_wp2
      go_ret
      exact ⟨rfl, hX.below.trans (H.out.mono hX.below.size)⟩
theorem info_int : (Tryz.prog.info? 3).map (fun i => (i.zero, i.size, i.bytes)) = some (some (.int .i64 0), 1, 8) := by kernel_rfl
theorem spl_snoc (xs : List Int) (k : Nat) (h : k < xs.length) : spl (xs.take (k + 1)) = spl (xs.take k) ++ [gx xs k % 65536, gx xs k / 65536] := by
  rw [take_snoc xs k h, spl_append]; rfl
theorem bel_alw {W x : World} {o : Obj} (h : Below W.heap.size W x) : Below W.heap.size W (x.alloc o) := h.alloc h.size o
set_option maxRecDepth 100000 in
theorem rTo_anyF (s : Bool) (p : Option Addr) (n nc : Nat) (ds : List Int) (w : World) (hl : ds.length = n) (hs : n ≤ 1000) (hX : Rd w p .i64 ds) (hU : U16 ds) :
    Calls Tryz.prog 40 #[.agg #[.bool s, .slice p n nc]] w fun e w' => ∃ p' m cap, e = .returned (.agg #[.bool s, .slice p' m cap]) ∧ AI w' p' m cap (jn ds m) ∧ Hid (m = (n + 1) / 2) ∧ Go.Proofs.YtejnhpjejcpekaaGreatDoor.From w.heap.size p' ∧ Below w.heap.size w w' := by
  obtain ⟨i0, hi, hzz⟩ := Option.map_eq_some_iff.1 info_u32
  simp only [Prod.mk.injEq] at hzz
  obtain ⟨hz0, hz1, hz2⟩ := hzz
  have HI : Hid (Tryz.prog.info? 88 = some i0 ∧ i0.zero = some (.int .u32 0) ∧ i0.size = 1 ∧ i0.bytes = 4) := ⟨hi, hz0, hz1, hz2⟩
  clear hi hz0 hz1 hz2
  go_enter Tryz.func40, Tryz.ntmps40
  go_wp2
  have hb1 : Bx ((w.alloc (.cells #[.bool s, .slice p n nc] 34)).alloc (.cells #[.bool false, .slice none 0 0] 26)) w.heap.size (.bool s) (.slice p n nc) := (Bx.new _ _ _ rfl).alloc _
  have hb2 : Bx ((w.alloc (.cells #[.bool s, .slice p n nc] 34)).alloc (.cells #[.bool false, .slice none 0 0] 26)) (w.heap.size + 1) (.bool false) (.slice none 0 0) := Bx.new _ _ _ (World.size_alloc ..).symm
  have hbw : Below w.heap.size w ((w.alloc (.cells #[.bool s, .slice p n nc] 34)).alloc (.cells #[.bool false, .slice none 0 0] 26)) := ((Below.refl _ _).alloc (Nat.le_refl _) _).alloc (by simp) _
  have hsz : ((w.alloc (.cells #[.bool s, .slice p n nc] 34)).alloc (.cells #[.bool false, .slice none 0 0] 26)).heap.size = w.heap.size + 1 + 1 := by simp
  generalize ((w.alloc (.cells #[.bool s, .slice p n nc] 34)).alloc (.cells #[.bool false, .slice none 0 0] 26)) = W at *
  have HS : Hid (W.heap.size = w.heap.size + 1 + 1) := hsz
  clear hsz
  have hXW := hX.below hbw
  go_loopw [3, 4, 5] (fun lv iv nv wr => ∃ (k : Nat), 2 * k ≤ n + 1 ∧ iv = .int .i64 ((2 * k : Nat) : Int) ∧ Hid (wr.ownsRow W.heap.size 88 1 lv k ((jn ds k).map (Value.int .u32)) ∧ Below W.heap.size W wr)) (fun _ iv _ _ => n + 2 - (intOf iv).toNat)
  case atStart => exact ⟨0, by omega, rfl, World.ownsRow_nil _ _ _ _, Below.refl _ _⟩
  case round =>
    obtain ⟨k, hk, rfl, H⟩ := hrel
    have hBr := H.out.2
    have hb1r := hb1.later hBr
    have hb2r := hb2.later hBr
    have k0 := hb1r.c0
    have k1 := hb1r.c1
    by_cases hlt : 2 * k < n
    · obtain ⟨b, off, rfl, hcell⟩ := (hXW.below hBr) (by omega)
      have hck := hcell (2 * k) (by omega)
      have hltI : 2 * (k : Int) < (n : Int) := by omega
      obtain ⟨x0, x1⟩ := hU (2 * k)
      obtain ⟨y0, y1⟩ := hU (2 * k + 1)
      obtain ⟨hi, hz0, hz1, hz2⟩ := HI.out
      have HO : Hid (wr.ownsRow W.heap.size 88 1 u3 k ((jn ds k).map (Value.int .u32))) := H.out.1
      by_cases hlt2 : 2 * k + 1 < n
      · have hck2 := hcell (2 * k + 1) (by omega)
        have hlt2I : 2 * (k : Int) + 1 < (n : Int) := by omega
        clear hcell
        go_wp2_with (refine wpList_append_lies _ rfl _ _ 24 rfl W.heap.size 88 i0 (.int .u32 0) 1 4 Tryz.underlying24 hi hz0 hz1 hz2 rfl (by decide) u3 k ((jn ds k).map (Value.int .u32)) rfl (HO.out.alloc _) ⟨wr.heap.size, 0, none⟩ 1 1 [.int .u32 (gx ds (2 * k) + gx ds (2 * k + 1) * 65536)] rfl rfl ?_ (fun x hx => by simp at hx; subst hx; rfl) (by decide) (by unfold maxLen; omega) (by omega) (by have := hBr.size; simp; omega) _ rfl ?_; exact World.news_of_block (heap_alloc_new wr _); intro g cap w3 hown3 hgrow3 hat3 hlt3; have hB3 : Below W.heap.size W w3 := (bel_alw hBr).grown hgrow3 (by have := hBr.size; simp; omega) (fun q hq => (HO.out.lt q hq).1))
        refine ⟨⟨k + 1, by omega, by go_num, ?_, hB3⟩, by simp [intOf]; omega⟩
        rw [jn_succ, List.map_append, Int.mul_comm 65536]
        exact hown3
      · have hlt2I : ¬ 2 * (k : Int) + 1 < (n : Int) := by omega
        clear hcell
        go_wp2_with (refine wpList_append_lies _ rfl _ _ 24 rfl W.heap.size 88 i0 (.int .u32 0) 1 4 Tryz.underlying24 hi hz0 hz1 hz2 rfl (by decide) u3 k ((jn ds k).map (Value.int .u32)) rfl (HO.out.alloc _) ⟨wr.heap.size, 0, none⟩ 1 1 [.int .u32 (gx ds (2 * k))] rfl rfl ?_ (fun x hx => by simp at hx; subst hx; rfl) (by decide) (by unfold maxLen; omega) (by omega) (by have := hBr.size; simp; omega) _ rfl ?_; exact World.news_of_block (heap_alloc_new wr _); intro g cap w3 hown3 hgrow3 hat3 hlt3; have hB3 : Below W.heap.size W w3 := (bel_alw hBr).grown hgrow3 (by have := hBr.size; simp; omega) (fun q hq => (HO.out.lt q hq).1))
        have hg0 : gx ds (2 * k + 1) = 0 := gx_past ds n (by omega) _ (by omega)
        refine ⟨⟨k + 1, by omega, by go_num, ?_, hB3⟩, by simp [intOf]; omega⟩
        rw [jn_succ, List.map_append, hg0, Int.mul_zero, Int.add_zero]
        exact hown3
    · have hltI : ¬ 2 * (k : Int) < (n : Int) := by omega
      have c0 := hb2r.c0
      have c1 := hb2r.c1
      have f0 := hb2r.f0
      have f1 := hb2r.f1
      have hform : ∃ q cap, u3 = .slice q k cap ∧ k ≤ cap ∧ cap ≤ maxLen ∧ Rd wr q .u32 (jn ds k) ∧ Go.Proofs.YtejnhpjejcpekaaGreatDoor.From W.heap.size q := by
        have hown := H.out.1
        rcases hown.2 with ⟨h1, h2⟩ | ⟨g, cap, cur, h1, hbg, _, h4, h5, _⟩
        · refine ⟨none, 0, by rw [h1, h2], by omega, Nat.zero_le _, ?_, from_none⟩
          have : jn ds k = [] := List.eq_nil_of_length_eq_zero (by rw [length_jn]; omega)
          rw [this]; exact Rd.nil
        · subst h1
          exact ⟨_, cap, rfl, h4, h5, rd_owns hown, from_new hbg⟩
      obtain ⟨q, cap, rfl, hq1, hq2, hq3, hq4⟩ := hform
      go_wp2
      have hsW := HS.out
      refine bodyPost_ret (v := .agg #[.bool s, .slice q k cap]) (by simp [results, Tryz.results40, go_sem, c0, c1]) rfl ?_
      refine ⟨q, k, cap, rfl, ⟨length_jn _ _, hq1, hq2, by omega, ?_, u32_jn hU k⟩, show k = (n + 1) / 2 by omega, fun a ha => by have := hq4 a ha; omega, ?_⟩
      · exact (hq3.set_other _ _ (fun a ha => by have := hq4 a ha; simp; omega)).set_other _ _ (fun a ha => by have := hq4 a ha; simp; omega)
      · exact ((hbw.trans (hBr.mono hbw.size)).setCell (by simp) _).setCell (by simp) _
theorem rTo_any (s : Bool) (p : Option Addr) (n nc : Nat) (ds : List Int) (w : World) (hl : ds.length = n) (hs : n ≤ 1000) (hX : Rd w p .i64 ds) (hU : U16 ds) :
    Calls Tryz.prog 40 #[.agg #[.bool s, .slice p n nc]] w fun e w' => ∃ p' m cap, e = .returned (.agg #[.bool s, .slice p' m cap]) ∧ AI w' p' m cap (jn ds m) ∧ Hid (m = (n + 1) / 2) ∧ Below w.heap.size w w' := by
  refine (rTo_anyF s p n nc ds w hl hs hX hU).mono ?_
  rintro e w' ⟨p', m, cap, h1, h2, h3, -, h5⟩
  exact ⟨p', m, cap, h1, h2, h3, h5⟩
theorem rEq_nn {B1 : Nat} {w : World} {s t : Bool} {p q : Option Addr} {n m mc : Nat} {xs ys : List Int} {z : Int} (h : NI B1 w s p n xs z) (hA : AI w q m mc ys) (k : NN t ys z) (hn : n ≤ 1000) :
    Calls Tryz.prog 113 #[.agg #[.bool s, .slice p n n], .agg #[.bool t, .slice q m mc]] w fun e w' => e = .returned (.bool true) ∧ Below w.heap.size w w' := by
  obtain ⟨rfl, rfl⟩ := nn_same h.nn k
  obtain rfl : n = m := h.len.symm.trans hA.len
  exact rEq_same s p q n n mc xs w (h.ai (by omega)) hA
end Go.Proofs.YtejnhpjejcpekaaGreatDoor
