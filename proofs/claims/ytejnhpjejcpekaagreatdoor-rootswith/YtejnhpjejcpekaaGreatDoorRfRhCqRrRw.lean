/-
  ashlarref1.To.
-/
import Derived.Test.YtejnhpjejcpekaaGreatDoorUgUjBsLeUkUiWiWjUlDdReRx
import Derived.Test.YtejnhpjejcpekaaGreatDoorWhPnWkWlBxBbCvNj
namespace Go.Proofs.YtejnhpjejcpekaaGreatDoor
open Go.RowKit
set_option linter.unusedVariables false
set_option linter.unusedSimpArgs false
set_option maxHeartbeats 8000000
set_option maxRecDepth 100000 in
theorem rTo_anyF (s : Bool) (p : Option Addr) (n nc : Nat) (ds : List Int) (w : World) (hl : ds.length = n) (hs : n ≤ 1000) (hX : Rd w p .i64 ds) (hU : U16 ds) :
    Calls Tryz.prog 40 #[.agg #[.bool s, .slice p n nc]] w fun e w' => ∃ p' m cap, e = .returned (.agg #[.bool s, .slice p' m cap]) ∧ AI w' p' m cap (jn ds m) ∧ Hid (m = (n + 1) / 2) ∧ Go.Proofs.YtejnhpjejcpekaaGreatDoor.From w.heap.size p' ∧ Below w.heap.size w w' := by
  obtain ⟨i0, hi, hzz⟩ := Option.map_eq_some_iff.1 info_u32
  simp only [Prod.mk.injEq] at hzz
  obtain ⟨hz0, hz1, hz2⟩ := hzz
  have HI : Hid (Tryz.prog.info? 88 = some i0 ∧ i0.zero = some (.int .u32 0) ∧ i0.size = 1 ∧ i0.bytes = 4) := ⟨hi, hz0, hz1, hz2⟩
  clear hi hz0 hz1 hz2
  go_enter Tryz.func40, Tryz.ntmps40
  go_wp2
  have hb1 : Bx ((w.alloc (.cells #[.bool s, .slice p n nc] 34)).alloc (.cells #[.bool false, .slice none 0 0] 26)) w.heap.size (.bool s) (.slice p n nc) := (Bx.new _ _ _ rfl).alloc _
  have hb2 : Bx ((w.alloc (.cells #[.bool s, .slice p n nc] 34)).alloc (.cells #[.bool false, .slice none 0 0] 26)) (w.heap.size + 1) (.bool false) (.slice none 0 0) := Bx.new _ _ _ (World.size_alloc ..).symm
  have hbw : Below w.heap.size w ((w.alloc (.cells #[.bool s, .slice p n nc] 34)).alloc (.cells #[.bool false, .slice none 0 0] 26)) := ((Below.refl _ _).alloc (Nat.le_refl _) _).alloc (by simp) _
  have hsz : ((w.alloc (.cells #[.bool s, .slice p n nc] 34)).alloc (.cells #[.bool false, .slice none 0 0] 26)).heap.size = w.heap.size + 1 + 1 := by simp
  generalize ((w.alloc (.cells #[.bool s, .slice p n nc] 34)).alloc (.cells #[.bool false, .slice none 0 0] 26)) = W at *
  have HS : Hid (W.heap.size = w.heap.size + 1 + 1) := hsz
  clear hsz
  have hXW := hX.below hbw
  go_loopw [3, 4, 5] (fun lv iv nv wr => ∃ (k : Nat), 2 * k ≤ n + 1 ∧ iv = .int .i64 ((2 * k : Nat) : Int) ∧ Hid (wr.ownsRow W.heap.size 88 1 lv k ((jn ds k).map (Value.int .u32)) ∧ Below W.heap.size W wr)) (fun _ iv _ _ => n + 2 - (intOf iv).toNat)
  case atStart => exact ⟨0, by omega, rfl, World.ownsRow_nil _ _ _ _, Below.refl _ _⟩
  case round =>
    obtain ⟨k, hk, rfl, H⟩ := hrel
    have hBr := H.out.2
    have hb1r := hb1.later hBr
    have hb2r := hb2.later hBr
    have k0 := hb1r.c0
    have k1 := hb1r.c1
    by_cases hlt : 2 * k < n
    · obtain ⟨b, off, rfl, hcell⟩ := (hXW.below hBr) (by omega)
      have hck := hcell (2 * k) (by omega)
      have hltI : 2 * (k : Int) < (n : Int) := by omega
      obtain ⟨x0, x1⟩ := hU (2 * k)
      obtain ⟨y0, y1⟩ := hU (2 * k + 1)
      obtain ⟨hi, hz0, hz1, hz2⟩ := HI.out
      have HO : Hid (wr.ownsRow W.heap.size 88 1 u3 k ((jn ds k).map (Value.int .u32))) := H.out.1
      by_cases hlt2 : 2 * k + 1 < n
      · have hck2 := hcell (2 * k + 1) (by omega)
        have hlt2I : 2 * (k : Int) + 1 < (n : Int) := by omega
        clear hcell
        go_wp2_with (refine wpList_append_lies _ rfl _ _ 24 rfl W.heap.size 88 i0 (.int .u32 0) 1 4 Tryz.underlying24 hi hz0 hz1 hz2 rfl (by decide) u3 k ((jn ds k).map (Value.int .u32)) rfl (HO.out.alloc _) ⟨wr.heap.size, 0, none⟩ 1 1 [.int .u32 (gx ds (2 * k) + gx ds (2 * k + 1) * 65536)] rfl rfl ?_ (fun x hx => by simp at hx; subst hx; rfl) (by decide) (by unfold maxLen; omega) (by omega) (by have := hBr.size; simp; omega) _ rfl ?_; exact World.news_of_block (heap_alloc_new wr _); intro g cap w3 hown3 hgrow3 hat3 hlt3; have hB3 : Below W.heap.size W w3 := (bel_alw hBr).grown hgrow3 (by have := hBr.size; simp; omega) (fun q hq => (HO.out.lt q hq).1))
        refine ⟨⟨k + 1, by omega, by go_num, ?_, hB3⟩, by simp [intOf]; omega⟩
        rw [jn_succ, List.map_append, Int.mul_comm 65536]
        exact hown3
      · have hlt2I : ¬ 2 * (k : Int) + 1 < (n : Int) := by omega
        clear hcell
        go_wp2_with (refine wpList_append_lies _ rfl _ _ 24 rfl W.heap.size 88 i0 (.int .u32 0) 1 4 Tryz.underlying24 hi hz0 hz1 hz2 rfl (by decide) u3 k ((jn ds k).map (Value.int .u32)) rfl (HO.out.alloc _) ⟨wr.heap.size, 0, none⟩ 1 1 [.int .u32 (gx ds (2 * k))] rfl rfl ?_ (fun x hx => by simp at hx; subst hx; rfl) (by decide) (by unfold maxLen; omega) (by omega) (by have := hBr.size; simp; omega) _ rfl ?_; exact World.news_of_block (heap_alloc_new wr _); intro g cap w3 hown3 hgrow3 hat3 hlt3; have hB3 : Below W.heap.size W w3 := (bel_alw hBr).grown hgrow3 (by have := hBr.size; simp; omega) (fun q hq => (HO.out.lt q hq).1))
        have hg0 : gx ds (2 * k + 1) = 0 := gx_past ds n (by omega) _ (by omega)
        refine ⟨⟨k + 1, by omega, by go_num, ?_, hB3⟩, by simp [intOf]; omega⟩
        rw [jn_succ, List.map_append, hg0, Int.mul_zero, Int.add_zero]
        exact hown3
    · have hltI : ¬ 2 * (k : Int) < (n : Int) := by omega
      have c0 := hb2r.c0
      have c1 := hb2r.c1
      have f0 := hb2r.f0
      have f1 := hb2r.f1
      have hform : ∃ q cap, u3 = .slice q k cap ∧ k ≤ cap ∧ cap ≤ maxLen ∧ Rd wr q .u32 (jn ds k) ∧ Go.Proofs.YtejnhpjejcpekaaGreatDoor.From W.heap.size q := by
        have hown := H.out.1
        rcases hown.2 with ⟨h1, h2⟩ | ⟨g, cap, cur, h1, hbg, _, h4, h5, _⟩
        · refine ⟨none, 0, by rw [h1, h2], by omega, Nat.zero_le _, ?_, from_none⟩
          have : jn ds k = [] := List.eq_nil_of_length_eq_zero (by rw [length_jn]; omega)
          rw [this]; exact Rd.nil
        · subst h1
          exact ⟨_, cap, rfl, h4, h5, rd_owns hown, from_new hbg⟩
      obtain ⟨q, cap, rfl, hq1, hq2, hq3, hq4⟩ := hform
      go_wp2
      have hsW := HS.out
      refine bodyPost_ret (v := .agg #[.bool s, .slice q k cap]) (by simp [results, Tryz.results40, go_sem, c0, c1]) rfl ?_
      refine ⟨q, k, cap, rfl, ⟨length_jn _ _, hq1, hq2, by omega, ?_, u32_jn hU k⟩, show k = (n + 1) / 2 by omega, fun a ha => by have := hq4 a ha; omega, ?_⟩
      · exact (hq3.set_other _ _ (fun a ha => by have := hq4 a ha; simp; omega)).set_other _ _ (fun a ha => by have := hq4 a ha; simp; omega)
      · exact ((hbw.trans (hBr.mono hbw.size)).setCell (by simp) _).setCell (by simp) _
theorem rTo_any (s : Bool) (p : Option Addr) (n nc : Nat) (ds : List Int) (w : World) (hl : ds.length = n) (hs : n ≤ 1000) (hX : Rd w p .i64 ds) (hU : U16 ds) :
    Calls Tryz.prog 40 #[.agg #[.bool s, .slice p n nc]] w fun e w' => ∃ p' m cap, e = .returned (.agg #[.bool s, .slice p' m cap]) ∧ AI w' p' m cap (jn ds m) ∧ Hid (m = (n + 1) / 2) ∧ Below w.heap.size w w' := by
  refine (rTo_anyF s p n nc ds w hl hs hX hU).mono ?_
  rintro e w' ⟨p', m, cap, h1, h2, h3, -, h5⟩
  exact ⟨p', m, cap, h1, h2, h3, h5⟩
theorem rEq_nn {B1 : Nat} {w : World} {s t : Bool} {p q : Option Addr} {n m mc : Nat} {xs ys : List Int} {z : Int} (h : NI B1 w s p n xs z) (hA : AI w q m mc ys) (k : NN t ys z) (hn : n ≤ 1000) :
    Calls Tryz.prog 113 #[.agg #[.bool s, .slice p n n], .agg #[.bool t, .slice q m mc]] w fun e w' => e = .returned (.bool true) ∧ Below w.heap.size w w' := by
  obtain ⟨rfl, rfl⟩ := nn_same h.nn k
  obtain rfl : n = m := h.len.symm.trans hA.len
  exact rEq_same s p q n n mc xs w (h.ai (by omega)) hA
theorem rval_nsg (neg : Bool) {D : List Int} (h : U16 D) : rval (nsg neg D) (tr D) = rval neg D := by
  rw [rval, rval, vd_tr, nsg]
  split
  · rename_i ht
    have h0 := (tlen_zero_iff16 h).1 ht
    simp [h0]
  · rfl
theorem rval_spl (s : Bool) (xs : List Int) : rval s (spl xs) = ival s xs := by rw [rval, ival, vd_spl]
def RAns (N : Nat) (z : Int) (w : World) (e : Ending) (w' : World) : Prop :=
  ∃ s' p' n' ds', e = .returned (.agg #[.bool s', .slice p' n' n']) ∧ RN w' s' p' n' ds' ∧ rval s' ds' = z ∧ n' ≤ N ∧ Go.Proofs.YtejnhpjejcpekaaGreatDoor.From w.heap.size p' ∧ Below w.heap.size w w'
theorem end_rn {w W wr w4 : World} {r N : Nat} {neg : Bool} {q : Option Addr} {D : List Int} {z : Int} {u v : Value} (hbw : Below w.heap.size w W) (hr : w.heap.size ≤ r) (hr' : r < W.heap.size) (hBr : Below W.heap.size W wr) (hb4 : Below wr.heap.size wr w4)
    (hq3 : Rd wr q .i64 D) (hq4 : Go.Proofs.YtejnhpjejcpekaaGreatDoor.From W.heap.size q) (hU : U16 D) (hl : tlen D ≤ 1000000000) (hv : rval neg D = z) (hN : tlen D ≤ N) :
    RAns N z w (.returned (.agg #[.bool (nsg neg D), .slice q (tlen D) (tlen D)])) ((w4.setCell ⟨r, 0, none⟩ u).setCell ⟨r, 1, none⟩ v) := by
  have htl := tlen_le D
  refine ⟨_, q, tlen D, tr D, rfl, ⟨length_tr _, ?_, u16_tr hU, tlen_tr _, fun h => by rw [nsg, if_pos h], by omega⟩, by rw [rval_nsg neg hU, hv], hN, fun a ha => Nat.le_trans hbw.size (hq4 a ha), ?_⟩
  · exact ((hq3.tr.below hb4).set_other _ _ (fun a ha => by have := hq4 a ha; simp; omega)).set_other _ _ (fun a ha => by have := hq4 a ha; simp; omega)
  · exact (((hbw.trans (hBr.mono hbw.size)).trans (hb4.mono (by have := hBr.size; have := hbw.size; omega))).setCell (p := ⟨r, 0, none⟩) hr _).setCell (p := ⟨r, 1, none⟩) hr _
theorem end_rn2 {w W w1 w2 : World} {r N : Nat} {neg : Bool} {q : Option Addr} {D : List Int} {z : Int} {u v : Value} (hbw : Below w.heap.size w W) (hr : w.heap.size ≤ r) (hr' : r < W.heap.size) (hb1 : Below W.heap.size W w1) (hb2 : Below w1.heap.size w1 w2)
    (hq3 : Rd w1 q .i64 D) (hq4 : Go.Proofs.YtejnhpjejcpekaaGreatDoor.From W.heap.size q) (hU : U16 D) (hl : D.length ≤ N) (hN : N ≤ 1000000000) (hv : rval neg D = z) :
    RAns N z w (.returned (.agg #[.bool (nsg neg D), .slice q (tlen D) (tlen D)])) ((w2.setCell ⟨r, 0, none⟩ u).setCell ⟨r, 1, none⟩ v) :=
  end_rn hbw hr hr' hb1 hb2 hq3 hq4 hU (by have := tlen_le D; omega) hv (by have := tlen_le D; omega)
theorem rval_not (s : Bool) (xs : List Int) : rval (!s) xs = - rval s xs := by cases s <;> simp [rval]
theorem mk_int (n : Nat) (h : n ≤ 1000000000) (w : World) : (Instr.makeSlice 32 (.int .i64 n) (.int .i64 n)).run Tryz.prog w =
    .ok (.slice (some ⟨w.heap.size, 0, none⟩) n n) (w.alloc (.cells (ca .i64 (zeros n)) 3)) := by
  have hi := info_int
  cases hq : Tryz.prog.info? 3 with
  | none => rw [hq] at hi; cases hi
  | some i =>
    rw [hq] at hi
    simp only [Option.map_some, Option.some.injEq, Prod.mk.injEq] at hi
    obtain ⟨h1, h2, h3⟩ := hi
    have hr := run_make (P := Tryz.prog) w 32 3 i (.int .i64 0) Tryz.underlying32 hq h1 .i64 .i64 n n (by omega) (Int.le_refl _) (by rw [h3]; omega) (by omega)
    rw [Int.toNat_natCast, h2] at hr
    rw [hr]
    exact congrArg (fun c => Result.ok (Value.slice (some ⟨w.heap.size, 0, none⟩) n n) (w.alloc (.cells c 3))) (made_zeros .i64 n)
theorem RN.set {w : World} {s : Bool} {p : Option Addr} {n : Nat} {ds : List Int} (h : RN w s p n ds) {a : Addr} (hne : 0 < n → Off a.block p) (v : Value) : RN (w.setCell a v) s p n ds :=
  ⟨h.len, fun hx => (h.rd.set_other a v (hne (by rw [← h.len]; exact hx))) hx, h.u, h.nrm, h.sg, h.sml⟩
theorem RN.alloc {w : World} {s : Bool} {p : Option Addr} {n : Nat} {ds : List Int} (h : RN w s p n ds) (o : Obj) : RN (w.alloc o) s p n ds := ⟨h.len, h.rd.alloc o, h.u, h.nrm, h.sg, h.sml⟩
theorem RN.drew {w : World} {s : Bool} {p : Option Addr} {n : Nat} {ds : List Int} (h : RN w s p n ds) : RN w.drew s p n ds := ⟨h.len, h.rd.drew, h.u, h.nrm, h.sg, h.sml⟩
theorem RN_st3 {F : Nat} {w : World} {s : Bool} {p : Option Addr} {n : Nat} {ds : List Int} {a : Addr} {v : Value} (hF : Go.Proofs.YtejnhpjejcpekaaGreatDoor.From F p) (ha : a.block < F) (h : RN w s p n ds) : RN (w.setCell a v) s p n ds :=
  h.set (fun _ x hx e => by have := hF x hx; omega) v
theorem RN.lt {w : World} {s : Bool} {p : Option Addr} {n : Nat} {ds : List Int} (h : RN w s p n ds) : 0 < n → ∀ x, p = some x → x.block < w.heap.size := fun hn x hx => by
  obtain ⟨b, off, hp, hlt⟩ := h.rd.lt (by rw [h.len]; exact hn)
  rw [hp] at hx
  cases hx
  exact hlt
def RV (w : World) (N : Nat) (z : Int) (s : Bool) (p : Option Addr) (n : Nat) : Prop := ∃ ds, RN w s p n ds ∧ rval s ds = z ∧ n ≤ N
def RVP (N : Nat) (z : Int) (w : World) (e : Ending) (w' : World) : Prop :=
  ∃ s p n, e = .returned (.agg #[.bool s, .slice p n n]) ∧ RV w' N z s p n ∧ Go.Proofs.YtejnhpjejcpekaaGreatDoor.From w.heap.size p ∧ Below w.heap.size w w'
section
variable {w w' : World} {N M K : Nat} {z x y : Int} {s t : Bool} {p q : Option Addr} {n m : Nat}
theorem RV.below (h : RV w N z s p n) (hb : Below w.heap.size w w') : RV w' N z s p n := by
  obtain ⟨ds, h1, h2⟩ := h
  exact ⟨ds, h1.below hb, h2⟩
theorem RV.drew (h : RV w N z s p n) : RV w.drew N z s p n := by
  obtain ⟨ds, h1, h2⟩ := h
  exact ⟨ds, h1.drew, h2⟩
theorem RV.alloc (h : RV w N z s p n) (o : Obj) : RV (w.alloc o) N z s p n := by
  obtain ⟨ds, h1, h2⟩ := h
  exact ⟨ds, h1.alloc o, h2⟩
theorem RV.off (h : RV w N z s p n) {g : Nat} (hg : w.heap.size ≤ g) : 0 < n → Off g p := by
  obtain ⟨ds, h1, h2⟩ := h
  exact fun hn => h1.rd.off hg (by rw [h1.len]; exact hn)
theorem RV.le (h : RV w N z s p n) : n ≤ N := by
  obtain ⟨ds, h1, h2, h3⟩ := h
  exact h3
theorem RV.bd (h : RV w N z s p n) : (z.natAbs : Int) < pd N := by
  obtain ⟨ds, h1, rfl, h3⟩ := h
  have a := vd_nonneg h1.u
  have b := vd_lt h1.u
  rw [h1.len] at b
  have c := pd_mono h3
  unfold rval
  split <;> omega
end
theorem isgn_rval_zero {s : Bool} {xs : List Int} (hU : U16 xs) (h : tlen xs = 0) : isgn (rval s xs) = 0 := by
  have := (tlen_zero_iff16 hU).1 h
  cases s <;> simp [rval, isgn, this]
theorem isgn_rval {s : Bool} {xs : List Int} (hU : U16 xs) (h : tlen xs ≠ 0) : isgn (rval s xs) = if s then -1 else 1 := by
  have h1 : vd xs ≠ 0 := fun e => h ((tlen_zero_iff16 hU).2 e)
  have h2 := vd_nonneg hU
  cases s
  · simp only [rval, isgn, Bool.false_eq_true, if_false]; rw [if_neg h1, if_neg (by omega)]
  · simp only [rval, isgn, if_true]; rw [if_neg (by omega), if_pos (by omega)]
theorem rSign_any (s : Bool) (p : Option Addr) (n nc : Nat) (xs : List Int) (w : World) (hU : U16 xs) (tx : tlen xs = n) :
    Calls Tryz.prog 102 #[.agg #[.bool s, .slice p n nc]] w fun e w' => e = .returned (.int .i64 (isgn (rval s xs))) ∧ Below w.heap.size w w' := by
  by_cases h0 : tlen xs = 0
  · rw [isgn_rval_zero hU h0]
    obtain rfl : n = 0 := by omega
    clear h0 tx
    go_enter Tryz.func102, Tryz.ntmps102
    go_wp2
    go_ret
    exact ⟨rfl, (Below.refl _ _).alloc (Nat.le_refl _) _⟩
  · rw [isgn_rval hU h0]
    have h1 : ((n : Int) == 0) = false := beq_eq_false_iff_ne.2 (by omega)
    clear tx
    cases s
    all_goals
      go_enter Tryz.func102, Tryz.ntmps102
      go_wp2
      go_ret
      exact ⟨rfl, (Below.refl _ _).alloc (Nat.le_refl _) _⟩
end Go.Proofs.YtejnhpjejcpekaaGreatDoor
