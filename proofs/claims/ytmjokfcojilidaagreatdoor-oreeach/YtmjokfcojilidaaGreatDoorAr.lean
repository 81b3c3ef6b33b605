/-
  OreEach's function.
-/
import Derived.Test.YtmjokfcojilidaaGreatDoorAqDvOaOf
import Derived.Test.YtmjokfcojilidaaGreatDoorDwDpAa
import Derived.Test.YtmjokfcojilidaaGreatDoorKjAm
import Derived.Deep.DeepFit
namespace Go.Proofs.YtmjokfcojilidaaGreatDoor
open Go.RowKit
set_option linter.unusedVariables false
set_option linter.unusedSimpArgs false

/-- What the function looks at: the variables fine, k, u, p. -/
structure EI (base gf gk gu gp : Nat) (z : List (List Int)) (u : Option Addr) (pp : Option Addr) (np cc : Nat) (zs : List Int) (i : Nat) (w : World) : Prop where
  sz : base ≤ w.heap.size
  bf : gf < base
  bk : gk < base
  bu : gu < base
  bp : gp < base
  ne : gf ≠ gk ∧ gu ≠ gf ∧ gu ≠ gk ∧ gp ≠ gf ∧ gp ≠ gk
  cf : w.heap[gf]? = some (.cells #[.bool true] 4 (0, 0))
  ck : w.heap[gk]? = some (.cells #[.int .i64 (i : Nat)] 3 (0, 0))
  cu : w.cell? ⟨gu, 0, none⟩ = some (.slice u (olen z) (olen z))
  cp : w.cell? ⟨gp, 0, none⟩ = some (.slice pp np cc)
  ru : ∃ B T, HR 5 (EY 4 4) w B T (oz z) ⟨u, olen z, olen z⟩ ∧ T ≤ base ∧ T ≤ gf ∧ T ≤ gk
  rp : ∃ B T, EZ 1 3 w B T zs ⟨pp, np, cc⟩ ∧ T ≤ base ∧ T ≤ gf ∧ T ≤ gk
theorem EI.below {base gf gk gu gp : Nat} {z : List (List Int)} {u : Option Addr} {pp : Option Addr} {np cp : Nat} {zs : List Int} {i : Nat} {w w' : World} (h : EI base gf gk gu gp z u pp np cp zs i w) (hb : Below base w w') : EI base gf gk gu gp z u pp np cp zs i w' := by
  obtain ⟨B, T, a1, a2, a3⟩ := h.ru
  obtain ⟨B2, T2, b1, b2, b3⟩ := h.rp
  have hsz := h.sz
  refine ⟨Nat.le_trans h.sz hb.size, h.bf, h.bk, h.bu, h.bp, h.ne, (hb.block _ h.bf).trans h.cf, (hb.block _ h.bk).trans h.ck, by rw [hb.cell (p := ⟨gu, 0, none⟩) h.bu]; exact h.cu, by rw [hb.cell (p := ⟨gp, 0, none⟩) h.bp]; exact h.cp, ⟨B, T, lastsB_HR (E := EY 4 4) (lastsB_EY 4 4) a1 (by omega) (fun b _ h2 => hb.block b (by omega)), a2, a3⟩, ⟨B2, T2, lastsB_EZ 1 3 b1 (by omega) (fun b _ h2 => hb.block b (by omega)), b2, b3⟩⟩
theorem set_one {w : World} {g : Nat} {v v' : Value} {t : TypeId} (h : w.heap[g]? = some (.cells #[v] t (0, 0))) : (w.setCell ⟨g, 0, none⟩ v').heap[g]? = some (.cells #[v'] t (0, 0)) := by
  simp only [World.setCell, Array.getElem?_modify, h]
  simp
theorem EI.next {base gf gk gu gp : Nat} {z : List (List Int)} {u : Option Addr} {pp : Option Addr} {np cp : Nat} {zs : List Int} {i : Nat} {w : World} (h : EI base gf gk gu gp z u pp np cp zs i w) : EI base gf gk gu gp z u pp np cp zs (i + 1) ((w.setCell ⟨gf, 0, none⟩ (.bool true)).setCell ⟨gk, 0, none⟩ (.int .i64 ((i : Int) + 1))) := by
  obtain ⟨n1, n2, n3, n4, n5⟩ := h.ne
  obtain ⟨B, T, a1, a2, a3⟩ := h.ru
  obtain ⟨B2, T2, b1, b2, b3⟩ := h.rp
  have hsz := h.sz
  have hs : ∀ b, b ≠ gf → b ≠ gk → ((w.setCell ⟨gf, 0, none⟩ (.bool true)).setCell ⟨gk, 0, none⟩ (.int .i64 ((i : Int) + 1))).heap[b]? = w.heap[b]? := fun b h1 h2 => by
    rw [Below.heap_setCell _ _ _ _ h2, Below.heap_setCell _ _ _ _ h1]
  refine ⟨by simpa [World.setCell] using hsz, h.bf, h.bk, h.bu, h.bp, h.ne, ?_, ?_, ?_, ?_, ⟨B, T, lastsB_HR (E := EY 4 4) (lastsB_EY 4 4) a1 (by omega) (fun b _ h2 => hs b (by omega) (by omega)), a2, a3⟩, ⟨B2, T2, lastsB_EZ 1 3 b1 (by omega) (fun b _ h2 => hs b (by omega) (by omega)), b2, b3⟩⟩
  · rw [Below.heap_setCell _ _ _ _ n1]
    exact set_one h.cf
  · rw [show ((i + 1 : Nat) : Int) = (i : Int) + 1 from rfl]
    exact set_one ((Below.heap_setCell w ⟨gf, 0, none⟩ _ gk n1.symm).trans h.ck)
  · rw [World.cell?_of_block (a := ⟨gu, 0, none⟩) (hs gu n2 n3)]
    exact h.cu
  · rw [World.cell?_of_block (a := ⟨gp, 0, none⟩) (hs gp n4 n5)]
    exact h.cp
theorem EI.cells {base gf gk gu gp : Nat} {z : List (List Int)} {u : Option Addr} {pp : Option Addr} {np cp : Nat} {zs : List Int} {i : Nat} {w : World} (h : EI base gf gk gu gp z u pp np cp zs i w) : w.cell? ⟨gf, 0, none⟩ = some (.bool true) ∧ w.frozen? ⟨gf, 0, none⟩ = false ∧ (w.setCell ⟨gf, 0, none⟩ (.bool true)).cell? ⟨gk, 0, none⟩ = some (.int .i64 (i : Nat)) ∧ (w.setCell ⟨gf, 0, none⟩ (.bool true)).frozen? ⟨gk, 0, none⟩ = false := by
  have hk := (Below.heap_setCell w ⟨gf, 0, none⟩ (.bool true) gk h.ne.1.symm).trans h.ck
  refine ⟨?_, frozen_of_row w _ _ _ _ h.cf, ?_, frozen_of_row _ _ _ _ _ hk⟩
  · simp only [World.cell?]; rw [h.cf]; rfl
  · simp only [World.cell?]; rw [hk]; rfl
set_option maxHeartbeats 4000000 in
set_option maxRecDepth 100000 in
theorem each_fn {w : World} {lo base gf gk gu gp B0 : Nat} {z : List (List Int)} {u pp pc : Option Addr} {np cp nc' : Nat} {zs : List Int} {es : List Ent} {i : Nat} (h : EI base gf gk gu gp z u pp np cp zs i w) (hi : i < olen z) (hlo : lo ≤ gf ∧ lo ≤ gk) (hP : PN B0 w 2 pc nc' es (tr (gt z i))) (hn : nc' ≤ 4) (hB0 : base ≤ B0) (hz : olen z ≤ 1000) :
    Calls Tryz.prog 42 #[.slice pc nc' nc', .pointer (some ⟨gf, 0, none⟩), .pointer (some ⟨gk, 0, none⟩), .pointer (some ⟨gu, 0, none⟩), .pointer (some ⟨gp, 0, none⟩)] w fun e w' => ∃ p n c es, e = .returned (.slice p n c) ∧ PA w' 4 p n c es (mulp (tr (gt z i)) (tr zs)) ∧ n ≤ 1000 ∧ EI base gf gk gu gp z u pp np cp zs (i + 1) w' ∧ Kp lo base w w' := by
  have HE := (show Hid _ from h)
  have x1 : w.cell? ⟨gf, 0, none⟩ = some (.bool true) := by simp only [World.cell?]; rw [h.cf]; rfl
  have x2 : w.cell? ⟨gk, 0, none⟩ = some (.int .i64 (i : Nat)) := by simp only [World.cell?]; rw [h.ck]; rfl
  have x3 := h.cu
  have x4 := h.cp
  have i1 : (i : Int) < (olen z : Int) := by omega
  obtain ⟨Bu, Tu, ⟨hs, kr⟩, t1, t2, t3⟩ := h.ru
  have hsz := h.sz
  obtain ⟨b, o, hpu, hc⟩ := kr.hl (by rw [kr.el]; show 0 < olen z; omega)
  simp only at hpu
  subst hpu
  have x5 := hc i (by rw [kr.el]; exact hi)
  have hEY := kr.ev i hi
  rw [gt_oz] at hEY
  generalize gh hs i = hd at x5 hEY
  obtain ⟨p3, n3, c3⟩ := hd
  obtain ⟨fs, hR3, e3, -, l3, -⟩ := hEY
  simp only [Hdr.val] at x5 hR3 e3 l3
  subst e3
  obtain rfl : c3 = nc' := by rw [← hR3.zl, ← hP.zl]
  have his := rpIs_any hP hR3 (by decide) (by decide) (by omega)
  clear h hc kr
  go_enter Tryz.func42, Tryz.ntmps42
  go_wp2_with fail
  go_fit his
  rintro e w1 ⟨rfl, hb1⟩
  have hE1 := HE.out.below (hb1.mono hsz)
  obtain ⟨y0, yf, y1, y1f⟩ := hE1.cells
  have hE2 := hE1.next
  have v1 : wrap64 ((i : Int) + 1) = (i : Int) + 1 := by unfold wrap64; omega
  have hP2 := ((hP.below hb1).put (o := 0) (Nat.lt_of_lt_of_le HE.out.bf hB0) (.bool true)).put (o := 0) (Nat.lt_of_lt_of_le HE.out.bk hB0) (.int .i64 ((i : Int) + 1))
  have hK2 : Kp lo base w ((w1.setCell ⟨gf, 0, none⟩ (.bool true)).setCell ⟨gk, 0, none⟩ (.int .i64 ((i : Int) + 1))) := ((Kp.of hb1).put ⟨gf, 0, none⟩ _ (.inl ⟨hlo.1, HE.out.bf⟩)).put ⟨gk, 0, none⟩ _ (.inl ⟨hlo.2, HE.out.bk⟩)
  have HE2 : Hid (EI base gf gk gu gp z (some ⟨b, o, none⟩) pp np cp zs (i + 1) ((w1.setCell ⟨gf, 0, none⟩ (.bool true)).setCell ⟨gk, 0, none⟩ (.int .i64 ((i : Int) + 1))) ∧ PN B0 ((w1.setCell ⟨gf, 0, none⟩ (.bool true)).setCell ⟨gk, 0, none⟩ (.int .i64 ((i : Int) + 1))) 2 pc c3 es (tr (gt z i)) ∧ Kp lo base w ((w1.setCell ⟨gf, 0, none⟩ (.bool true)).setCell ⟨gk, 0, none⟩ (.int .i64 ((i : Int) + 1)))) := ⟨hE2, hP2, hK2⟩
  clear hE1 hE2 hP2 hK2 his hP hR3 x1 x2 x3 x4 x5 hb1
  go_wp2_with fail
  generalize (w1.setCell ⟨gf, 0, none⟩ (.bool true)).setCell ⟨gk, 0, none⟩ (.int .i64 ((i : Int) + 1)) = W2 at *
  obtain ⟨hE2, hP2, hK2⟩ := HE2.out
  have x4 := hE2.cp
  have hF1 : ∀ w', Below W2.heap.size W2 w' → Calls Tryz.prog 15 #[.slice pc c3 c3] w' (PrP (tr (tr (gt z i))) 4 w') := fun w' hb => rpFrom_any ((hP2.below hb).pa (by decide) (by omega)) (by omega) (by decide)
  obtain ⟨Bp, Tp, ⟨gs, hPp, lp, -⟩, -⟩ := hE2.rp
  simp only at hPp lp
  have hF2 : ∀ w', Below W2.heap.size W2 w' → Calls Tryz.prog 15 #[.slice pp np cp] w' (PrP (tr zs) 2 w') := fun w' hb => rpFrom_any (hPp.below hb) (by omega) (by decide)
  have HL : Hid (tlen zs ≤ 3 ∧ tlen (gt z i) ≤ 4) := ⟨by have h1 := tlen_le zs; have h2 := hPp.zl; omega, by have h1 := hP2.zl; rw [length_tr] at h1; omega⟩
  have htt : tr (tr (gt z i)) = tr (gt z i) := tr_self (by rw [tlen_tr, length_tr])
  rw [htt] at hF1
  have x4d : W2.drew.cell? ⟨gp, 0, none⟩ = some (.slice pp np cp) := x4
  have hsz2 := hE2.sz
  clear hE2 hP2 hK2 hPp htt y0 yf y1 y1f
  go_region_held3 (fun w' => w'.cell? ⟨gp, 0, none⟩ = some (.slice pp np cp)) (first | with_reducible exact x4 | with_reducible exact x4d | with_reducible exact cell_later' hV1 x4 | with_reducible exact cell_later' hV2 x4 | with_reducible exact cell_later' hV3 x4 | with_reducible exact cell_later' hV4 x4)
    (first
      | (go_at_call 15; go_fit (hF1 _ (Below.refl _ _).drew); rintro e v1 ⟨p5, n5, es5, rfl, hR5, hf5, ht5, hb5⟩; have hV1 := undrew hb5)
      | (go_at_call 15; go_fit (hF2 _ hV1); rintro e v2 ⟨p6, n6, es6, rfl, hR6, hf6, ht6, hb6⟩; have hV2 := bnext' hV1 hb6; have hmu := rpMul_any (K := 2) (L := 1) (hR5.below hb6) hR6 (by rw [tlen_tr, length_tr]) (by rw [tlen_tr, length_tr]) (by rw [tlen_tr] at ht5; have := HL.out.2; omega) (by rw [tlen_tr] at ht6; have := HL.out.1; omega) (by decide) (by decide) (pr_bdk (K := 2) (hR5.below hb6)) (pr_bdk (K := 1) hR6) (by decide))
      | (go_at_call 44; go_fit hmu; rintro e v3 ⟨p7, n7, es7, rfl, hR7, hf7, ht7, hb7⟩; have hV3 := bnext' hV2 hb7; have hto := rpTo_any (K := 4) hR7 (by rw [← ht7]; exact Nat.le_trans (tlen_le _) (Nat.le_trans (mulp_le _ _) (by rw [length_tr, length_tr]; have := HL.out; omega))) (by decide) (by decide))
      | (go_at_call 43; go_fit hto; rintro e v4 ⟨p8, n8, c8, es8, rfl, hP8, hb8⟩; have hV4 := bnext' hV3 hb8))
  all_goals
    have HR' : Hid (PA v4 4 p8 n8 c8 es8 (mulp (tr (gt z i)) (tr zs)) ∧ n8 ≤ 1000 ∧ EI base gf gk gu gp z (some ⟨b, o, none⟩) pp np cp zs (i + 1) v4 ∧ Kp lo base w v4) := ⟨hP8, by
      have h1 := mulp_le (tr (gt z i)) (tr zs)
      have h2 := hP8.zl
      rw [length_tr, length_tr] at h1
      have h3 := HL.out
      omega, HE2.out.1.below (hV4.mono hsz2), HE2.out.2.2.trans (Kp.of hV4)⟩
    clear hP8 hb8 hV4 hR7 hb7 hV3 hR6 hb6 hV2 hR5 hb5 hV1 hto hmu x4 x4d hF1 hF2
    go_wp2
    go_ret
    exact ⟨p8, n8, c8, es8, rfl, HR'.out⟩
end Go.Proofs.YtmjokfcojilidaaGreatDoor
