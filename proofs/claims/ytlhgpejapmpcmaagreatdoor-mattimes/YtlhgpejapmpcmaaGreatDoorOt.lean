/-
  linalg.Cost.
-/
import Derived.Test.YtlhgpejapmpcmaaGreatDoorUjOsKp
import Derived.Test.YtlhgpejapmpcmaaGreatDoorOr
import Derived.Test.YtlhgpejapmpcmaaGreatDoorUeUfUg
import Derived.StillTailTactics
import Derived.StillTactics
import Derived.Deep.DeepFit
namespace Go.Proofs.YtlhgpejapmpcmaaGreatDoor
open Go.RowKit
set_option linter.unusedVariables false
set_option linter.unusedSimpArgs false

theorem w64_small {x : Int} (h1 : -1000 ≤ x) (h2 : x ≤ 1000) : wrap64 x = x := by unfold wrap64; omega
set_option maxHeartbeats 4000000 in
set_option maxRecDepth 100000 in
/-- linalg.Cost. -/
theorem Cost_any {w : World} {B T R C : Nat} {ts : List (List (List Int))} {h : Hdr} (H : HR R (HR C (EZ 1 3)) w B T ts h) (hT : T ≤ w.heap.size) (hR : R ≤ 5) (hC : C ≤ 5) (hM : Mtx ts) :
    Calls Tryz.prog 8 #[.slice h.p h.n h.c] w fun e w' => e = .returned (.int .i64 (tms [(ts.length : Int) + 1, ((gt ts 0).length : Int) + 1, min (ts.length : Int) ((gt ts 0).length : Int) + 1, DM ts + 2, BM ts + 8])) ∧ Below w.heap.size w w' := by
  have hi := isMatrix_any H hR hC
  obtain ⟨hs, k⟩ := H
  have HX : Hid (HRow R (HR C (EZ 1 3)) w B T ts h hs) := k
  have hn : h.n ≤ R := k.few
  obtain ⟨p, n, nc⟩ := h
  simp only at hn hi ⊢
  clear k
  go_enter Tryz.func8, Tryz.ntmps8
  go_wp2_with fail
  refine hi.mono ?_
  rintro e w1 ⟨b, rfl, hb, hB1⟩
  obtain rfl : b = true := hb.2 hM
  clear hi hb
  have hT1 : Hid (HRow R (HR C (EZ 1 3)) w B T ts ⟨p, n, nc⟩ hs ∧ T ≤ w.heap.size) := ⟨HX.out, hT⟩
  have HM : Hid (Mtx ts) := hM
  have hn0 : 0 < n := by have h1 := hM.1; have h2 := HX.out.tl; simp only at h2; omega
  obtain ⟨b, o, hp, hc⟩ := HX.out.hl (by rw [HX.out.el]; exact hn0)
  simp only at hp
  subst hp
  have cg : Hid (∀ wq, Below w.heap.size w wq → ∀ k, k < n → wq.cell? ⟨b, o + k, none⟩ = some (gh hs k).val) := fun wq hb k hk => by
    have h1 := hc k (by rw [HX.out.el]; exact hk)
    rw [hb.cell (block_lt_of_cell h1)]
    exact h1
  have HB1 : Hid (Below w.heap.size w w1) := hB1
  clear hc hM hB1
  go_wp2_with fail
  go_loopw [3, 4, 16] (fun dv bv iv wr => ∃ k : Nat, k ≤ n ∧ iv = .int .i64 k ∧ dv = .int .i64 (DM (ts.take k)) ∧ bv = .int .i64 (BM (ts.take k)) ∧ Hid (Below w.heap.size w wr ∧ -1 ≤ DM (ts.take k) ∧ DM (ts.take k) ≤ 2 ∧ 0 ≤ BM (ts.take k) ∧ BM (ts.take k) ≤ 32)) (fun _ _ iv _ => n - (intOf iv).toNat)
  case atStart => exact ⟨0, Nat.zero_le _, by go_num, rfl, rfl, HB1.out, by simp [DM], by simp [DM], by simp [BM], by simp [BM]⟩
  case round =>
    obtain ⟨k, hk, rfl, rfl, rfl, H⟩ := hrel
    rcases Nat.lt_or_ge k n with hlt | hge
    · have c5 := cg.out wr H.out.1 k hlt
      have HZ : Hid (∀ wq, Below w.heap.size w wq → HR C (EZ 1 3) wq B T (gt ts k) (gh hs k)) := fun wq hb => (lasts_HR (lasts_EZ 1 3)).below (HX.out.ev k hlt) hT1.out.2 hb
      have htl : ts.length = n := HX.out.tl
      have HD : Hid (DM (ts.take (k + 1)) = dm (DM (ts.take k)) (gt ts k) ∧ BM (ts.take (k + 1)) = bm (BM (ts.take k)) (gt ts k)) := ⟨foldl_take_succ _ _ _ _ (by omega), foldl_take_succ _ _ _ _ (by omega)⟩
      have i1 : (k : Int) < (n : Int) := by omega
      generalize gh hs k = hd at c5 HZ
      obtain ⟨p1, n1, nc1⟩ := hd
      simp only [Hdr.val] at c5 HZ
      have HLK : Hid ((gt ts k).length = n1) := (HZ.out wr H.out.1).elim fun _ h => h.tl
      have hn1 : n1 ≤ C := (HZ.out wr H.out.1).elim fun _ h => h.few
      generalize gt ts k = row at *
      generalize DM (ts.take k) = d0 at *
      generalize BM (ts.take k) = b0 at *
      clear htl
      go_wp2_with fail
      rename World => W
      clear c5
      go_loopw [3, 4, 22] (fun dv bv jv wq => ∃ j : Nat, j ≤ n1 ∧ jv = .int .i64 j ∧ dv = .int .i64 (dm d0 (row.take j)) ∧ bv = .int .i64 (bm b0 (row.take j)) ∧ Hid (Below w.heap.size w wq ∧ -1 ≤ dm d0 (row.take j) ∧ dm d0 (row.take j) ≤ 2 ∧ 0 ≤ bm b0 (row.take j) ∧ bm b0 (row.take j) ≤ 32)) (fun _ _ jv _ => n1 - (intOf jv).toNat)
      case atStart => exact ⟨0, Nat.zero_le _, by go_num, rfl, rfl, H.out⟩
      case round =>
        obtain ⟨j, hj, rfl, rfl, rfl, G⟩ := hrel
        rcases Nat.lt_or_ge j n1 with hlt1 | hge1
        · obtain ⟨rs0, hN⟩ := HZ.out wr G.out.1
          obtain ⟨b1, o1, hp1, hc1⟩ := hN.hl (by rw [hN.el]; show 0 < n1; omega)
          simp only at hp1
          subst hp1
          have c7 := hc1 j (by rw [hN.el]; exact hlt1)
          have hP2 := hN.ev j hlt1
          have hrl := HLK.out
          have HD2 : Hid (dm d0 (row.take (j + 1)) = max (dm d0 (row.take j)) ((tlen (gt row j) : Int) - 1) ∧ bm b0 (row.take (j + 1)) = max (bm b0 (row.take j)) (pb (gt row j) : Int)) := ⟨foldl_take_succ _ _ _ _ (by omega), foldl_take_succ _ _ _ _ (by omega)⟩
          generalize gh rs0 j = hd2 at c7 hP2
          obtain ⟨p2, n2, nc2⟩ := hd2
          simp only [Hdr.val] at c7
          obtain ⟨es2, hP2, hd3, -, -⟩ := hP2
          simp only at hP2 hd3
          have j1 : (j : Int) < (n1 : Int) := by omega
          have ht3 : tlen (gt row j) ≤ 3 := by have h1 := tlen_le (gt row j); have h2 := hP2.zl; omega
          have HP : Hid (PA wr 1 p2 n2 nc2 es2 (gt row j)) := hP2
          generalize gt row j = zs at *
          generalize dm d0 (row.take j) = d1 at *
          generalize bm b0 (row.take j) = b2 at *
          clear hc1 hN hP2 hrl
          go_wp2_with fail
          refine (uDeg_any 1 p2 n2 nc2 es2 zs wr HP.out (by omega)).mono ?_
          rintro e w2 ⟨rfl, hb2⟩
          have HP2 : Hid (PA w2 1 p2 n2 nc2 es2 zs) := HP.out.below hb2
          have HB2 : Hid (Below w.heap.size w w2) := bnext' G.out.1 hb2
          clear c7 hb2
          generalize ht0 : (tlen zs : Int) - 1 = t at *
          go_wp2_with fail
          refine (uBits_any HP2.out (by omega) (by decide)).mono ?_
          rintro e w3 ⟨rfl, hpb, hb3⟩
          have HB3 : Hid (Below w.heap.size w w3) := bnext' HB2.out hb3
          clear hb3
          go_wp2_with fail
          refine ⟨⟨j + 1, by omega, by go_num, by rw [HD2.out.1], by rw [HD2.out.2], ?_⟩, by simp [intOf]; omega⟩
          rw [HD2.out.1, HD2.out.2]
          obtain ⟨-, g1, g2, g3, g4⟩ := G.out
          exact ⟨HB3.out, by omega, by omega, by omega, by omega⟩
        · obtain rfl : j = n1 := by omega
          have i2 : ¬ (j : Int) < (j : Int) := by omega
          have hrow : Hid (row.take j = row) := List.take_of_length_le (by have := HLK.out; omega)
          rw [hrow.out] at G ⊢
          go_wp2_with fail
          refine ⟨⟨k + 1, by omega, by go_num, by rw [HD.out.1], by rw [HD.out.2], by rw [HD.out.1, HD.out.2]; exact G.out⟩, by simp [intOf]; omega⟩
    · obtain rfl : k = n := by omega
      have i2 : ¬ (k : Int) < (k : Int) := by omega
      have htl : ts.length = k := HX.out.tl
      have hrow : Hid (ts.take k = ts) := List.take_of_length_le (by omega)
      rw [hrow.out] at H ⊢
      have HG : Hid (ts.length = k) := htl
      have c0 := cg.out wr H.out.1 0 hn0
      have HLK : Hid ((gh hs 0).n = (gt ts 0).length ∧ (gh hs 0).n ≤ C) := (HX.out.ev 0 hn0).elim fun _ h => ⟨h.tl.symm, h.few⟩
      generalize gh hs 0 = hd at c0 HLK
      obtain ⟨p0, n0, nc0⟩ := hd
      simp only [Hdr.val, Nat.add_zero] at c0 HLK
      generalize hDM : DM ts = d at *
      generalize hBM : BM ts = bb at *
      clear htl
      go_wp2_with fail
      go_still (by kernel_rfl)
      have H2 : Hid (Below w.heap.size w { wr with drawn := wr.drawn + 1 }) := H.out.1.drew
      generalize ({ wr with drawn := wr.drawn + 1 } : World) = wc at H2 ⊢
      obtain ⟨hm1, hm2⟩ := HLK.out
      obtain ⟨-, g1, g2, g3, g4⟩ := H.out
      have HN : Hid (n0 = (gt ts 0).length) := hm1
      have HDM : Hid (DM ts = d ∧ BM ts = bb) := ⟨hDM, hBM⟩
      have hk5 : k ≤ 5 := Nat.le_trans hn hR
      have hn5 : n0 ≤ 5 := Nat.le_trans hm2 hC
      clear hm1 c0 HLK H HX hT1 cg HM hge hk i2 hDM hBM
      have v1 : wrap64 ((n0 : Int) + 1) = (n0 : Int) + 1 := by unfold wrap64; omega
      have v2 : wrap64 (d + 2) = d + 2 := w64_small (by omega) (by omega)
      have v3 : wrap64 (bb + 8) = bb + 8 := w64_small (by omega) (by omega)
      rcases Nat.lt_or_ge n0 k with hl | hl
      · have l1 : min (k : Int) (n0 : Int) = (n0 : Int) := by omega
        go_wp2_with fail
        have hrow2 : Row (wc.alloc (Obj.cells #[Value.int IntKind.i64 ((k : Int) + 1), Value.int IntKind.i64 ((n0 : Int) + 1), Value.int IntKind.i64 ((n0 : Int) + 1), Value.int IntKind.i64 (d + 2), Value.int IntKind.i64 (bb + 8)] 3)) wc.heap.size 3 .i64 [(k : Int) + 1, (n0 : Int) + 1, (n0 : Int) + 1, d + 2, bb + 8] := heap_alloc_new wc _
        have hc := eTimes_any (n := 5) (nc := 5) (xs := [(k : Int) + 1, (n0 : Int) + 1, (n0 : Int) + 1, d + 2, bb + 8]) rfl hrow2.rd_all (by decide) (fun j hj => by
          have : j = 0 ∨ j = 1 ∨ j = 2 ∨ j = 3 ∨ j = 4 := by omega
          rcases this with rfl | rfl | rfl | rfl | rfl <;> simp only [gx, List.getD, List.getElem?_cons_zero, List.getElem?_cons_succ, Option.getD_some] <;> omega)
        clear hrow2
        go_fit hc
        rintro e w5 ⟨rfl, hb5⟩
        have HB5 : Hid (Below w.heap.size w w5) := bnext' (H2.out.alloc H2.out.size _) hb5
        clear hc hb5
        have HQ : Hid (tms [(k : Int) + 1, (n0 : Int) + 1, (n0 : Int) + 1, d + 2, bb + 8] = tms [(ts.length : Int) + 1, ((gt ts 0).length : Int) + 1, min (ts.length : Int) ((gt ts 0).length : Int) + 1, d + 2, bb + 8]) := by
          rw [HG.out, ← HN.out, show min (k : Int) (n0 : Int) = (n0 : Int) by omega]
          rfl
        go_wp2
        go_ret
        exact ⟨by rw [HQ.out, HDM.out.1, HDM.out.2]; rfl, HB5.out⟩
      · have l1 : min (k : Int) (n0 : Int) = (k : Int) := by omega
        go_wp2_with fail
        have hrow2 : Row (wc.alloc (Obj.cells #[Value.int IntKind.i64 ((k : Int) + 1), Value.int IntKind.i64 ((n0 : Int) + 1), Value.int IntKind.i64 ((k : Int) + 1), Value.int IntKind.i64 (d + 2), Value.int IntKind.i64 (bb + 8)] 3)) wc.heap.size 3 .i64 [(k : Int) + 1, (n0 : Int) + 1, (k : Int) + 1, d + 2, bb + 8] := heap_alloc_new wc _
        have hc := eTimes_any (n := 5) (nc := 5) (xs := [(k : Int) + 1, (n0 : Int) + 1, (k : Int) + 1, d + 2, bb + 8]) rfl hrow2.rd_all (by decide) (fun j hj => by
          have : j = 0 ∨ j = 1 ∨ j = 2 ∨ j = 3 ∨ j = 4 := by omega
          rcases this with rfl | rfl | rfl | rfl | rfl <;> simp only [gx, List.getD, List.getElem?_cons_zero, List.getElem?_cons_succ, Option.getD_some] <;> omega)
        clear hrow2
        go_fit hc
        rintro e w5 ⟨rfl, hb5⟩
        have HB5 : Hid (Below w.heap.size w w5) := bnext' (H2.out.alloc H2.out.size _) hb5
        clear hc hb5
        have HQ : Hid (tms [(k : Int) + 1, (n0 : Int) + 1, (k : Int) + 1, d + 2, bb + 8] = tms [(ts.length : Int) + 1, ((gt ts 0).length : Int) + 1, min (ts.length : Int) ((gt ts 0).length : Int) + 1, d + 2, bb + 8]) := by
          rw [HG.out, ← HN.out, show min (k : Int) (n0 : Int) = (k : Int) by omega]
          rfl
        go_wp2
        go_ret
        exact ⟨by rw [HQ.out, HDM.out.1, HDM.out.2]; rfl, HB5.out⟩
end Go.Proofs.YtlhgpejapmpcmaaGreatDoor
