/-
  ashlarlaw7.cost.
-/
import Derived.Test.YtlhgpejapmpcmaaGreatDoorUjOsKp
import Derived.Test.YtlhgpejapmpcmaaGreatDoorOr
import Derived.Test.YtlhgpejapmpcmaaGreatDoorRzVdRtDhVe
import Derived.Deep.DeepFit
namespace Go.Proofs.YtlhgpejapmpcmaaGreatDoor
open Go.RowKit
set_option linter.unusedVariables false
set_option linter.unusedSimpArgs false

theorem pb_trim (zs : List Int) : pb (tr zs) = pb zs := by
  have step : ∀ j, tlen zs ≤ j → j ≤ zs.length → pb (zs.take j) = pb (tr zs) := by
    intro j
    induction j with
    | zero => intro h1 _; have : tlen zs = 0 := by omega
              rw [tr, this]
    | succ j ih =>
      intro h1 h2
      rcases Nat.lt_or_ge j (tlen zs) with h | h
      · have : tlen zs = j + 1 := by omega
        rw [tr, this]
      · rw [pb_take zs j (by omega), ih h (by omega), tlen_zero zs j h, show zb 0 = 0 from rfl, Nat.max_zero]
  have := step zs.length (tlen_le zs) (Nat.le_refl _)
  rw [List.take_length] at this
  exact this.symm
theorem pb_few {w : World} {K : Nat} {p : Option Addr} {n nc : Nat} {es : List Ent} {zs : List Int} (h : PA w K p n nc es zs) : pb zs ≤ 32 * K := by
  have key : ∀ j, j ≤ zs.length → pb (zs.take j) ≤ 32 * K := by
    intro j
    induction j with
    | zero => intro _; simp [pb]
    | succ j ih =>
      intro hj
      rw [pb_take zs j (by omega)]
      have h1 := ih (by omega)
      have h2 := zb_le (h.ev j (by have := h.zl; omega))
      omega
  have := key zs.length (Nat.le_refl _)
  rw [List.take_length] at this
  exact this
theorem dm_tr (d : Int) (row : List (List Int)) : dm d (row.map tr) = dm d row := by
  unfold dm
  rw [List.foldl_map]
  simp only [tlen_tr]
theorem bm_tr (d : Int) (row : List (List Int)) : bm d (row.map tr) = bm d row := by
  unfold bm
  rw [List.foldl_map]
  simp only [pb_trim]
theorem DM_tr (ts : List (List (List Int))) : DM (ts.map (·.map tr)) = DM ts := by
  unfold DM
  rw [List.foldl_map]
  simp only [dm_tr]
theorem BM_tr (ts : List (List (List Int))) : BM (ts.map (·.map tr)) = BM ts := by
  unfold BM
  rw [List.foldl_map]
  simp only [bm_tr]
set_option maxHeartbeats 4000000 in
set_option maxRecDepth 100000 in
/-- ashlarlaw7.cost. -/
theorem rcost_any {w : World} {B T R C : Nat} {ts : List (List (List Int))} {h : Hdr} (H : HR R (HR C (EY 2 3)) w B T ts h) (hT : T ≤ w.heap.size) (hR : R ≤ 5) (hC : C ≤ 5) (hM : Mtx ts) (hpb : ∀ i j, pb (gt (gt ts i) j) ≤ 32) :
    Calls Tryz.prog 10 #[.slice h.p h.n h.c] w fun e w' => e = .returned (.int .i64 (tms [(ts.length : Int) + 1, ((gt ts 0).length : Int) + 1, min (ts.length : Int) ((gt ts 0).length : Int) + 1, DM ts + 2, BM ts + 8])) ∧ Below w.heap.size w w' := by
  obtain ⟨hs, k⟩ := H
  have HX : Hid (HRow R (HR C (EY 2 3)) w B T ts h hs) := k
  have hn : h.n ≤ R := k.few
  obtain ⟨p, n, nc⟩ := h
  simp only at hn ⊢
  clear k
  have hT1 : Hid (HRow R (HR C (EY 2 3)) w B T ts ⟨p, n, nc⟩ hs ∧ T ≤ w.heap.size ∧ ∀ i j, pb (gt (gt ts i) j) ≤ 32) := ⟨HX.out, hT, hpb⟩
  have HM : Hid (Mtx ts) := hM
  have hn0 : 0 < n := by have h1 := hM.1; have h2 := HX.out.tl; simp only at h2; omega
  obtain ⟨b, o, hp, hc⟩ := HX.out.hl (by rw [HX.out.el]; exact hn0)
  simp only at hp
  subst hp
  have cg : Hid (∀ wq, Below w.heap.size w wq → ∀ k, k < n → wq.cell? ⟨b, o + k, none⟩ = some (gh hs k).val) := fun wq hb k hk => by
    have h1 := hc k (by rw [HX.out.el]; exact hk)
    rw [hb.cell (block_lt_of_cell h1)]
    exact h1
  clear hc hM hpb hT
  go_enter Tryz.func10, Tryz.ntmps10
  go_wp2_with fail
  go_loopw [3, 4, 5, 6] (fun dv bv iv _ wr => ∃ k : Nat, k ≤ n ∧ iv = .int .i64 k ∧ dv = .int .i64 (DM (ts.take k)) ∧ bv = .int .i64 (BM (ts.take k)) ∧ Hid (Below w.heap.size w wr ∧ -1 ≤ DM (ts.take k) ∧ DM (ts.take k) ≤ 2 ∧ 0 ≤ BM (ts.take k) ∧ BM (ts.take k) ≤ 32)) (fun _ _ iv _ _ => n - (intOf iv).toNat)
  case atStart => exact ⟨0, Nat.zero_le _, by go_num, rfl, rfl, Below.refl _ _, by simp [DM], by simp [DM], by simp [BM], by simp [BM]⟩
  case round =>
    obtain ⟨k, hk, rfl, rfl, rfl, H⟩ := hrel
    rcases Nat.lt_or_ge k n with hlt | hge
    · have cK : Hid (∀ wq, Below w.heap.size w wq → wq.cell? ⟨b, o + k, none⟩ = some (gh hs k).val) := fun wq hb => cg.out wq hb k hlt
      have HZ : Hid (∀ wq, Below w.heap.size w wq → HR C (EY 2 3) wq B T (gt ts k) (gh hs k)) := fun wq hb => (lasts_HR (lasts_EY 2 3)).below (HX.out.ev k hlt) hT1.out.2.1 hb
      have htl : ts.length = n := HX.out.tl
      have HD : Hid (DM (ts.take (k + 1)) = dm (DM (ts.take k)) (gt ts k) ∧ BM (ts.take (k + 1)) = bm (BM (ts.take k)) (gt ts k)) := ⟨foldl_take_succ _ _ _ _ (by omega), foldl_take_succ _ _ _ _ (by omega)⟩
      have HPB : Hid (∀ j, pb (gt (gt ts k) j) ≤ 32) := fun j => hT1.out.2.2 k j
      have i1 : (k : Int) < (n : Int) := by omega
      generalize gh hs k = hd at cK HZ
      obtain ⟨p1, n1, nc1⟩ := hd
      simp only [Hdr.val] at cK HZ
      have HLK : Hid ((gt ts k).length = n1) := (HZ.out wr H.out.1).elim fun _ h => h.tl
      have hn1 : n1 ≤ C := (HZ.out wr H.out.1).elim fun _ h => h.few
      generalize gt ts k = row at *
      generalize DM (ts.take k) = d0 at *
      generalize BM (ts.take k) = b0 at *
      clear htl
      go_wp2_with fail
      rename World => W
      go_loopw [3, 4, 6] (fun dv bv jv wq => ∃ j : Nat, j ≤ n1 ∧ jv = .int .i64 j ∧ dv = .int .i64 (dm d0 (row.take j)) ∧ bv = .int .i64 (bm b0 (row.take j)) ∧ Hid (Below w.heap.size w wq ∧ -1 ≤ dm d0 (row.take j) ∧ dm d0 (row.take j) ≤ 2 ∧ 0 ≤ bm b0 (row.take j) ∧ bm b0 (row.take j) ≤ 32)) (fun _ _ jv _ => n1 - (intOf jv).toNat)
      case atStart => exact ⟨0, Nat.zero_le _, by go_num, rfl, rfl, H.out⟩
      case round =>
        obtain ⟨j, hj, rfl, rfl, rfl, G⟩ := hrel
        have c5 := cK.out wr G.out.1
        rcases Nat.lt_or_ge j n1 with hlt1 | hge1
        · obtain ⟨rs0, hN⟩ := HZ.out wr G.out.1
          obtain ⟨b1, o1, hp1, hc1⟩ := hN.hl (by rw [hN.el]; show 0 < n1; omega)
          simp only at hp1
          subst hp1
          have c7 := hc1 j (by rw [hN.el]; exact hlt1)
          have hP2 := hN.ev j hlt1
          have hrl := HLK.out
          have HD2 : Hid (dm d0 (row.take (j + 1)) = max (dm d0 (row.take j)) ((tlen (gt row j) : Int) - 1) ∧ bm b0 (row.take (j + 1)) = max (bm b0 (row.take j)) (pb (gt row j) : Int)) := ⟨foldl_take_succ _ _ _ _ (by omega), foldl_take_succ _ _ _ _ (by omega)⟩
          have hpbj := HPB.out j
          generalize gh rs0 j = hd2 at c7 hP2
          obtain ⟨p2, n2, nc2⟩ := hd2
          simp only [Hdr.val] at c7
          obtain ⟨es2, hP2, -, htn, hd3, -, -⟩ := hP2
          simp only at hP2 hd3 htn
          have j1 : (j : Int) < (n1 : Int) := by omega
          have HP : Hid (PR wr 2 p2 n2 nc2 es2 (gt row j)) := hP2
          have c7K : Hid (∀ wq, Below wr.heap.size wr wq → wq.cell? ⟨b1, o1 + j, none⟩ = some (.slice p2 n2 nc2)) := fun wq hb => by rw [hb.cell (block_lt_of_cell c7)]; exact c7
          have HTN : Hid (tlen (gt row j) = n2) := htn
          generalize gt row j = zs at *
          generalize dm d0 (row.take j) = d1 at *
          generalize bm b0 (row.take j) = b2 at *
          clear hc1 hN hP2 hrl htn
          go_wp2_with fail
          refine (rpDeg_any p2 n2 nc2 wr (by omega)).mono ?_
          rintro e w2 ⟨rfl, hb2⟩
          have HP2 : Hid (PR w2 2 p2 n2 nc2 es2 zs) := HP.out.below hb2
          have HB2 : Hid (Below w.heap.size w w2) := bnext' G.out.1 hb2
          have c7b := c7K.out w2 hb2
          have c5b := cK.out w2 HB2.out
          have HDz : Hid ((tlen zs : Int) - 1 = (n2 : Int) - 1) := by rw [HTN.out]; rfl
          have hdb : (n2 : Int) - 1 ≤ 2 := by omega
          clear c7 c5 hb2
          have HB3 : Hid (∀ w3, Below w2.heap.size w2 w3 → Below w.heap.size w w3) := fun w3 h3 => bnext' HB2.out h3
          have HZ2 : Hid (dm d0 (row.take (j + 1)) = max d1 ((n2 : Int) - 1) ∧ bm b0 (row.take (j + 1)) = max b2 (pb zs : Int)) := by rw [← HDz.out]; exact HD2.out
          clear HD2 HDz
          generalize (n2 : Int) - 1 = t at *
          rcases Int.lt_or_le d1 t with hd | hd
          · have hd' : ¬ t ≤ d1 := by omega
            go_wp2_with fail
            refine (rpBits_any HP2.out (by decide) (by omega)).mono ?_
            rintro e w3 ⟨rfl, hb3⟩
            have HB4 : Hid (Below w.heap.size w w3) := HB3.out w3 hb3
            clear hb3 c7b c5b
            rcases Int.lt_or_le b2 (pb zs : Int) with hb | hb
            · have hb' : ¬ (pb zs : Int) ≤ b2 := by omega
              go_wp2_with fail
              refine ⟨⟨j + 1, by omega, by go_num, by rw [HZ2.out.1]; congr 1; omega, by rw [HZ2.out.2]; congr 1; omega, ?_⟩, by simp [intOf]; omega⟩
              rw [HZ2.out.1, HZ2.out.2]
              obtain ⟨-, g1, g2, g3, g4⟩ := G.out
              exact ⟨HB4.out, by omega, by omega, by omega, by omega⟩
            · have hb' : ¬ b2 < (pb zs : Int) := by omega
              go_wp2_with fail
              refine ⟨⟨j + 1, by omega, by go_num, by rw [HZ2.out.1]; congr 1; omega, by rw [HZ2.out.2]; congr 1; omega, ?_⟩, by simp [intOf]; omega⟩
              rw [HZ2.out.1, HZ2.out.2]
              obtain ⟨-, g1, g2, g3, g4⟩ := G.out
              exact ⟨HB4.out, by omega, by omega, by omega, by omega⟩
          · have hd' : ¬ d1 < t := by omega
            go_wp2_with fail
            refine (rpBits_any HP2.out (by decide) (by omega)).mono ?_
            rintro e w3 ⟨rfl, hb3⟩
            have HB4 : Hid (Below w.heap.size w w3) := HB3.out w3 hb3
            clear hb3 c7b c5b
            rcases Int.lt_or_le b2 (pb zs : Int) with hb | hb
            · have hb' : ¬ (pb zs : Int) ≤ b2 := by omega
              go_wp2_with fail
              refine ⟨⟨j + 1, by omega, by go_num, by rw [HZ2.out.1]; congr 1; omega, by rw [HZ2.out.2]; congr 1; omega, ?_⟩, by simp [intOf]; omega⟩
              rw [HZ2.out.1, HZ2.out.2]
              obtain ⟨-, g1, g2, g3, g4⟩ := G.out
              exact ⟨HB4.out, by omega, by omega, by omega, by omega⟩
            · have hb' : ¬ b2 < (pb zs : Int) := by omega
              go_wp2_with fail
              refine ⟨⟨j + 1, by omega, by go_num, by rw [HZ2.out.1]; congr 1; omega, by rw [HZ2.out.2]; congr 1; omega, ?_⟩, by simp [intOf]; omega⟩
              rw [HZ2.out.1, HZ2.out.2]
              obtain ⟨-, g1, g2, g3, g4⟩ := G.out
              exact ⟨HB4.out, by omega, by omega, by omega, by omega⟩
        · obtain rfl : j = n1 := by omega
          have i2 : ¬ (j : Int) < (j : Int) := by omega
          have hrow : Hid (row.take j = row) := List.take_of_length_le (by have := HLK.out; omega)
          rw [hrow.out] at G ⊢
          go_wp2_with fail
          refine ⟨⟨k + 1, by omega, by go_num, by rw [HD.out.1], by rw [HD.out.2], by rw [HD.out.1, HD.out.2]; exact G.out⟩, by simp [intOf]; omega⟩
    · obtain rfl : k = n := by omega
      have i2 : ¬ (k : Int) < (k : Int) := by omega
      have htl : ts.length = k := HX.out.tl
      have hrow : Hid (ts.take k = ts) := List.take_of_length_le (by omega)
      rw [hrow.out] at H ⊢
      have HG : Hid (ts.length = k) := htl
      have c0 := cg.out wr H.out.1 0 hn0
      have HLK : Hid ((gh hs 0).n = (gt ts 0).length ∧ (gh hs 0).n ≤ C) := (HX.out.ev 0 hn0).elim fun _ h => ⟨h.tl.symm, h.few⟩
      generalize gh hs 0 = hd at c0 HLK
      obtain ⟨p0, n0, nc0⟩ := hd
      simp only [Hdr.val, Nat.add_zero] at c0 HLK
      generalize hDM : DM ts = d at *
      generalize hBM : BM ts = bb at *
      clear htl
      obtain ⟨hm1, hm2⟩ := HLK.out
      obtain ⟨-, g1, g2, g3, g4⟩ := H.out
      have v2 : wrap64 (d + 2) = d + 2 := by unfold wrap64; omega
      have v3 : wrap64 (bb + 8) = bb + 8 := by unfold wrap64; omega
      have HN : Hid (n0 = (gt ts 0).length) := hm1
      clear hm1
      have hk5 : k ≤ 5 := by omega
      have hn5 : n0 ≤ 5 := by omega
      rcases Nat.lt_or_ge n0 k with hl | hl
      · have l1 : (n0 : Int) < (k : Int) := by omega
        go_wp2_with fail
        have hrow2 : Row (wr.alloc (Obj.cells #[Value.int IntKind.i64 ((k : Int) + 1), Value.int IntKind.i64 ((n0 : Int) + 1), Value.int IntKind.i64 ((n0 : Int) + 1), Value.int IntKind.i64 (d + 2), Value.int IntKind.i64 (bb + 8)] 3)) wr.heap.size 3 .i64 [(k : Int) + 1, (n0 : Int) + 1, (n0 : Int) + 1, d + 2, bb + 8] := heap_alloc_new wr _
        have hc := rTimes_any (n := 5) (nc := 5) (xs := [(k : Int) + 1, (n0 : Int) + 1, (n0 : Int) + 1, d + 2, bb + 8]) rfl hrow2.rd_all (by decide)
        clear hrow2
        go_fit hc
        rintro e w5 ⟨rfl, rfl⟩
        clear hc
        have HB5 : Hid (Below w.heap.size w (wr.alloc (Obj.cells #[Value.int IntKind.i64 ((k : Int) + 1), Value.int IntKind.i64 ((n0 : Int) + 1), Value.int IntKind.i64 ((n0 : Int) + 1), Value.int IntKind.i64 (d + 2), Value.int IntKind.i64 (bb + 8)] 3))) := H.out.1.alloc H.out.1.size _
        have HQ : Hid (tms [(k : Int) + 1, (n0 : Int) + 1, (n0 : Int) + 1, d + 2, bb + 8] = tms [(ts.length : Int) + 1, ((gt ts 0).length : Int) + 1, min (ts.length : Int) ((gt ts 0).length : Int) + 1, d + 2, bb + 8]) := by
          rw [HG.out, ← HN.out, show min (k : Int) (n0 : Int) = (n0 : Int) by omega]
          rfl
        go_wp2
        go_ret
        exact ⟨by rw [HQ.out, hDM, hBM]; rfl, HB5.out⟩
      · have l1 : ¬ (n0 : Int) < (k : Int) := by omega
        go_wp2_with fail
        have hrow2 : Row (wr.alloc (Obj.cells #[Value.int IntKind.i64 ((k : Int) + 1), Value.int IntKind.i64 ((n0 : Int) + 1), Value.int IntKind.i64 ((k : Int) + 1), Value.int IntKind.i64 (d + 2), Value.int IntKind.i64 (bb + 8)] 3)) wr.heap.size 3 .i64 [(k : Int) + 1, (n0 : Int) + 1, (k : Int) + 1, d + 2, bb + 8] := heap_alloc_new wr _
        have hc := rTimes_any (n := 5) (nc := 5) (xs := [(k : Int) + 1, (n0 : Int) + 1, (k : Int) + 1, d + 2, bb + 8]) rfl hrow2.rd_all (by decide)
        clear hrow2
        go_fit hc
        rintro e w5 ⟨rfl, rfl⟩
        clear hc
        have HB5 : Hid (Below w.heap.size w (wr.alloc (Obj.cells #[Value.int IntKind.i64 ((k : Int) + 1), Value.int IntKind.i64 ((n0 : Int) + 1), Value.int IntKind.i64 ((k : Int) + 1), Value.int IntKind.i64 (d + 2), Value.int IntKind.i64 (bb + 8)] 3))) := H.out.1.alloc H.out.1.size _
        have HQ : Hid (tms [(k : Int) + 1, (n0 : Int) + 1, (k : Int) + 1, d + 2, bb + 8] = tms [(ts.length : Int) + 1, ((gt ts 0).length : Int) + 1, min (ts.length : Int) ((gt ts 0).length : Int) + 1, d + 2, bb + 8]) := by
          rw [HG.out, ← HN.out, show min (k : Int) (n0 : Int) = (k : Int) by omega]
          rfl
        go_wp2
        go_ret
        exact ⟨by rw [HQ.out, hDM, hBM]; rfl, HB5.out⟩
end Go.Proofs.YtlhgpejapmpcmaaGreatDoor
