/-
  ashlarlaw7.read.
-/
import Derived.Test.YtlhgpejapmpcmaaGreatDoorOpRaWh
import Derived.Test.YtlhgpejapmpcmaaGreatDoorRbCyVi
import Derived.StillTactics
namespace Go.Proofs.YtlhgpejapmpcmaaGreatDoor
open Go.RowKit
set_option linter.unusedVariables false
set_option linter.unusedSimpArgs false

theorem info_refP : (Tryz.prog.info? 43).map (fun i => (i.zero, i.size, i.bytes)) = some (some (.slice none 0 0), 1, 24) := by kernel_rfl
theorem info_refPs : (Tryz.prog.info? 41).map (fun i => (i.zero, i.size, i.bytes)) = some (some (.slice none 0 0), 1, 24) := by kernel_rfl
/-- A polynomial of the reference among them. -/
def EY (N D : Nat) (w : World) (B T : Nat) (zs : List Int) (h : Hdr) : Prop :=
  ∃ fs, PR w N h.p h.n h.c fs zs ∧ h.c = h.n ∧ tlen zs = h.n ∧ h.n ≤ D ∧ (∀ a, h.p = some a → 0 < h.n → B ≤ a.block ∧ a.block < T) ∧ ∀ j, j < h.n → 0 < (ge fs j).n → ∀ a, (ge fs j).p = some a → B ≤ a.block ∧ a.block < T
theorem lasts_EY (N D : Nat) : LastsH (EY N D) := ⟨fun {w w' B T z h row} he hT hg hr => by
    obtain ⟨fs, k, e1, e2, h1, h2, h3⟩ := he
    refine ⟨fs, ⟨k.el, k.zl, k.cap, k.bnd, fun hx => (k.pl.same fun a ha hlt => hg.block a.block hlt fun e => ?_) hx, fun j hj => (lasts_RE N).grown (k.ev j hj) hg fun hn a ha e => ?_⟩, e1, e2, h1, h2, h3⟩
    · have h4 := h2 a ha (by rw [← k.el]; exact hx)
      have h5 := hr a.block e.symm
      omega
    · have h4 := h3 j hj hn a ha
      have h5 := hr a.block e.symm
      omega, fun {w B T B' T' z h} he hB hT => by
    obtain ⟨fs, k, e1, e2, h1, h2, h3⟩ := he
    exact ⟨fs, k, e1, e2, h1, fun a ha hn => by have := h2 a ha hn; omega, fun j hj hn a ha => by have := h3 j hj hn a ha; omega⟩⟩
theorem ey_of_from {N D : Nat} {w w' : World} {q : Option Addr} {m : Nat} {fs : List Ent} {zs : List Int} (h : PR w' N q m m fs zs) (h1 : Go.Proofs.YtlhgpejapmpcmaaGreatDoor.From w.heap.size q) (ht : tlen zs = m) (h2 : ∀ j, j < m → 0 < (ge fs j).n → Go.Proofs.YtlhgpejapmpcmaaGreatDoor.From w.heap.size (ge fs j).p) (hm : m ≤ D) : EY N D w' w.heap.size w'.heap.size zs ⟨q, m, m⟩ := by
  refine ⟨fs, h, rfl, ht, hm, fun a ha hn => ⟨h1 a ha, ?_⟩, fun j hj hn a ha => ⟨h2 j hj hn a ha, (lasts_RE N).lt (h.ev j hj) hn a ha⟩⟩
  obtain ⟨b, o, hp, hlt⟩ := h.pl.lt (by rw [h.el]; exact hn)
  simp only at ha
  rw [hp] at ha
  cases ha
  exact hlt
theorem take_map_snoc {α β : Type} [Inhabited α] (f : α → β) (l : List α) (j : Nat) (h : j < l.length) : (l.take (j + 1)).map f = (l.take j).map f ++ [f (gt l j)] := by
  rw [List.take_succ_eq_append_getElem h, List.map_append]
  simp [gt, h]
/-- The rows have one length, and none is empty. -/
def Mtx {α : Type} (ts : List (List α)) : Prop := 0 < ts.length ∧ 0 < (gt ts 0).length ∧ ∀ j, j < ts.length → (gt ts j).length = (gt ts 0).length
/-- What read answers. -/
def RmP (R C : Nat) (ts : List (List (List Int))) (w : World) (e : Ending) (w' : World) : Prop :=
  Below w.heap.size w w' ∧ ((Mtx ts ∧ ∃ h, e = .returned (.tuple #[Hdr.val h, .bool true]) ∧ HR R (HR C (EY 2 3)) w' w.heap.size w'.heap.size (ts.map (·.map tr)) h) ∨ (¬ Mtx ts ∧ e = .returned (.tuple #[.slice none 0 0, .bool false])))
set_option maxHeartbeats 4000000 in
set_option maxRecDepth 100000 in
theorem read7_any {w : World} {B T R C : Nat} {ts : List (List (List Int))} {h : Hdr} (H : HR R (HR C (EZ 1 3)) w B T ts h) (hT : T ≤ w.heap.size) (hR : R ≤ 5) (hC : C ≤ 5) :
    Calls Tryz.prog 7 #[.slice h.p h.n h.c] w (RmP R C ts w) := by
  obtain ⟨I0, hi, hzz⟩ := Option.map_eq_some_iff.1 info_refP
  simp only [Prod.mk.injEq] at hzz
  obtain ⟨hz0, hz1, hz2⟩ := hzz
  have HI : Hid (Tryz.prog.info? 43 = some I0 ∧ I0.zero = some (.slice none 0 0) ∧ I0.size = 1 ∧ I0.bytes = 24) := ⟨hi, hz0, hz1, hz2⟩
  clear hi hz0 hz1 hz2
  obtain ⟨I1, hi, hzz⟩ := Option.map_eq_some_iff.1 info_refPs
  simp only [Prod.mk.injEq] at hzz
  obtain ⟨hz0, hz1, hz2⟩ := hzz
  have HJ : Hid (Tryz.prog.info? 41 = some I1 ∧ I1.zero = some (.slice none 0 0) ∧ I1.size = 1 ∧ I1.bytes = 24) := ⟨hi, hz0, hz1, hz2⟩
  clear hi hz0 hz1 hz2
  obtain ⟨hs, k⟩ := H
  have HX : Hid (HRow R (HR C (EZ 1 3)) w B T ts h hs) := k
  have hn : h.n ≤ R := k.few
  obtain ⟨p, n, nc⟩ := h
  simp only at hn ⊢
  clear k
  go_enter Tryz.func7, Tryz.ntmps7
  rcases Nat.lt_or_ge 0 n with hn0 | hn0
  · have c1 : ¬ (n : Int) < 1 := by omega
    have c2 : ¬ (64 : Int) < (n : Int) := by omega
    obtain ⟨b, o, hp, hc⟩ := HX.out.hl (by rw [HX.out.el]; exact hn0)
    simp only at hp
    subst hp
    have cg : Hid (∀ wq, Below w.heap.size w wq → ∀ k, k < n → wq.cell? ⟨b, o + k, none⟩ = some (gh hs k).val) := fun wq hb k hk => by
      have h1 := hc k (by rw [HX.out.el]; exact hk)
      rw [hb.cell (block_lt_of_cell h1)]
      exact h1
    have c0 := hc 0 (by rw [HX.out.el]; exact hn0)
    have hlen : Hid (∀ k, k < n → (gh hs k).n = (gt ts k).length ∧ (gh hs k).n ≤ C) := fun k hk => by
      obtain ⟨rs, hh⟩ := HX.out.ev k hk
      exact ⟨hh.tl.symm, hh.few⟩
    have hl0 := hlen.out 0 hn0
    have cG0 : Hid (∀ wq, Below w.heap.size w wq → wq.cell? ⟨b, o, none⟩ = some (gh hs 0).val) := fun wq hb => cg.out wq hb 0 hn0
    generalize hh0 : gh hs 0 = hd at c0 hl0 cG0
    obtain ⟨p0, n0, nc0⟩ := hd
    simp only [Hdr.val, Nat.add_zero] at c0 hl0 cG0
    obtain ⟨hl0, hf0⟩ := hl0
    have HL0 : Hid (n0 = (gt ts 0).length) := hl0
    have c4 : ¬ (64 : Int) < (n0 : Int) := by omega
    clear hl0 hc hh0
    rcases Nat.lt_or_ge 0 n0 with hm0 | hm0
    · have c3 : ¬ (n0 : Int) < 1 := by omega
      go_wp2_with fail
      go_loopw [4, 5, 6, 7] (fun qv iv rv jv wr => ∃ (k : Nat) (ls : List Hdr), k ≤ n ∧ iv = .int .i64 k ∧ Hid (ls.length = k ∧ LH w.heap.size 41 (HR C (EY 2 3)) wr qv ls ((ts.take k).map (·.map tr)) ∧ Below w.heap.size w wr ∧ ∀ j, j < k → (gt ts j).length = n0)) (fun _ iv _ _ _ => n - (intOf iv).toNat)
      case atStart => exact ⟨0, [], Nat.zero_le _, by go_num, rfl, by rw [List.take_zero]; exact LH.nil _ _ _ _, Below.refl _ _, fun j hj => absurd hj (by omega)⟩
      case round =>
        obtain ⟨k, ls, hk, rfl, H⟩ := hrel
        rcases Nat.lt_or_ge k n with hlt | hge
        · have c5 := cg.out wr H.out.2.2.1 k hlt
          have c6 := cG0.out wr H.out.2.2.1
          have hlk := hlen.out k hlt
          have HZ : Hid (∀ wq, Below w.heap.size w wq → HR C (EZ 1 3) wq B T (gt ts k) (gh hs k)) := fun wq hb => (lasts_HR (lasts_EZ 1 3)).below (HX.out.ev k hlt) hT hb
          have i1 : (k : Int) < (n : Int) := by omega
          have CG0 : Hid (∀ wq, Below w.heap.size w wq → wq.cell? ⟨b, o + k, none⟩ = some (gh hs k).val) := fun wq hb => cg.out wq hb k hlt
          generalize gh hs k = hd at c5 hlk HZ CG0
          obtain ⟨p1, n1, nc1⟩ := hd
          simp only [Hdr.val] at c5 hlk HZ CG0
          have HLK : Hid (n1 = (gt ts k).length) := hlk.1
          have hf1 := hlk.2
          clear hlk
          rcases Nat.decEq n1 n0 with hne | heq
          · have hne' : ((n1 : Int) != (n0 : Int)) = true := by rw [bne_iff_ne]; omega
            have HR' : Hid (∀ wq, Below w.heap.size w wq → RmP R C ts w (.returned (.tuple #[.slice none 0 0, .bool false])) wq) := fun wq hb => ⟨hb, .inr ⟨fun h => by have h1 := h.2.2 k (by have := HX.out.tl; simp only at this; omega); have := HL0.out; have := HLK.out; omega, rfl⟩⟩
            go_wp2_with fail
            go_still (by kernel_rfl)
            go_wp2
            exact bodyPost_ret (v := .tuple #[.slice none 0 0, .bool false]) (by simp [results, Tryz.results7, go_sem]) rfl (HR'.out _ H.out.2.2.1.drew)
          · subst heq
            have hne' : ((n1 : Int) != (n1 : Int)) = false := by simp
            have CG : Hid (∀ wq, Below w.heap.size w wq → wq.cell? ⟨b, o + k, none⟩ = some (.slice p1 n1 nc1)) := fun wq hb => CG0.out wq hb
            go_wp2_with fail
            go_still (by kernel_rfl)
            go_wp2_with fail
            rename World => W
            clear c5 c6
            go_loopw [6, 7] (fun rv jv wq => ∃ (j : Nat) (rs : List Hdr), j ≤ n1 ∧ jv = .int .i64 j ∧ Hid (rs.length = j ∧ LH W.heap.size 43 (EY 2 3) wq rv rs (((gt ts k).take j).map tr) ∧ Below W.heap.size W wq)) (fun _ jv _ => n1 - (intOf jv).toNat)
            case atStart => exact ⟨0, [], Nat.zero_le _, by go_num, rfl, by rw [List.take_zero]; exact LH.nil _ _ _ _, (Below.refl _ _).drew⟩
            case round =>
              obtain ⟨j, rs, hj, rfl, G⟩ := hrel
              have hbw := bnext' H.out.2.2.1 G.out.2.2
              have c5 := CG.out wr hbw
              rcases Nat.lt_or_ge j n1 with hlt1 | hge1
              · obtain ⟨rs0, hN⟩ := HZ.out wr hbw
                obtain ⟨b1, o1, hp1, hc1⟩ := hN.hl (by rw [hN.el]; show 0 < n1; omega)
                simp only at hp1
                subst hp1
                have c7 := hc1 j (by rw [hN.el]; exact hlt1)
                have hP2 := hN.ev j hlt1
                generalize gh rs0 j = hd2 at c7 hP2
                obtain ⟨p2, n2, nc2⟩ := hd2
                simp only [Hdr.val] at c7
                obtain ⟨es2, hP2, hd3, -, -⟩ := hP2
                simp only at hP2 hd3
                have j1 : (j : Int) < (n1 : Int) := by omega
                clear hc1 hN hbw
                go_wp2_with fail
                refine (rpFrom_new hP2 (by omega) (by decide)).mono ?_
                rintro e w1 ⟨q, m, fs, rfl, hPR, hF1, htl, hF2, hb1⟩
                have hm3 : m ≤ 3 := by
                  have h1 := tlen_le (gt (gt ts k) j)
                  have h2 := hP2.zl
                  rw [← htl, tlen_tr]
                  omega
                have HE : Hid (EY 2 3 w1 wr.heap.size w1.heap.size (tr (gt (gt ts k) j)) ⟨q, m, m⟩) := ey_of_from hPR hF1 htl hF2 hm3
                have hown0 := own_below G.out.2.1.own hb1
                rw [G.out.1] at hown0
                have HO : Hid (w1.ownsRow W.heap.size 43 1 u6 j (rs.map Hdr.val)) := hown0
                have hsz : W.heap.size ≤ w1.heap.size := Nat.le_trans G.out.2.2.size hb1.size
                obtain ⟨hi, hz0, hz1, hz2⟩ := HI.out
                clear hown0 hPR htl hF1 hF2 c5 c7 hP2
                go_wp2_with (refine wpList_append_lies _ rfl _ _ 41 rfl W.heap.size 43 I0 (.slice none 0 0) 1 24 Tryz.underlying41 hi hz0 hz1 hz2 rfl (by decide) u6 j (rs.map Hdr.val) rfl (HO.out.alloc _) ⟨w1.heap.size, 0, none⟩ 1 1 [.slice q m m] rfl rfl ?_ (fun x hx => by simp at hx; subst hx; rfl) (by decide) (by unfold maxLen; omega) (by omega) (by simp; omega) _ rfl ?_; exact World.news_of_block (heap_alloc_new w1 _); intro g cap w3 hown3 hgrow3 hat3 hlt3; have hB3 : Below W.heap.size W w3 := ((bnext' G.out.2.2 hb1).alloc hsz _).grown hgrow3 (by simp; omega) (fun q hq => (HO.out.lt q hq).1); have HA : Hid (LH W.heap.size 43 (EY 2 3) w3 (.slice (some ⟨g, 0, none⟩) (j + 1) cap) (rs ++ [⟨q, m, m⟩]) (((gt ts k).take j).map tr ++ [tr (gt (gt ts k) j)])) := LH.app (lasts_EY 2 3) G.out.1 G.out.2.1 hb1 HE.out (Nat.le_refl _) (Nat.le_refl _) G.out.2.2.size hown3 hgrow3 hat3; clear hown3 hgrow3 hat3)
                refine ⟨⟨j + 1, rs ++ [⟨q, m, m⟩], by omega, by go_num, by have := G.out.1; simp; omega, by rw [take_map_snoc _ _ _ (by have := HLK.out; omega)]; exact HA.out, hB3⟩, by simp [intOf]; omega⟩
              · obtain rfl : j = n1 := by omega
                obtain ⟨gel, gLH, gB⟩ := G.out
                obtain ⟨q, cap, hv, hRow⟩ := gLH.row (lasts_EY 2 3) (D := C) (by omega)
                subst hv
                have HE : Hid (HR C (EY 2 3) wr W.heap.size wr.heap.size ((gt ts k).map tr) ⟨q, j, cap⟩) := ⟨rs, by rw [← gel]; rw [List.take_of_length_le (by have := HLK.out; omega)] at hRow; exact hRow⟩
                have hown0 := own_below H.out.2.1.own gB
                rw [H.out.1] at hown0
                have HO : Hid (wr.ownsRow w.heap.size 41 1 u4 k (ls.map Hdr.val)) := hown0
                have hsz : w.heap.size ≤ wr.heap.size := Nat.le_trans H.out.2.2.1.size gB.size
                have GB : Hid (Below W.heap.size W wr) := gB
                obtain ⟨hi, hz0, hz1, hz2⟩ := HJ.out
                rw [gel]
                clear hown0 gLH gB hRow G gel hbw
                go_wp2_with (refine wpList_append_lies _ rfl _ _ 25 rfl w.heap.size 41 I1 (.slice none 0 0) 1 24 Tryz.underlying25 hi hz0 hz1 hz2 rfl (by decide) u4 k (ls.map Hdr.val) rfl (HO.out.alloc _) ⟨wr.heap.size, 0, none⟩ 1 1 [.slice q j cap] rfl rfl ?_ (fun x hx => by simp at hx; subst hx; rfl) (by decide) (by unfold maxLen; omega) (by omega) (by simp; omega) _ rfl ?_; exact World.news_of_block (heap_alloc_new wr _); intro g cap' w3 hown3 hgrow3 hat3 hlt3; have hB3 : Below w.heap.size w w3 := ((bnext' H.out.2.2.1 GB.out).alloc hsz _).grown hgrow3 (by simp; omega) (fun q hq => (HO.out.lt q hq).1); have HA : Hid (LH w.heap.size 41 (HR C (EY 2 3)) w3 (.slice (some ⟨g, 0, none⟩) (k + 1) cap') (ls ++ [⟨q, j, cap⟩]) ((ts.take k).map (·.map tr) ++ [(gt ts k).map tr])) := LH.app (lasts_HR (lasts_EY 2 3)) H.out.1 H.out.2.1 GB.out HE.out (Nat.le_refl _) (Nat.le_refl _) H.out.2.2.1.size hown3 hgrow3 hat3; clear hown3 hgrow3 hat3)
                refine ⟨⟨k + 1, ls ++ [⟨q, j, cap⟩], by omega, by go_num, by have := H.out.1; simp; omega, by rw [take_map_snoc _ _ _ (by have := HX.out.tl; simp only at this; omega)]; exact HA.out, hB3, fun i hi => ?_⟩, by simp [intOf]; omega⟩
                rcases Nat.lt_or_ge i k with h | h
                · exact H.out.2.2.2 i h
                · obtain rfl : i = k := by omega
                  exact HLK.out.symm
        · obtain rfl : k = n := by omega
          obtain ⟨hel, hLH, hB, hall⟩ := H.out
          obtain ⟨q, cap, hv, hRow⟩ := hLH.row (lasts_HR (lasts_EY 2 3)) (D := R) (by omega)
          subst hv
          rw [hel] at hRow ⊢
          have htl : ts.length = k := HX.out.tl
          rw [List.take_of_length_le (by omega)] at hRow
          have HR' : Hid (RmP R C ts w (.returned (.tuple #[.slice q k cap, .bool true])) wr) := ⟨hB, .inl ⟨⟨by omega, by have := HL0.out; omega, fun j hj => by rw [← HL0.out]; exact hall j (by omega)⟩, ⟨q, k, cap⟩, rfl, ls, hRow⟩⟩
          clear H hLH hRow hB hall
          go_wp2
          exact bodyPost_ret (v := .tuple #[.slice q k cap, .bool true]) (by simp [results, Tryz.results7, go_sem]) rfl HR'.out
    · have c3 : (n0 : Int) < 1 := by omega
      have HR' : Hid (RmP R C ts w (.returned (.tuple #[.slice none 0 0, .bool false])) w) := ⟨Below.refl _ _, .inr ⟨fun h => by have h1 := h.2.1; have := HL0.out; omega, rfl⟩⟩
      go_wp2
      exact bodyPost_ret (v := .tuple #[.slice none 0 0, .bool false]) (by simp [results, Tryz.results7, go_sem]) rfl HR'.out
  · have c1 : (n : Int) < 1 := by omega
    have HR' : Hid (RmP R C ts w (.returned (.tuple #[.slice none 0 0, .bool false])) w) := ⟨Below.refl _ _, .inr ⟨fun h => by have h1 := h.1; have := HX.out.tl; simp only at this; omega, rfl⟩⟩
    go_wp2
    exact bodyPost_ret (v := .tuple #[.slice none 0 0, .bool false]) (by simp [results, Tryz.results7, go_sem]) rfl HR'.out
end Go.Proofs.YtlhgpejapmpcmaaGreatDoor
