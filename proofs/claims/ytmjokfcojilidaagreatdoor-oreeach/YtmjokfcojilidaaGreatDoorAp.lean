/-
  What lasts while its own memory does; ore.convert with a function that writes elsewhere.
-/
import Derived.Test.YtmjokfcojilidaaGreatDoorAkAl
import Derived.Deep.DeepFit
namespace Go.Proofs.YtmjokfcojilidaaGreatDoor
open Go.RowKit
set_option linter.unusedVariables false
set_option linter.unusedSimpArgs false

/-- What is said of an element, whose memory lies from B to T, hangs on that memory alone. -/
def LastsB {α : Type} (E : World → Nat → Nat → α → Hdr → Prop) : Prop :=
  ∀ {w w' : World} {B T : Nat} {z : α} {h : Hdr}, E w B T z h → T ≤ w.heap.size → (∀ b, B ≤ b → b < T → w'.heap[b]? = w.heap[b]?) → E w' B T z h
theorem EV.same {w w' : World} {K : Nat} {z : Int} {e : Ent} (h : EV w K z e) (hs : 0 < e.n → ∀ a, e.p = some a → w'.heap[a.block]? = w.heap[a.block]?) : EV w' K z e := by
  obtain ⟨xs, k, h2⟩ := h
  refine ⟨xs, ⟨k.len, k.cap, k.bnd, k.sml, fun hx => (k.rd.same fun a ha _ => hs ?_ a ha) hx, k.u⟩, h2⟩
  rw [← k.len]
  exact hx
theorem RE.same {w w' : World} {N : Nat} {z : Int} {e : Ent} (h : RE w N z e) (hs : 0 < e.n → ∀ a, e.p = some a → w'.heap[a.block]? = w.heap[a.block]?) : RE w' N z e := by
  obtain ⟨⟨ds, k, h2⟩, h3⟩ := h
  refine ⟨⟨ds, ⟨k.len, fun hx => (k.rd.same fun a ha _ => hs ?_ a ha) hx, k.u, k.nrm, k.sg, k.sml⟩, h2⟩, h3⟩
  rw [← k.len]
  exact hx
theorem lastsB_EZ (K D : Nat) : LastsB (EZ K D) := fun {w w' B T z h} he hT hs => by
  obtain ⟨fs, k, h1, h2, h3⟩ := he
  refine ⟨fs, ⟨k.el, k.zl, k.cap, k.bnd, k.pn, fun hx => (k.pl.same fun a ha hlt => ?_) hx, fun j hj => (k.ev j hj).same fun hn a ha => ?_⟩, h1, h2, h3⟩
  · have h4 := h2 a ha (by rw [← k.el]; exact hx)
    exact hs _ h4.1 h4.2
  · have h4 := h3 j hj hn a ha
    exact hs _ h4.1 h4.2
theorem lastsB_EY (N D : Nat) : LastsB (EY N D) := fun {w w' B T z h} he hT hs => by
  obtain ⟨fs, k, e1, e2, h1, h2, h3⟩ := he
  refine ⟨fs, ⟨k.el, k.zl, k.cap, k.bnd, fun hx => (k.pl.same fun a ha hlt => ?_) hx, fun j hj => (k.ev j hj).same fun hn a ha => ?_⟩, e1, e2, h1, h2, h3⟩
  · have h4 := h2 a ha (by rw [← k.el]; exact hx)
    exact hs _ h4.1 h4.2
  · have h4 := h3 j hj hn a ha
    exact hs _ h4.1 h4.2
theorem lastsB_HR {α : Type} [Inhabited α] {D : Nat} {E : World → Nat → Nat → α → Hdr → Prop} (L : LastsB E) : LastsB (HR D E) := fun {w w' B T z h} he hT hs => by
  obtain ⟨rs, k⟩ := he
  refine ⟨rs, k.el, k.tl, k.cap, k.bnd, k.pn, k.few, k.hl.same fun a ha hn hlt => ?_, k.at_, fun j hj => L (k.ev j hj) hT hs⟩
  have h1 := k.at_ a ha (by rw [← k.el]; exact hn)
  exact hs _ h1.1 h1.2
/-- Of what was there, only blocks from lo to base may have changed. -/
structure Kp (lo base : Nat) (w w' : World) : Prop where
  os : w'.os = w.os
  tape : w'.tape = w.tape
  output : w'.output = w.output
  size : w.heap.size ≤ w'.heap.size
  block : ∀ k, k < w.heap.size → (k < lo ∨ base ≤ k) → w'.heap[k]? = w.heap[k]?
section
variable {lo base : Nat} {w w1 w2 : World}
theorem Kp.refl (lo base : Nat) (w : World) : Kp lo base w w := ⟨rfl, rfl, rfl, Nat.le_refl _, fun _ _ _ => rfl⟩
theorem Kp.of (h : Below w.heap.size w w1) : Kp lo base w w1 := ⟨h.os, h.tape, h.output, h.size, fun k hk _ => h.block k hk⟩
theorem Kp.trans (h : Kp lo base w w1) (k : Kp lo base w1 w2) : Kp lo base w w2 :=
  ⟨k.os.trans h.os, k.tape.trans h.tape, k.output.trans h.output, Nat.le_trans h.size k.size, fun i hi hx => (k.block i (Nat.lt_of_lt_of_le hi h.size) hx).trans (h.block i hi hx)⟩
theorem Kp.put (h : Kp lo base w w1) (a : Addr) (v : Value) (ha : (lo ≤ a.block ∧ a.block < base) ∨ w.heap.size ≤ a.block) : Kp lo base w (w1.setCell a v) :=
  ⟨h.os, h.tape, h.output, by simpa [World.setCell] using h.size, fun i hi hx => by
    rw [Below.heap_setCell w1 a v i (by omega)]
    exact h.block i hi hx⟩
theorem Kp.below {n : Nat} (h : Kp lo base w w1) (hn : n ≤ lo) (hs : n ≤ w.heap.size) : Below n w w1 := ⟨h.os, h.tape, h.output, h.size, fun k hk => h.block k (by omega) (by omega)⟩
end
theorem PN.kp {lo base B : Nat} {w w' : World} {K : Nat} {p : Option Addr} {n : Nat} {es : List Ent} {zs : List Int} (h : PN B w K p n es zs) (hk : Kp lo base w w') (hB : base ≤ B) : PN B w' K p n es zs := by
  refine ⟨h.el, h.zl, h.nrm, h.pl.same fun a ha hlt => hk.block _ hlt (.inr (Nat.le_trans hB (h.fr a ha))), h.fr, fun j hj => ?_⟩
  obtain ⟨xs, k, h2⟩ := h.ev j hj
  have hbl : ∀ a, (ge es j).p = some a → a.block < w.heap.size → w'.heap[a.block]? = w.heap[a.block]? := fun a ha hlt => hk.block _ hlt (.inr (Nat.le_trans hB (k.fr a ha)))
  refine ⟨xs, ⟨k.len, k.rd.same hbl, k.u, k.nrm, k.sg, k.pn, k.v, k.fr, fun a ha => ⟨Nat.lt_of_lt_of_le (k.fz a ha).1 hk.size, fun i => ?_⟩⟩, h2⟩
  have h3 := hbl a ha (k.fz a ha).1
  have h4 := (k.fz a ha).2 i
  simp only [World.frozen?] at h4 ⊢
  rw [h3]
  exact h4
/-- The first of an answer's entries are there. -/
def CK (F : Nat → List Int) (lo base K E g n i : Nat) (w wr : World) : Prop :=
  ∃ hs : List Hdr, HB wr g hs ∧ hs.length = n ∧ (∀ r, r < i → (gh hs r).c = (gh hs r).n ∧ (gh hs r).n ≤ E ∧ ∃ es, PN (g + 1) wr K (gh hs r).p (gh hs r).n es (F r)) ∧ Kp lo base w wr ∧ w.heap.size ≤ g ∧ base ≤ g
theorem CK.step {F : Nat → List Int} {lo base K E g n i : Nat} {w wr v3 : World} {p3 : Option Addr} {n3 : Nat} {es3 : List Ent} (h : CK F lo base K E g n i w wr) (hi : i < n) (hv : Kp lo base wr v3) (hN : PN (g + 1) v3 K p3 n3 es3 (F i)) (hE : n3 ≤ E) : CK F lo base K E g n (i + 1) w (v3.setCell ⟨g, i, none⟩ (.slice p3 n3 n3)) := by
  obtain ⟨hs, h1, h2, h3, h4, h5, h6⟩ := h
  have h1' : HB v3 g hs := (hv.block g h1.lt (.inr h6)).trans h1
  refine ⟨hs.set i ⟨p3, n3, n3⟩, h1'.set i ⟨p3, n3, n3⟩, by simp [h2], fun r hr => ?_, (h4.trans hv).put ⟨g, i, none⟩ _ (.inr h5), h5, h6⟩
  rw [gh_set _ _ _ _ (by omega)]
  by_cases e : r = i
  · subst e
    rw [if_pos rfl]
    exact ⟨rfl, hE, es3, hN.put (Nat.lt_succ_self g) _⟩
  · rw [if_neg e]
    obtain ⟨a, b, es, c⟩ := h3 r (by omega)
    exact ⟨a, b, es, (c.kp hv (by omega)).put (Nat.lt_succ_self g) _⟩
theorem CK.no {F : Nat → List Int} {lo base K E g n : Nat} {w wr : World} (h : CK F lo base K E g n n w wr) : ∃ hs, NO g wr K E ((List.range n).map F) (some ⟨g, 0, none⟩) n hs := by
  obtain ⟨hs, h1, h2, h3, h4, h5, h6⟩ := h
  refine ⟨hs, h2, by simp, fun hp => ⟨g, 0, rfl, fun j hj => by rw [Nat.zero_add]; exact h1.cell j hj⟩, fun a ha => by cases ha; exact Nat.le_refl _, fun j hj => ?_⟩
  obtain ⟨a, b, es, c⟩ := h3 j hj
  refine ⟨a, b, es, ?_⟩
  have e : gt ((List.range n).map F) j = F j := by simp [gt, hj]
  rw [e]
  exact c.mono (Nat.le_succ g)
theorem NO.hrow {B : Nat} {w : World} {K E : Nat} {l : List (List Int)} {p : Option Addr} {n : Nat} {hs : List Hdr} (h : NO B w K E l p n hs) (hK : K ≤ 1000) (hE : E ≤ 1000000) (hn : n ≤ 1000000) : HRow n (EZ K E) w B w.heap.size l ⟨p, n, n⟩ hs := by
  refine ⟨h.el, h.tl, Nat.le_refl _, by show n ≤ maxLen; unfold maxLen; omega, fun e => ?_, Nat.le_refl _, h.hl, fun a ha h0 => ⟨h.fr a ha, ?_⟩, fun j hj => ?_⟩
  · rcases Nat.eq_zero_or_pos n with h0 | h0
    · exact h0
    · obtain ⟨b, o, hb, -⟩ := h.hl (by rw [h.el]; exact h0)
      simp only at e
      rw [hb] at e
      cases e
  · obtain ⟨b, o, hb, hc⟩ := h.hl (by rw [h.el]; exact h0)
    simp only at ha
    rw [hb] at ha
    cases ha
    exact block_lt_of_cell (hc 0 (by rw [h.el]; exact h0))
  · obtain ⟨a, b, es, c⟩ := h.ev j hj
    have h1 := ez_of_pn c hK b hE
    have e : (⟨(gh hs j).p, (gh hs j).n, (gh hs j).n⟩ : Hdr) = gh hs j := by
      generalize gh hs j = x at a
      obtain ⟨x1, x2, x3⟩ := x
      simp only at a
      rw [a]
    rw [e] at h1
    exact h1
/-- What convert answers, where its function writes. -/
def OpK (lo base : Nat) (I : World → Prop) (l : List (List Int)) (K E : Nat) (w : World) (e : Ending) (w' : World) : Prop :=
  ∃ p hs, e = .returned (.slice p (olen l) (olen l)) ∧ NO w.heap.size w' K E (otr l) p (olen l) hs ∧ I w' ∧ Kp lo base w w'
set_option maxHeartbeats 4000000 in
set_option maxRecDepth 100000 in
/-- ore.convert, its function writing into blocks from lo to base. -/
theorem convert_gen {w : World} {lo base B T K E D K' E' : Nat} {zss : List (List Int)} {h : Hdr} {hs : List Hdr} (H : HRow D (EZ K E) w B T zss h hs) (hT : T ≤ w.heap.size) (hB : base ≤ B) (hbw : base ≤ w.heap.size) (hD : D ≤ 1000) (hE : E ≤ 1000000) (hK' : K' ≤ 1000) (hE' : E' ≤ 1000000) (J : Nat) (C : Array Value) (hE0 : ∀ args w', Sem.run Tryz.prog (callFunc J args) w' = .ok (.enter J args) w') (F : Nat → List Int) (I : Nat → World → Prop)
    (hI : ∀ i w1 w2, I i w1 → Below base w1 w2 → I i w2) (hI0 : I 0 w)
    (hJ : ∀ wq i, i < olen zss → Kp lo base w wq → I i wq → EZ K E wq B T (gt zss i) (gh hs i) → Calls Tryz.prog J (#[Hdr.val (gh hs i)] ++ C) wq fun e w' => ∃ p n es, e = .returned (.slice p n n) ∧ PN wq.heap.size w' K' p n es (F i) ∧ I (i + 1) w' ∧ Kp lo base wq w') (hF : ∀ i, i < olen zss → (F i).length ≤ E') :
    Calls Tryz.prog 72 #[.slice h.p h.n h.c, .func (.func J) #[] C] w (OpK lo base (I (olen zss)) ((List.range (olen zss)).map F) K' E' w) := by
  have ht := otrim_any ⟨hs, H⟩ hT (by omega) hE
  have k := H
  have hol := olen_le zss
  have hn : olen zss ≤ D := by have h1 := k.tl; have h2 := k.few; omega
  have HX : Hid (HRow D (EZ K E) w B T (zss.take (olen zss)) ⟨h.p, olen zss, olen zss⟩ (hs.take (olen zss)) ∧ T ≤ w.heap.size ∧ base ≤ B ∧ base ≤ w.heap.size) := ⟨k.cut _ (by have := k.tl; omega), hT, hB, hbw⟩
  obtain ⟨p, n, nc⟩ := h
  simp only at ht HX ⊢
  have HJ := (show Hid _ from hJ)
  have HF := (show Hid _ from hF)
  have HI := (show Hid _ from hI)
  clear hJ hF k hT hI hB hbw H
  generalize hm : olen zss = m at *
  have hmk := mk_ops m (by omega)
  go_enter Tryz.func72, Tryz.ntmps72
  go_wp2_with fail
  go_fit ht
  rintro e w1 ⟨rfl, hb1⟩
  have HB1 : Hid (Below w.heap.size w w1) := hb1
  clear ht hb1
  go_wp2_with fail
  have HO : Hid (CK F lo base K' E' w1.heap.size m 0 w (w1.alloc (.cells ((hzs m).map Hdr.val).toArray 26)) ∧ I 0 (w1.alloc (.cells ((hzs m).map Hdr.val).toArray 26))) :=
    ⟨⟨hzs m, heap_alloc_new w1 _, by simp [hzs], fun r hr => absurd hr (Nat.not_lt_zero r), Kp.of (HB1.out.alloc HB1.out.size _), HB1.out.size, Nat.le_trans HX.out.2.2.2 HB1.out.size⟩, HI.out 0 w _ hI0 ((HB1.out.alloc HB1.out.size _).mono HX.out.2.2.2)⟩
  have HG1 : Hid (w.heap.size ≤ w1.heap.size ∧ base ≤ w1.heap.size) := ⟨HB1.out.size, Nat.le_trans HX.out.2.2.2 HB1.out.size⟩
  generalize w1.alloc (.cells ((hzs m).map Hdr.val).toArray 26) = W1 at *
  generalize w1.heap.size = g at *
  clear hmk HB1 hI0
  go_loopw [15] (fun kv wr => ∃ i : Nat, i ≤ m ∧ kv = .int .i64 i ∧ Hid (CK F lo base K' E' g m i w wr ∧ I i wr)) (fun kv _ => m - (intOf kv).toNat)
  case atStart => exact ⟨0, Nat.zero_le _, by go_num, HO.out⟩
  case round =>
    obtain ⟨i, hi, rfl, G⟩ := hrel
    rcases Nat.lt_or_ge i m with hlt | hge
    · obtain ⟨⟨os, g1, g2, g3, g4, g5, g6⟩, gI⟩ := G.out
      have i1 : (i : Int) < (m : Int) := by omega
      obtain ⟨b, o, hp, hc⟩ := HX.out.1.hl (by rw [HX.out.1.el]; show 0 < m; omega)
      simp only at hp
      subst hp
      have c0 := hc i (by rw [HX.out.1.el]; exact hlt)
      have hbB := HX.out.1.at_ ⟨b, o, none⟩ rfl (by show 0 < m; omega)
      have hbl : ∀ k, B ≤ k → k < T → wr.heap[k]? = w.heap[k]? := fun k h1 h2 => g4.block k (Nat.lt_of_lt_of_le h2 HX.out.2.1) (.inr (Nat.le_trans HX.out.2.2.1 h1))
      have c1 : wr.cell? ⟨b, o + i, none⟩ = some (gh (hs.take m) i).val := by rw [World.cell?_of_block (a := ⟨b, o + i, none⟩) (hbl b hbB.1 hbB.2)]; exact c0
      have hE2 := lastsB_EZ K E (HX.out.1.ev i hlt) HX.out.2.1 hbl
      rw [gt_take _ _ _ hlt, gh_take _ _ _ hlt] at hE2
      rw [gh_take _ _ _ hlt] at c1
      have hcall := HJ.out wr i hlt g4 gI hE2
      generalize gh hs i = hd at c1 hE2 hcall
      obtain ⟨p2, n2, nc2⟩ := hd
      simp only [Hdr.val] at c1 hcall
      have hg1 := g1
      have hlg := g1.lt
      clear hc c0 hE2 g1 g3 hbl gI
      go_wp2_with fail
      go_fit hcall
      rintro e v3 ⟨p8, n8, es8, rfl, hN8, hI8, hb3⟩
      have hg3 : HB v3 g os := (hb3.block g hlg (.inr g6)).trans hg1
      have z0 := hg3.cell i (by omega)
      have f0 := hg3.frozen i
      have hle : n8 ≤ E' := by have h1 := HF.out i hlt; rw [hN8.zl] at h1; exact h1
      have hstep := G.out.1.step hlt hb3 (hN8.mono hlg) hle
      have HST : Hid (CK F lo base K' E' g m (i + 1) w (v3.setCell ⟨g, i, none⟩ (.slice p8 n8 n8)) ∧ I (i + 1) (v3.setCell ⟨g, i, none⟩ (.slice p8 n8 n8))) := ⟨hstep, HI.out _ _ _ hI8 ((Below.refl base v3).setCell (p := ⟨g, i, none⟩) g6 _)⟩
      clear hstep hN8 hb3 hcall c1 hI8 hg3
      go_wp2
      go_roundw
      case rel => exact ⟨i + 1, by omega, by go_num, HST.out⟩
      case measure => simp [intOf]; omega
    · obtain rfl : i = m := by omega
      have i1 : ¬ (i : Int) < (i : Int) := by omega
      obtain ⟨os, hN⟩ := G.out.1.no
      have HBW : Hid (Kp lo base w wr ∧ I i wr) := by obtain ⟨⟨_, _, _, _, h4, _⟩, h5⟩ := G.out; exact ⟨h4, h5⟩
      have ht2 := otrim_any (hN.hr hK' hE' (by omega)) (Nat.le_refl _) (by omega) hE'
      have HN : Hid (NO g wr K' E' ((List.range i).map F) (some ⟨g, 0, none⟩) i os) := hN
      simp only at ht2
      clear hN G
      go_wp2_with fail
      go_fit ht2
      rintro e w3 ⟨rfl, hb3⟩
      have hle := olen_le ((List.range i).map F)
      rw [List.length_map, List.length_range] at hle
      have HR' : Hid (OpK lo base (I i) ((List.range i).map F) K' E' w (.returned (.slice (some ⟨g, 0, none⟩) (olen ((List.range i).map F)) (olen ((List.range i).map F)))) w3) :=
        ⟨some ⟨g, 0, none⟩, os.take _, rfl, ((HN.out.below hb3).cut hle).mono HG1.out.1, HI.out _ _ _ HBW.out.2 (hb3.mono (Nat.le_trans HX.out.2.2.2 HBW.out.1.size)), HBW.out.1.trans (Kp.of hb3)⟩
      clear hb3 ht2 hle
      generalize olen ((List.range i).map F) = q at *
      go_wp2
      go_ret
      exact HR'.out
end Go.Proofs.YtmjokfcojilidaaGreatDoor
