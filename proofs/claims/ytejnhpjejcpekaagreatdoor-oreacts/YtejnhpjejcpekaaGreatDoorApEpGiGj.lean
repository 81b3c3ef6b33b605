/-
  What lasts while its own memory does; ore.convert with a function that writes elsewhere.
-/
import Derived.Test.YtejnhpjejcpekaaGreatDoorAdDtAgAiVdRtDhVeRsVfVcAjDrBmBqDuAkAl
import Derived.Deep.DeepFit
import Derived.Test.YtejnhpjejcpekaaGreatDoorDyEoEq
import Derived.Test.YtejnhpjejcpekaaGreatDoorDpAaAbDnDo
import Derived.Test.YtejnhpjejcpekaaGreatDoorAcDsAeAfBnBoBrBpAh
import Derived.Test.YtejnhpjejcpekaaGreatDoorOaOfJpRzCwDjVkJoNcOn
import Derived.Test.YtejnhpjejcpekaaGreatDoorFvOi
import Derived.Test.YtejnhpjejcpekaaGreatDoorFyUjBsLeUk
import Derived.Test.YtejnhpjejcpekaaGreatDoorFpCdDeGaGbKpGcGdGeQaQbQcQdQgQhGfGgUnWfUu
import Derived.Test.YtejnhpjejcpekaaGreatDoorByDqUxUtUvUwUyUzUrUsHaHbHcWvUhHeVvCu
namespace Go.Proofs.YtejnhpjejcpekaaGreatDoor
open Go.RowKit
set_option linter.unusedVariables false
set_option linter.unusedSimpArgs false
set_option maxHeartbeats 8000000
def LastsB {α : Type} (E : World → Nat → Nat → α → Hdr → Prop) : Prop :=
  ∀ {w w' : World} {B T : Nat} {z : α} {h : Hdr}, E w B T z h → T ≤ w.heap.size → (∀ b, B ≤ b → b < T → w'.heap[b]? = w.heap[b]?) → E w' B T z h
theorem EV.same {w w' : World} {K : Nat} {z : Int} {e : Ent} (h : EV w K z e) (hs : 0 < e.n → ∀ a, e.p = some a → w'.heap[a.block]? = w.heap[a.block]?) : EV w' K z e := by
  obtain ⟨xs, k, h2⟩ := h
  refine ⟨xs, ⟨k.len, k.cap, k.bnd, k.sml, fun hx => (k.rd.same fun a ha _ => hs ?_ a ha) hx, k.u⟩, h2⟩
  rw [← k.len]
  exact hx
theorem RE.same {w w' : World} {N : Nat} {z : Int} {e : Ent} (h : RE w N z e) (hs : 0 < e.n → ∀ a, e.p = some a → w'.heap[a.block]? = w.heap[a.block]?) : RE w' N z e := by
  obtain ⟨⟨ds, k, h2⟩, h3⟩ := h
  refine ⟨⟨ds, ⟨k.len, fun hx => (k.rd.same fun a ha _ => hs ?_ a ha) hx, k.u, k.nrm, k.sg, k.sml⟩, h2⟩, h3⟩
  rw [← k.len]
  exact hx
theorem lastsB_EZ (K D : Nat) : LastsB (EZ K D) := fun {w w' B T z h} he hT hs => by
  obtain ⟨fs, k, h1, h2, h3⟩ := he
  refine ⟨fs, ⟨k.el, k.zl, k.cap, k.bnd, k.pn, fun hx => (k.pl.same fun a ha hlt => ?_) hx, fun j hj => (k.ev j hj).same fun hn a ha => ?_⟩, h1, h2, h3⟩
  · have h4 := h2 a ha (by rw [← k.el]; exact hx)
    exact hs _ h4.1 h4.2
  · have h4 := h3 j hj hn a ha
    exact hs _ h4.1 h4.2
theorem lastsB_HR {α : Type} [Inhabited α] {D : Nat} {E : World → Nat → Nat → α → Hdr → Prop} (L : LastsB E) : LastsB (HR D E) := fun {w w' B T z h} he hT hs => by
  obtain ⟨rs, k⟩ := he
  refine ⟨rs, k.el, k.tl, k.cap, k.bnd, k.pn, k.few, k.hl.same fun a ha hn hlt => ?_, k.at_, fun j hj => L (k.ev j hj) hT hs⟩
  have h1 := k.at_ a ha (by rw [← k.el]; exact hn)
  exact hs _ h1.1 h1.2
structure Kq (lo base : Nat) (w w' : World) : Prop where
  os : w'.os = w.os
  tape : w'.tape = w.tape
  output : w'.output = w.output
  size : w.heap.size ≤ w'.heap.size
  block : ∀ k, k < w.heap.size → (k < lo ∨ base ≤ k) → w'.heap[k]? = w.heap[k]?
section
variable {lo base : Nat} {w w1 w2 : World}
theorem Kq.of (h : Below w.heap.size w w1) : Kq lo base w w1 := ⟨h.os, h.tape, h.output, h.size, fun k hk _ => h.block k hk⟩
theorem Kq.trans (h : Kq lo base w w1) (k : Kq lo base w1 w2) : Kq lo base w w2 :=
  ⟨k.os.trans h.os, k.tape.trans h.tape, k.output.trans h.output, Nat.le_trans h.size k.size, fun i hi hx => (k.block i (Nat.lt_of_lt_of_le hi h.size) hx).trans (h.block i hi hx)⟩
theorem Kq.put (h : Kq lo base w w1) (a : Addr) (v : Value) (ha : (lo ≤ a.block ∧ a.block < base) ∨ w.heap.size ≤ a.block) : Kq lo base w (w1.setCell a v) :=
  ⟨h.os, h.tape, h.output, by simpa [World.setCell] using h.size, fun i hi hx => by
    rw [Below.heap_setCell w1 a v i (by omega)]
    exact h.block i hi hx⟩
end
theorem PN.kp {lo base B : Nat} {w w' : World} {K : Nat} {p : Option Addr} {n : Nat} {es : List Ent} {zs : List Int} (h : PN B w K p n es zs) (hk : Kq lo base w w') (hB : base ≤ B) : PN B w' K p n es zs := by
  refine ⟨h.el, h.zl, h.nrm, h.pl.same fun a ha hlt => hk.block _ hlt (.inr (Nat.le_trans hB (h.fr a ha))), h.fr, fun j hj => ?_⟩
  obtain ⟨xs, k, h2⟩ := h.ev j hj
  have hbl : ∀ a, (ge es j).p = some a → a.block < w.heap.size → w'.heap[a.block]? = w.heap[a.block]? := fun a ha hlt => hk.block _ hlt (.inr (Nat.le_trans hB (k.fr a ha)))
  refine ⟨xs, ⟨k.len, k.rd.same hbl, k.u, k.nrm, k.sg, k.pn, k.v, k.fr, fun a ha => ⟨Nat.lt_of_lt_of_le (k.fz a ha).1 hk.size, fun i => ?_⟩⟩, h2⟩
  have h3 := hbl a ha (k.fz a ha).1
  have h4 := (k.fz a ha).2 i
  simp only [World.frozen?] at h4 ⊢
  rw [h3]
  exact h4
def CK (F : Nat → List Int) (lo base K E g n i : Nat) (w wr : World) : Prop :=
  ∃ hs : List Hdr, HB wr g hs ∧ hs.length = n ∧ (∀ r, r < i → (gh hs r).c = (gh hs r).n ∧ (gh hs r).n ≤ E ∧ ∃ es, PN (g + 1) wr K (gh hs r).p (gh hs r).n es (F r)) ∧ Kq lo base w wr ∧ w.heap.size ≤ g ∧ base ≤ g
theorem CK.step {F : Nat → List Int} {lo base K E g n i : Nat} {w wr v3 : World} {p3 : Option Addr} {n3 : Nat} {es3 : List Ent} (h : CK F lo base K E g n i w wr) (hi : i < n) (hv : Kq lo base wr v3) (hN : PN (g + 1) v3 K p3 n3 es3 (F i)) (hE : n3 ≤ E) : CK F lo base K E g n (i + 1) w (v3.setCell ⟨g, i, none⟩ (.slice p3 n3 n3)) := by
  obtain ⟨hs, h1, h2, h3, h4, h5, h6⟩ := h
  have h1' : HB v3 g hs := (hv.block g h1.lt (.inr h6)).trans h1
  refine ⟨hs.set i ⟨p3, n3, n3⟩, h1'.set i ⟨p3, n3, n3⟩, by simp [h2], fun r hr => ?_, (h4.trans hv).put ⟨g, i, none⟩ _ (.inr h5), h5, h6⟩
  rw [gh_set _ _ _ _ (by omega)]
  by_cases e : r = i
  · subst e
    rw [if_pos rfl]
    exact ⟨rfl, hE, es3, hN.put (Nat.lt_succ_self g) _⟩
  · rw [if_neg e]
    obtain ⟨a, b, es, c⟩ := h3 r (by omega)
    exact ⟨a, b, es, (c.kp hv (by omega)).put (Nat.lt_succ_self g) _⟩
theorem CK.no {F : Nat → List Int} {lo base K E g n : Nat} {w wr : World} (h : CK F lo base K E g n n w wr) : ∃ hs, NO g wr K E ((List.range n).map F) (some ⟨g, 0, none⟩) n hs := by
  obtain ⟨hs, h1, h2, h3, h4, h5, h6⟩ := h
  refine ⟨hs, h2, by simp, fun hp => ⟨g, 0, rfl, fun j hj => by rw [Nat.zero_add]; exact h1.cell j hj⟩, fun a ha => by cases ha; exact Nat.le_refl _, fun j hj => ?_⟩
  obtain ⟨a, b, es, c⟩ := h3 j hj
  refine ⟨a, b, es, ?_⟩
  have e : gt ((List.range n).map F) j = F j := by simp [gt, hj]
  rw [e]
  exact c.mono (Nat.le_succ g)
theorem NO.hrow {B : Nat} {w : World} {K E : Nat} {l : List (List Int)} {p : Option Addr} {n : Nat} {hs : List Hdr} (h : NO B w K E l p n hs) (hK : K ≤ 1000) (hE : E ≤ 1000000) (hn : n ≤ 1000000) : HRow n (EZ K E) w B w.heap.size l ⟨p, n, n⟩ hs := by
  refine ⟨h.el, h.tl, Nat.le_refl _, by show n ≤ maxLen; unfold maxLen; omega, fun e => ?_, Nat.le_refl _, h.hl, fun a ha h0 => ⟨h.fr a ha, ?_⟩, fun j hj => ?_⟩
  · rcases Nat.eq_zero_or_pos n with h0 | h0
    · exact h0
    · obtain ⟨b, o, hb, -⟩ := h.hl (by rw [h.el]; exact h0)
      simp only at e
      rw [hb] at e
      cases e
  · obtain ⟨b, o, hb, hc⟩ := h.hl (by rw [h.el]; exact h0)
    simp only at ha
    rw [hb] at ha
    cases ha
    exact block_lt_of_cell (hc 0 (by rw [h.el]; exact h0))
  · obtain ⟨a, b, es, c⟩ := h.ev j hj
    have h1 := ez_of_pn c hK b hE
    have e : (⟨(gh hs j).p, (gh hs j).n, (gh hs j).n⟩ : Hdr) = gh hs j := by
      generalize gh hs j = x at a
      obtain ⟨x1, x2, x3⟩ := x
      simp only at a
      rw [a]
    rw [e] at h1
    exact h1
def OpK (lo base : Nat) (I : World → Prop) (l : List (List Int)) (K E : Nat) (w : World) (e : Ending) (w' : World) : Prop :=
  ∃ p hs, e = .returned (.slice p (olen l) (olen l)) ∧ NO w.heap.size w' K E (otr l) p (olen l) hs ∧ I w' ∧ Kq lo base w w'
set_option maxRecDepth 100000 in
theorem convert_gen {w : World} {lo base B T K E D K' E' : Nat} {zss : List (List Int)} {h : Hdr} {hs : List Hdr} (H : HRow D (EZ K E) w B T zss h hs) (hT : T ≤ w.heap.size) (hB : base ≤ B) (hbw : base ≤ w.heap.size) (hD : D ≤ 1000) (hE : E ≤ 1000000) (hK' : K' ≤ 1000) (hE' : E' ≤ 1000000) (J : Nat) (C : Array Value) (hE0 : ∀ args w', Sem.run Tryz.prog (callFunc J args) w' = .ok (.enter J args) w') (F : Nat → List Int) (I : Nat → World → Prop)
    (hI : ∀ i w1 w2, I i w1 → Below base w1 w2 → I i w2) (hI0 : I 0 w)
    (hJ : ∀ wq i, i < olen zss → Kq lo base w wq → I i wq → EZ K E wq B T (gt zss i) (gh hs i) → Calls Tryz.prog J (#[Hdr.val (gh hs i)] ++ C) wq fun e w' => ∃ p n es, e = .returned (.slice p n n) ∧ PN wq.heap.size w' K' p n es (F i) ∧ I (i + 1) w' ∧ Kq lo base wq w') (hF : ∀ i, i < olen zss → (F i).length ≤ E') :
    Calls Tryz.prog 122 #[.slice h.p h.n h.c, .func (.func J) #[] C] w (OpK lo base (I (olen zss)) ((List.range (olen zss)).map F) K' E' w) := by
  have ht := otrim_any ⟨hs, H⟩ hT (by omega) hE
  have k := H
  have hol := olen_le zss
  have hn : olen zss ≤ D := by have h1 := k.tl; have h2 := k.few; omega
  have HX : Hid (HRow D (EZ K E) w B T (zss.take (olen zss)) ⟨h.p, olen zss, olen zss⟩ (hs.take (olen zss)) ∧ T ≤ w.heap.size ∧ base ≤ B ∧ base ≤ w.heap.size) := ⟨k.cut _ (by have := k.tl; omega), hT, hB, hbw⟩
  obtain ⟨p, n, nc⟩ := h
  simp only at ht HX ⊢
  have HJ := (show Hid _ from hJ)
  have HF := (show Hid _ from hF)
  have HI := (show Hid _ from hI)
  clear hJ hF k hT hI hB hbw H
  generalize hm : olen zss = m at *
  have hmk := mk_ops m (by omega)
  go_enter Tryz.func122, Tryz.ntmps122
  go_wp2_with fail
  go_fit ht
  rintro e w1 ⟨rfl, hb1⟩
  have HB1 : Hid (Below w.heap.size w w1) := hb1
  clear ht hb1
  go_wp2_with fail
  have HO : Hid (CK F lo base K' E' w1.heap.size m 0 w (w1.alloc (.cells ((hzs m).map Hdr.val).toArray 23)) ∧ I 0 (w1.alloc (.cells ((hzs m).map Hdr.val).toArray 23))) :=
    ⟨⟨hzs m, heap_alloc_new w1 _, by simp [hzs], fun r hr => absurd hr (Nat.not_lt_zero r), Kq.of (HB1.out.alloc HB1.out.size _), HB1.out.size, Nat.le_trans HX.out.2.2.2 HB1.out.size⟩, HI.out 0 w _ hI0 ((HB1.out.alloc HB1.out.size _).mono HX.out.2.2.2)⟩
  have HG1 : Hid (w.heap.size ≤ w1.heap.size ∧ base ≤ w1.heap.size) := ⟨HB1.out.size, Nat.le_trans HX.out.2.2.2 HB1.out.size⟩
  generalize w1.alloc (.cells ((hzs m).map Hdr.val).toArray 23) = W1 at *
  generalize w1.heap.size = g at *
  clear hmk HB1 hI0
  go_loopw [15] (fun kv wr => ∃ i : Nat, i ≤ m ∧ kv = .int .i64 i ∧ Hid (CK F lo base K' E' g m i w wr ∧ I i wr)) (fun kv _ => m - (intOf kv).toNat)
  case atStart => exact ⟨0, Nat.zero_le _, by go_num, HO.out⟩
  case round =>
    obtain ⟨i, hi, rfl, G⟩ := hrel
    rcases Nat.lt_or_ge i m with hlt | hge
    · obtain ⟨⟨os, g1, g2, g3, g4, g5, g6⟩, gI⟩ := G.out
      have i1 : (i : Int) < (m : Int) := by omega
      obtain ⟨b, o, hp, hc⟩ := HX.out.1.hl (by rw [HX.out.1.el]; show 0 < m; omega)
      simp only at hp
      subst hp
      have c0 := hc i (by rw [HX.out.1.el]; exact hlt)
      have hbB := HX.out.1.at_ ⟨b, o, none⟩ rfl (by show 0 < m; omega)
      have hbl : ∀ k, B ≤ k → k < T → wr.heap[k]? = w.heap[k]? := fun k h1 h2 => g4.block k (Nat.lt_of_lt_of_le h2 HX.out.2.1) (.inr (Nat.le_trans HX.out.2.2.1 h1))
      have c1 : wr.cell? ⟨b, o + i, none⟩ = some (gh (hs.take m) i).val := by rw [World.cell?_of_block (a := ⟨b, o + i, none⟩) (hbl b hbB.1 hbB.2)]; exact c0
      have hE2 := lastsB_EZ K E (HX.out.1.ev i hlt) HX.out.2.1 hbl
      rw [gt_take _ _ _ hlt, gh_take _ _ _ hlt] at hE2
      rw [gh_take _ _ _ hlt] at c1
      have hcall := HJ.out wr i hlt g4 gI hE2
      generalize gh hs i = hd at c1 hE2 hcall
      obtain ⟨p2, n2, nc2⟩ := hd
      simp only [Hdr.val] at c1 hcall
      have hg1 := g1
      have hlg := g1.lt
      clear hc c0 hE2 g1 g3 hbl gI
      go_wp2_with fail
      go_fit hcall
      rintro e v3 ⟨p8, n8, es8, rfl, hN8, hI8, hb3⟩
      have hg3 : HB v3 g os := (hb3.block g hlg (.inr g6)).trans hg1
      have z0 := hg3.cell i (by omega)
      have f0 := hg3.frozen i
      have hle : n8 ≤ E' := by have h1 := HF.out i hlt; rw [hN8.zl] at h1; exact h1
      have hstep := G.out.1.step hlt hb3 (hN8.mono hlg) hle
      have HST : Hid (CK F lo base K' E' g m (i + 1) w (v3.setCell ⟨g, i, none⟩ (.slice p8 n8 n8)) ∧ I (i + 1) (v3.setCell ⟨g, i, none⟩ (.slice p8 n8 n8))) := ⟨hstep, HI.out _ _ _ hI8 ((Below.refl base v3).setCell (p := ⟨g, i, none⟩) g6 _)⟩
      clear hstep hN8 hb3 hcall c1 hI8 hg3
      go_wp2
      go_roundw
      case rel => exact ⟨i + 1, by omega, by go_num, HST.out⟩
      case measure => simp [intOf]; omega
    · obtain rfl : i = m := by omega
      have i1 : ¬ (i : Int) < (i : Int) := by omega
      obtain ⟨os, hN⟩ := G.out.1.no
      have HBW : Hid (Kq lo base w wr ∧ I i wr) := by obtain ⟨⟨_, _, _, _, h4, _⟩, h5⟩ := G.out; exact ⟨h4, h5⟩
      have ht2 := otrim_any (hN.hr hK' hE' (by omega)) (Nat.le_refl _) (by omega) hE'
      have HN : Hid (NO g wr K' E' ((List.range i).map F) (some ⟨g, 0, none⟩) i os) := hN
      simp only at ht2
      clear hN G
      go_wp2_with fail
      go_fit ht2
      rintro e w3 ⟨rfl, hb3⟩
      have hle := olen_le ((List.range i).map F)
      rw [List.length_map, List.length_range] at hle
      have HR' : Hid (OpK lo base (I i) ((List.range i).map F) K' E' w (.returned (.slice (some ⟨g, 0, none⟩) (olen ((List.range i).map F)) (olen ((List.range i).map F)))) w3) :=
        ⟨some ⟨g, 0, none⟩, os.take _, rfl, ((HN.out.below hb3).cut hle).mono HG1.out.1, HI.out _ _ _ HBW.out.2 (hb3.mono (Nat.le_trans HX.out.2.2.2 HBW.out.1.size)), HBW.out.1.trans (Kq.of hb3)⟩
      clear hb3 ht2 hle
      generalize olen ((List.range i).map F) = q at *
      go_wp2
      go_ret
      exact HR'.out
structure LB {α : Type} (E : World → Nat → Nat → α → Hdr → Prop) : Prop where
  go : ∀ (w w' : World) (B T : Nat) (z : α) (h : Hdr), E w B T z h → T ≤ w.heap.size → (∀ b, B ≤ b → b < T → w'.heap[b]? = w.heap[b]?) → E w' B T z h
def Lies {α : Type} (E : World → Nat → Nat → α → Hdr → Prop) (lo : Nat) (X : Nat → Prop) (w : World) (z : α) (h : Hdr) : Prop := ∃ B T, E w B T z h ∧ T ≤ w.heap.size ∧ lo ≤ B ∧ ∀ b, X b → b < B ∨ T ≤ b
section
variable {α : Type} {E : World → Nat → Nat → α → Hdr → Prop} {lo : Nat} {X Y : Nat → Prop} {w w' : World} {z : α} {h : Hdr}
theorem Lies.below (k : Lies E lo X w z h) (L : LB E) (hb : Below w.heap.size w w') : Lies E lo X w' z h := by
  obtain ⟨B, T, h1, h2, h3, h4⟩ := k
  exact ⟨B, T, L.go _ _ _ _ _ _ h1 h2 fun b _ hb' => hb.block b (by omega), Nat.le_trans h2 hb.size, h3, h4⟩
end
def NumX (K lo : Nat) (X : Nat → Prop) (w : World) (y : Int) (u : Ent) : Prop := EV w K y u ∧ (0 < u.n → ∀ a, u.p = some a → lo ≤ a.block ∧ ¬ X a.block)
section
variable {K lo : Nat} {X Y : Nat → Prop} {w w' : World} {y : Int} {u : Ent}
theorem NumX.below (k : NumX K lo X w y u) (hb : Below w.heap.size w w') : NumX K lo X w' y u := ⟨k.1.below hb, k.2⟩
theorem NumX.add (k : NumX K lo X w y u) {c : Nat} (hc : w.heap.size ≤ c) : NumX K lo (fun b => X b ∨ b = c) w y u := ⟨k.1, fun hn a ha => ⟨(k.2 hn a ha).1, fun h => by
  rcases h with h | h
  · exact (k.2 hn a ha).2 h
  · have := (lasts_EV K).lt k.1 hn a ha
    omega⟩⟩
theorem NumX.sub (k : NumX K lo X w y u) (hs : ∀ b, Y b → X b) : NumX K lo Y w y u := ⟨k.1, fun hn a ha => ⟨(k.2 hn a ha).1, fun h => (k.2 hn a ha).2 (hs _ h)⟩⟩
end
def One (w : World) (b o : Nat) (u : Ent) : Prop := w.cell? ⟨b, o, none⟩ = some (.bool u.s) ∧ w.cell? ⟨b, o + 1, none⟩ = some (.slice u.p u.n u.c)
theorem One.below {w w' : World} {b o : Nat} {u : Ent} (h : One w b o u) (hb : Below w.heap.size w w') : One w' b o u := ⟨cell_later hb h.1, cell_later hb h.2⟩
def Ax.one (K lo : Nat) : Ax := ⟨fun X v w => ∃ b o c u y, v = .slice (some ⟨b, o, none⟩) 1 c ∧ One w b o u ∧ NumX K lo X w y u, fun ⟨b, o, c, u, y, a, h, k⟩ hb => ⟨b, o, c, u, y, a, h.below hb, k.below hb⟩, fun ⟨b, o, c, u, y, a, h, k⟩ hc => ⟨b, o, c, u, y, a, h, k.add hc⟩, fun ⟨b, o, c, u, y, a, h, k⟩ hs => ⟨b, o, c, u, y, a, h, k.sub hs⟩⟩
abbrev EOp (D E K : Nat) := HR D (EZ K E)
theorem lOp (D E K : Nat) : LB (EOp D E K) := ⟨fun _ _ _ _ _ _ a b c => lastsB_HR (E := EZ K E) (fun a b c => lastsB_EZ K E a b c) a b c⟩
section
variable {w v : World} {lo : Nat} {X : Nat → Prop}
theorem cut1_ax {b : Nat} {e : Ent} (hr : RawE w e) (hb : Below w.heap.size w v) (c0 : v.cell? ⟨b, 0, none⟩ = some (.bool e.s)) (c1 : v.cell? ⟨b, 1, none⟩ = some (.slice e.p e.n e.c)) (hX : ∀ c, X c → c < v.heap.size) (hlo : lo ≤ v.heap.size) (L : Nat) (hL : L ≤ 24) :
    Calls Tryz.prog 11 #[.slice (some ⟨b, 0, none⟩) 1 1, .int .i64 1, .int .i64 L] v fun e w' => ∃ u, e = .returned u ∧ (Ax.one L lo).is X u w' ∧ Below v.heap.size v w' := by
  refine (Cut3_any (pz_lit c0 c1 (hr.below hb)) 1 L (by decide) hL).mono ?_
  rintro r w' ⟨q2, n2, mc2, fs2, zs2, rfl, hP2, hm2, hF4, hG4, hb2⟩
  obtain rfl : n2 = 1 := hm2
  obtain ⟨b2, c2, hq2, hc2⟩ := hP2.pl (by rw [hP2.el]; decide)
  subst hq2
  obtain ⟨i0, i1⟩ := hc2 0 (by rw [hP2.el]; decide)
  rw [Nat.zero_mul, Nat.add_zero] at i0 i1
  exact ⟨_, rfl, ⟨b2, c2, mc2, _, _, rfl, ⟨i0, i1⟩, hP2.ev 0 (by decide), fun hn a ha => by
    have h1 := hG4 0 (by decide) hn a ha
    exact ⟨by omega, fun h => by have := hX _ h; omega⟩⟩, hb2⟩
end
open Go.RowKit Go.Shelf
theorem block_kept {W W' : World} {row : Option Nat} {b : Nat} {cs : Array Value} {t : TypeId} {x : Nat × Nat} (h : W.heap[b]? = some (.cells cs t x)) (hg : W.grownBy W' row) (hr : ∀ r, row = some r → ∃ o : Obj, W.heap[r]? = some o ∧ o.isCells = false) : W'.heap[b]? = some (.cells cs t x) := by
  refine (hg.block b (Array.getElem?_eq_some_iff.1 h).1 fun e => ?_).trans h
  obtain ⟨o, ho, hc⟩ := hr b (by first | exact e | exact e.symm)
  rw [h] at ho
  cases ho
  cases hc
theorem NV.same {B : Nat} {V V' : World} {K : Nat} {z : Int} {e : Ent} (h : NV B V K z e) (hs : V.heap.size ≤ V'.heap.size) (hb : 0 < e.n → ∀ a, e.p = some a → V'.heap[a.block]? = V.heap[a.block]?) : NV B V' K z e := by
  obtain ⟨xs, k, h2⟩ := h
  rcases Nat.eq_zero_or_pos e.n with h0 | h0
  · have hp := k.pn h0
    refine ⟨xs, ⟨k.len, fun hx => ?_, k.u, k.nrm, k.sg, k.pn, k.v, k.fr, fun a ha => ?_⟩, h2⟩
    · rw [k.len] at hx
      omega
    · rw [hp] at ha
      cases ha
  · refine ⟨xs, ⟨k.len, k.rd.same fun a ha _ => hb h0 a ha, k.u, k.nrm, k.sg, k.pn, k.v, k.fr, fun a ha => ⟨Nat.lt_of_lt_of_le (k.fz a ha).1 hs, fun i => ?_⟩⟩, h2⟩
    have h4 := (k.fz a ha).2 i
    have h3 := hb h0 a ha
    simp only [World.frozen?] at h4 ⊢
    rw [h3]
    exact h4
theorem NV.offc {B : Nat} {V : World} {K : Nat} {z : Int} {e : Ent} (h : NV B V K z e) {g : Nat} (hc : ∀ (o : Nat) (y : Int), V.cell? ⟨g, o, none⟩ ≠ some (.int .u32 y)) : 0 < e.n → ∀ a, e.p = some a → a.block ≠ g := fun hn a ha hg => by
  obtain ⟨xs, k, h2⟩ := h
  have hx : 0 < xs.length := by rw [k.len]; exact hn
  obtain ⟨b, o, hp, hcl⟩ := k.rd hx
  rw [hp] at ha
  cases ha
  simp only at hg
  subst hg
  exact hc _ _ (hcl 0 hx)
theorem row2_no {V : World} {g : Nat} {t : TypeId} {es : List Ent} (h : Row2 V g t es) : ∀ (o : Nat) (y : Int), V.cell? ⟨g, o, none⟩ ≠ some (.int .u32 y) := fun o y hc => by
  have h1 := cell_of_row V g o _ t (0, 0) h
  rw [h1] at hc
  have hlt : o < (ca2 es).size := (Array.getElem?_eq_some_iff.1 hc).1
  rw [size_ca2] at hlt
  obtain ⟨j, hj⟩ : ∃ j, o = j * 2 ∨ o = j * 2 + 1 := ⟨o / 2, by omega⟩
  have hj' : j < es.length := by omega
  obtain ⟨f0, f1⟩ := flat_get es j hj'
  simp only [ca2, List.getElem?_toArray] at hc
  rcases hj with hj | hj
  · rw [hj, f0] at hc
    cases hc
  · rw [hj, f1] at hc
    cases hc
theorem var2_no {V : World} {g : Nat} {s : Bool} {p : Option Addr} {n c : Nat} {t : TypeId} (h : V.heap[g]? = some (.cells #[.bool s, .slice p n c] t)) : ∀ (o : Nat) (y : Int), V.cell? ⟨g, o, none⟩ ≠ some (.int .u32 y) := fun o y hc => by
  match o, hc with
  | 0, hc => simp [World.cell?, h, go_sem] at hc
  | 1, hc => simp [World.cell?, h, go_sem] at hc
  | o + 2, hc => simp [World.cell?, h, go_sem] at hc
theorem var1_no {V : World} {g : Nat} {i : Int} {t : TypeId} (h : V.heap[g]? = some (.cells #[.int .i64 i] t)) : ∀ (o : Nat) (y : Int), V.cell? ⟨g, o, none⟩ ≠ some (.int .u32 y) := fun o y hc => by
  match o, hc with
  | 0, hc => simp [World.cell?, h, go_sem] at hc
  | o + 1, hc => simp [World.cell?, h, go_sem] at hc
structure DiV (w : World) (gq gr go gp ga : Nat) (e : Ent) (q : Int) (L K m k i : Nat) (xs : List Int) (up : Ent) (es : List Ent) (V : World) : Prop where
  bw : Below w.heap.size w V
  hq : V.heap[gq]? = some (.cells #[.bool e.s, .slice e.p e.n e.c] 26)
  ho : V.heap[go]? = some (.cells #[.slice (some ⟨gr, 0, none⟩) m m] 23)
  hp : V.heap[gp]? = some (.cells #[.bool up.s, .slice up.p up.n up.c] 26)
  ha : V.heap[ga]? = some (.cells #[.int .i64 i] 3)
  hr : Row2 V gr 26 es
  el : es.length = m
  pv : NV w.heap.size V (L * i + 1) (q ^ i) up
  ev : ∀ j, j < m → NV w.heap.size V (K + L * 17 + 1) (if j < k then dl q xs j else 0) (ge es j)
theorem DiV.held {w : World} {gq gr go gp ga : Nat} {e : Ent} {q : Int} {L K m k i : Nat} {xs : List Int} {up : Ent} {es : List Ent} {V V' : World} {row : Option Nat} (h : DiV w gq gr go gp ga e q L K m k i xs up es V) (hb : Below w.heap.size w V') (hg : V.grownBy V' row) (hr : ∀ r, row = some r → ∃ o : Obj, V.heap[r]? = some o ∧ o.isCells = false) : DiV w gq gr go gp ga e q L K m k i xs up es V' :=
  ⟨hb, block_kept h.hq hg hr, block_kept h.ho hg hr, block_kept h.hp hg hr, block_kept h.ha hg hr, block_kept h.hr hg hr, h.el, h.pv.held hg hr, fun j hj => (h.ev j hj).held hg hr⟩
theorem DiV.later {w : World} {gq gr go gp ga : Nat} {e : Ent} {q : Int} {L K m k i : Nat} {xs : List Int} {up : Ent} {es : List Ent} {V V' : World} (h : DiV w gq gr go gp ga e q L K m k i xs up es V) (hb : Below V.heap.size V V') : DiV w gq gr go gp ga e q L K m k i xs up es V' :=
  h.held (h.bw.trans (hb.mono h.bw.size)) (grownBy_below hb none) (fun _ e => by cases e)
section
variable {w : World} {gq gr go gp ga : Nat} {e : Ent} {q : Int} {L K m k i j : Nat} {xs : List Int} {up : Ent} {es : List Ent} {V : World}
theorem DiV.move (h : DiV w gq gr go gp ga e q L K m k i xs up es V) (hd : w.heap.size ≤ gq ∧ gq < gr ∧ gr < go ∧ go < gp ∧ gp < ga) {u : Ent} (hu : NV w.heap.size V (L * j + 1) (q ^ j) u) :
    DiV w gq gr go gp ga e q L K m k j xs u es (((V.setCell ⟨gp, 0, none⟩ (.bool u.s)).setCell ⟨gp, 1, none⟩ (.slice u.p u.n u.c)).setCell ⟨ga, 0, none⟩ (.int .i64 j)) := by
  obtain ⟨d0, d1, d2, d3, d4⟩ := hd
  have o2 : ∀ b, b ≠ gp → ((V.setCell ⟨gp, 0, none⟩ (.bool u.s)).setCell ⟨gp, 1, none⟩ (.slice u.p u.n u.c)).heap[b]? = V.heap[b]? := fun b hb => (heap_setCell_other _ ⟨gp, 1, none⟩ b _ hb).trans (heap_setCell_other _ ⟨gp, 0, none⟩ b _ hb)
  have o3 : ∀ b, b ≠ gp → b ≠ ga → (((V.setCell ⟨gp, 0, none⟩ (.bool u.s)).setCell ⟨gp, 1, none⟩ (.slice u.p u.n u.c)).setCell ⟨ga, 0, none⟩ (.int .i64 j)).heap[b]? = V.heap[b]? := fun b hb hb' => (heap_setCell_other _ ⟨ga, 0, none⟩ b _ hb').trans (o2 b hb)
  have nvs : ∀ {M : Nat} {z : Int} {f : Ent}, NV w.heap.size V M z f → NV w.heap.size (((V.setCell ⟨gp, 0, none⟩ (.bool u.s)).setCell ⟨gp, 1, none⟩ (.slice u.p u.n u.c)).setCell ⟨ga, 0, none⟩ (.int .i64 j)) M z f := fun {M z f} hf =>
    hf.same (by simp [World.setCell]) fun hn a ha => o3 _ (hf.offc (var2_no h.hp) hn a ha) (hf.offc (var1_no h.ha) hn a ha)
  refine ⟨?_, (o3 _ (by omega) (by omega)).trans h.hq, (o3 _ (by omega) (by omega)).trans h.ho, ?_, ?_, (o3 _ (by omega) (by omega)).trans h.hr, h.el, nvs hu, fun j hj => nvs (h.ev j hj)⟩
  · exact ((h.bw.setCell (p := ⟨gp, 0, none⟩) (by show _ ≤ gp; omega) _).setCell (p := ⟨gp, 1, none⟩) (by show _ ≤ gp; omega) _).setCell (p := ⟨ga, 0, none⟩) (by show _ ≤ ga; omega) _
  · refine (heap_setCell_other _ ⟨ga, 0, none⟩ gp _ (by show gp ≠ ga; omega)).trans ?_
    have h1 := heap_setCell_same V gp 0 _ 26 (.bool u.s) h.hp
    have h2 := heap_setCell_same _ gp 1 _ 26 (.slice u.p u.n u.c) h1
    rw [h2]
    rfl
  · have h1 := heap_setCell_same ((V.setCell ⟨gp, 0, none⟩ (.bool u.s)).setCell ⟨gp, 1, none⟩ (.slice u.p u.n u.c)) ga 0 _ 3 (.int .i64 j) ((o2 ga (by omega)).trans h.ha)
    rw [h1]
    rfl
theorem DiV.put (h : DiV w gq gr go gp ga e q L K m k j xs up es V) (hd : w.heap.size ≤ gq ∧ gq < gr ∧ gr < go ∧ go < gp ∧ gp < ga) (hj : j < m) (hk : k ≤ j) (hz : ∀ t, k ≤ t → t < j → dl q xs t = 0) {u : Ent} (hu : NV w.heap.size V (K + L * 17 + 1) (dl q xs j) u) :
    DiV w gq gr go gp ga e q L K m (j + 1) j xs up (es.set j u) ((V.setCell ⟨gr, j * 2, none⟩ (.bool u.s)).setCell ⟨gr, j * 2 + 1, none⟩ (.slice u.p u.n u.c)) := by
  obtain ⟨d0, d1, d2, d3, d4⟩ := hd
  have o2 : ∀ b, b ≠ gr → ((V.setCell ⟨gr, j * 2, none⟩ (.bool u.s)).setCell ⟨gr, j * 2 + 1, none⟩ (.slice u.p u.n u.c)).heap[b]? = V.heap[b]? := fun b hb => (heap_setCell_other _ ⟨gr, j * 2 + 1, none⟩ b _ hb).trans (heap_setCell_other _ ⟨gr, j * 2, none⟩ b _ hb)
  have nvs : ∀ {M : Nat} {z : Int} {f : Ent}, NV w.heap.size V M z f → NV w.heap.size ((V.setCell ⟨gr, j * 2, none⟩ (.bool u.s)).setCell ⟨gr, j * 2 + 1, none⟩ (.slice u.p u.n u.c)) M z f := fun {M z f} hf =>
    hf.same (by simp [World.setCell]) fun hn a ha => o2 _ (hf.offc (row2_no h.hr) hn a ha)
  refine ⟨?_, (o2 _ (by omega)).trans h.hq, (o2 _ (by omega)).trans h.ho, (o2 _ (by omega)).trans h.hp, (o2 _ (by omega)).trans h.ha, h.hr.set j u (by rw [h.el]; exact hj), by simp [h.el], nvs h.pv, fun t ht => ?_⟩
  · exact (h.bw.setCell (p := ⟨gr, j * 2, none⟩) (by show _ ≤ gr; omega) _).setCell (p := ⟨gr, j * 2 + 1, none⟩) (by show _ ≤ gr; omega) _
  · by_cases hjt : t = j
    · subst hjt
      rw [if_pos (by omega), ge_set_same _ _ _ (by rw [h.el]; exact hj)]
      exact nvs hu
    · rw [ge_set_other _ _ _ _ hjt]
      have h1 := nvs (h.ev t ht)
      rcases Nat.lt_or_ge t k with hlt | hge
      · rw [if_pos hlt] at h1
        rw [if_pos (by omega)]
        exact h1
      · rw [if_neg (by omega)] at h1
        rcases Nat.lt_or_ge t j with hlt2 | hge2
        · rw [if_pos (by omega), hz t hge hlt2]
          exact h1
        · rw [if_neg (by omega)]
          exact h1
end
def DI (w : World) (gq gr go gp ga : Nat) (e : Ent) (q : Int) (L K m N0 : Nat) (xs : List Int) (pre : List (Nat × Ent)) (V : World) : Prop :=
  ∃ k i up es, DiV w gq gr go gp ga e q L K m k i xs up es V ∧ N0 ≤ V.heap.size ∧ Behind xs k ∧ pre.map (·.1) = idx xs k ∧ i = k - 1 ∧ k ≤ m
theorem DI.own {w : World} {gq gr go gp ga : Nat} {e : Ent} {q : Int} {L K m N0 : Nat} {xs : List Int} {B : Nat} (hB : w.heap.size ≤ B) : OwnFrom B (DI w gq gr go gp ga e q L K m N0 xs) := fun pre V V' row h hg hr => by
  obtain ⟨k, i, up, es, hd, hs, h2⟩ := h
  exact ⟨k, i, up, es, hd.held (ownFrom_below (Nat.le_refl _) hB () V V' row hd.bw hg hr) hg (fun r e => (hr r e).2), Nat.le_trans hs hg.size, h2⟩
theorem DI.later {w : World} {gq gr go gp ga : Nat} {e : Ent} {q : Int} {L K m N0 : Nat} {xs : List Int} {pre : List (Nat × Ent)} {V V' : World} (h : DI w gq gr go gp ga e q L K m N0 xs pre V) (hb : Below V.heap.size V V') : DI w gq gr go gp ga e q L K m N0 xs pre V' := by
  obtain ⟨k, i, up, es, hd, hs, h2⟩ := h
  exact ⟨k, i, up, es, hd.later hb, Nat.le_trans hs hb.size, h2⟩
def DA (w : World) (gq gr go gp ga : Nat) (e : Ent) (q : Int) (L K m N0 : Nat) (xs : List Int) (B0 : Nat) (pre : List (Nat × Ent)) (x : Nat × Ent) (b : Nat) (V : World) : Prop :=
  DI w gq gr go gp ga e q L K m N0 xs pre V ∧ Told xs m K B0 pre x V ∧ V.heap[b]? = some (.cells #[.bool x.2.s, .slice x.2.p x.2.n x.2.c] 26) ∧ B0 ≤ b
theorem DA.own {w : World} {gq gr go gp ga : Nat} {e : Ent} {q : Int} {L K m N0 : Nat} {xs : List Int} {B B0 : Nat} (hB : w.heap.size ≤ B) (pre : List (Nat × Ent)) (x : Nat × Ent) (b : Nat) : OwnFrom B fun (_ : Unit) V => DA w gq gr go gp ga e q L K m N0 xs B0 pre x b V := fun _ V V' row h hg hr =>
  ⟨DI.own hB pre V V' row h.1 hg hr, told_own B xs m K B0 pre x () V V' row h.2.1 hg hr, block_kept h.2.2.1 hg fun r e => (hr r e).2, h.2.2.2⟩
theorem keeps_below' {V V' : World} (hb : Below V.heap.size V V') : KeepsOthers V V' := KeepsOthers.of_grownBy (row := none) (grownBy_below hb none) (fun _ _ e => by cases e)
end Go.Proofs.YtejnhpjejcpekaaGreatDoor
