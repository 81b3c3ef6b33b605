/-
  What lasts while its own memory does; ore.convert with a function that writes elsewhere.
-/
import Derived.Test.YtejnhpjejcpekaaGreatDoorAiRzVdRtDhVeRsVfVcAjDqDrBmBqDuAkBrAl
import Derived.Deep.DeepFit
import Derived.Defers
import Derived.Recover
import Derived.Laws.Pointers
import Derived.Test.YtejnhpjejcpekaaGreatDoorMmWaWbWc
import Derived.RangeFuncNested
import Derived.RangeFuncBound
import Derived.Test.YtejnhpjejcpekaaGreatDoorUeUfUg
import Derived.RangeFuncCalls
import Derived.RangeFuncLeaves
import Derived.Shelf.Abstract
import Derived.Shelf.RegionOpen
import Derived.WalkKit
import Derived.OwnWalkIn
import Derived.TacticsInMore
import Derived.LoopNIn
import Derived.LoopIn
namespace Go.Proofs.YtejnhpjejcpekaaGreatDoor
open Go.RowKit
set_option linter.unusedVariables false
set_option linter.unusedSimpArgs false
set_option maxHeartbeats 8000000
def LastsB {α : Type} (E : World → Nat → Nat → α → Hdr → Prop) : Prop :=
  ∀ {w w' : World} {B T : Nat} {z : α} {h : Hdr}, E w B T z h → T ≤ w.heap.size → (∀ b, B ≤ b → b < T → w'.heap[b]? = w.heap[b]?) → E w' B T z h
theorem EV.same {w w' : World} {K : Nat} {z : Int} {e : Ent} (h : EV w K z e) (hs : 0 < e.n → ∀ a, e.p = some a → w'.heap[a.block]? = w.heap[a.block]?) : EV w' K z e := by
  obtain ⟨xs, k, h2⟩ := h
  refine ⟨xs, ⟨k.len, k.cap, k.bnd, k.sml, fun hx => (k.rd.same fun a ha _ => hs ?_ a ha) hx, k.u⟩, h2⟩
  rw [← k.len]
  exact hx
theorem RE.same {w w' : World} {N : Nat} {z : Int} {e : Ent} (h : RE w N z e) (hs : 0 < e.n → ∀ a, e.p = some a → w'.heap[a.block]? = w.heap[a.block]?) : RE w' N z e := by
  obtain ⟨⟨ds, k, h2⟩, h3⟩ := h
  refine ⟨⟨ds, ⟨k.len, fun hx => (k.rd.same fun a ha _ => hs ?_ a ha) hx, k.u, k.nrm, k.sg, k.sml⟩, h2⟩, h3⟩
  rw [← k.len]
  exact hx
theorem lastsB_EZ (K D : Nat) : LastsB (EZ K D) := fun {w w' B T z h} he hT hs => by
  obtain ⟨fs, k, h1, h2, h3⟩ := he
  refine ⟨fs, ⟨k.el, k.zl, k.cap, k.bnd, k.pn, fun hx => (k.pl.same fun a ha hlt => ?_) hx, fun j hj => (k.ev j hj).same fun hn a ha => ?_⟩, h1, h2, h3⟩
  · have h4 := h2 a ha (by rw [← k.el]; exact hx)
    exact hs _ h4.1 h4.2
  · have h4 := h3 j hj hn a ha
    exact hs _ h4.1 h4.2
theorem lastsB_HR {α : Type} [Inhabited α] {D : Nat} {E : World → Nat → Nat → α → Hdr → Prop} (L : LastsB E) : LastsB (HR D E) := fun {w w' B T z h} he hT hs => by
  obtain ⟨rs, k⟩ := he
  refine ⟨rs, k.el, k.tl, k.cap, k.bnd, k.pn, k.few, k.hl.same fun a ha hn hlt => ?_, k.at_, fun j hj => L (k.ev j hj) hT hs⟩
  have h1 := k.at_ a ha (by rw [← k.el]; exact hn)
  exact hs _ h1.1 h1.2
structure Kq (lo base : Nat) (w w' : World) : Prop where
  os : w'.os = w.os
  tape : w'.tape = w.tape
  output : w'.output = w.output
  size : w.heap.size ≤ w'.heap.size
  block : ∀ k, k < w.heap.size → (k < lo ∨ base ≤ k) → w'.heap[k]? = w.heap[k]?
section
variable {lo base : Nat} {w w1 w2 : World}
theorem Kq.of (h : Below w.heap.size w w1) : Kq lo base w w1 := ⟨h.os, h.tape, h.output, h.size, fun k hk _ => h.block k hk⟩
theorem Kq.trans (h : Kq lo base w w1) (k : Kq lo base w1 w2) : Kq lo base w w2 :=
  ⟨k.os.trans h.os, k.tape.trans h.tape, k.output.trans h.output, Nat.le_trans h.size k.size, fun i hi hx => (k.block i (Nat.lt_of_lt_of_le hi h.size) hx).trans (h.block i hi hx)⟩
theorem Kq.put (h : Kq lo base w w1) (a : Addr) (v : Value) (ha : (lo ≤ a.block ∧ a.block < base) ∨ w.heap.size ≤ a.block) : Kq lo base w (w1.setCell a v) :=
  ⟨h.os, h.tape, h.output, by simpa [World.setCell] using h.size, fun i hi hx => by
    rw [Below.heap_setCell w1 a v i (by omega)]
    exact h.block i hi hx⟩
end
theorem PN.kp {lo base B : Nat} {w w' : World} {K : Nat} {p : Option Addr} {n : Nat} {es : List Ent} {zs : List Int} (h : PN B w K p n es zs) (hk : Kq lo base w w') (hB : base ≤ B) : PN B w' K p n es zs := by
  refine ⟨h.el, h.zl, h.nrm, h.pl.same fun a ha hlt => hk.block _ hlt (.inr (Nat.le_trans hB (h.fr a ha))), h.fr, fun j hj => ?_⟩
  obtain ⟨xs, k, h2⟩ := h.ev j hj
  have hbl : ∀ a, (ge es j).p = some a → a.block < w.heap.size → w'.heap[a.block]? = w.heap[a.block]? := fun a ha hlt => hk.block _ hlt (.inr (Nat.le_trans hB (k.fr a ha)))
  refine ⟨xs, ⟨k.len, k.rd.same hbl, k.u, k.nrm, k.sg, k.pn, k.v, k.fr, fun a ha => ⟨Nat.lt_of_lt_of_le (k.fz a ha).1 hk.size, fun i => ?_⟩⟩, h2⟩
  have h3 := hbl a ha (k.fz a ha).1
  have h4 := (k.fz a ha).2 i
  simp only [World.frozen?] at h4 ⊢
  rw [h3]
  exact h4
def CK (F : Nat → List Int) (lo base K E g n i : Nat) (w wr : World) : Prop :=
  ∃ hs : List Hdr, HB wr g hs ∧ hs.length = n ∧ (∀ r, r < i → (gh hs r).c = (gh hs r).n ∧ (gh hs r).n ≤ E ∧ ∃ es, PN (g + 1) wr K (gh hs r).p (gh hs r).n es (F r)) ∧ Kq lo base w wr ∧ w.heap.size ≤ g ∧ base ≤ g
theorem CK.step {F : Nat → List Int} {lo base K E g n i : Nat} {w wr v3 : World} {p3 : Option Addr} {n3 : Nat} {es3 : List Ent} (h : CK F lo base K E g n i w wr) (hi : i < n) (hv : Kq lo base wr v3) (hN : PN (g + 1) v3 K p3 n3 es3 (F i)) (hE : n3 ≤ E) : CK F lo base K E g n (i + 1) w (v3.setCell ⟨g, i, none⟩ (.slice p3 n3 n3)) := by
  obtain ⟨hs, h1, h2, h3, h4, h5, h6⟩ := h
  have h1' : HB v3 g hs := (hv.block g h1.lt (.inr h6)).trans h1
  refine ⟨hs.set i ⟨p3, n3, n3⟩, h1'.set i ⟨p3, n3, n3⟩, by simp [h2], fun r hr => ?_, (h4.trans hv).put ⟨g, i, none⟩ _ (.inr h5), h5, h6⟩
  rw [gh_set _ _ _ _ (by omega)]
  by_cases e : r = i
  · subst e
    rw [if_pos rfl]
    exact ⟨rfl, hE, es3, hN.put (Nat.lt_succ_self g) _⟩
  · rw [if_neg e]
    obtain ⟨a, b, es, c⟩ := h3 r (by omega)
    exact ⟨a, b, es, (c.kp hv (by omega)).put (Nat.lt_succ_self g) _⟩
theorem CK.no {F : Nat → List Int} {lo base K E g n : Nat} {w wr : World} (h : CK F lo base K E g n n w wr) : ∃ hs, NO g wr K E ((List.range n).map F) (some ⟨g, 0, none⟩) n hs := by
  obtain ⟨hs, h1, h2, h3, h4, h5, h6⟩ := h
  refine ⟨hs, h2, by simp, fun hp => ⟨g, 0, rfl, fun j hj => by rw [Nat.zero_add]; exact h1.cell j hj⟩, fun a ha => by cases ha; exact Nat.le_refl _, fun j hj => ?_⟩
  obtain ⟨a, b, es, c⟩ := h3 j hj
  refine ⟨a, b, es, ?_⟩
  have e : gt ((List.range n).map F) j = F j := by simp [gt, hj]
  rw [e]
  exact c.mono (Nat.le_succ g)
theorem NO.hrow {B : Nat} {w : World} {K E : Nat} {l : List (List Int)} {p : Option Addr} {n : Nat} {hs : List Hdr} (h : NO B w K E l p n hs) (hK : K ≤ 1000) (hE : E ≤ 1000000) (hn : n ≤ 1000000) : HRow n (EZ K E) w B w.heap.size l ⟨p, n, n⟩ hs := by
  refine ⟨h.el, h.tl, Nat.le_refl _, by show n ≤ maxLen; unfold maxLen; omega, fun e => ?_, Nat.le_refl _, h.hl, fun a ha h0 => ⟨h.fr a ha, ?_⟩, fun j hj => ?_⟩
  · rcases Nat.eq_zero_or_pos n with h0 | h0
    · exact h0
    · obtain ⟨b, o, hb, -⟩ := h.hl (by rw [h.el]; exact h0)
      simp only at e
      rw [hb] at e
      cases e
  · obtain ⟨b, o, hb, hc⟩ := h.hl (by rw [h.el]; exact h0)
    simp only at ha
    rw [hb] at ha
    cases ha
    exact block_lt_of_cell (hc 0 (by rw [h.el]; exact h0))
  · obtain ⟨a, b, es, c⟩ := h.ev j hj
    have h1 := ez_of_pn c hK b hE
    have e : (⟨(gh hs j).p, (gh hs j).n, (gh hs j).n⟩ : Hdr) = gh hs j := by
      generalize gh hs j = x at a
      obtain ⟨x1, x2, x3⟩ := x
      simp only at a
      rw [a]
    rw [e] at h1
    exact h1
def OpK (lo base : Nat) (I : World → Prop) (l : List (List Int)) (K E : Nat) (w : World) (e : Ending) (w' : World) : Prop :=
  ∃ p hs, e = .returned (.slice p (olen l) (olen l)) ∧ NO w.heap.size w' K E (otr l) p (olen l) hs ∧ I w' ∧ Kq lo base w w'
set_option maxRecDepth 100000 in
theorem convert_gen {w : World} {lo base B T K E D K' E' : Nat} {zss : List (List Int)} {h : Hdr} {hs : List Hdr} (H : HRow D (EZ K E) w B T zss h hs) (hT : T ≤ w.heap.size) (hB : base ≤ B) (hbw : base ≤ w.heap.size) (hD : D ≤ 1000) (hE : E ≤ 1000000) (hK' : K' ≤ 1000) (hE' : E' ≤ 1000000) (J : Nat) (C : Array Value) (hE0 : ∀ args w', Sem.run Tryz.prog (callFunc J args) w' = .ok (.enter J args) w') (F : Nat → List Int) (I : Nat → World → Prop)
    (hI : ∀ i w1 w2, I i w1 → Below base w1 w2 → I i w2) (hI0 : I 0 w)
    (hJ : ∀ wq i, i < olen zss → Kq lo base w wq → I i wq → EZ K E wq B T (gt zss i) (gh hs i) → Calls Tryz.prog J (#[Hdr.val (gh hs i)] ++ C) wq fun e w' => ∃ p n es, e = .returned (.slice p n n) ∧ PN wq.heap.size w' K' p n es (F i) ∧ I (i + 1) w' ∧ Kq lo base wq w') (hF : ∀ i, i < olen zss → (F i).length ≤ E') :
    Calls Tryz.prog 122 #[.slice h.p h.n h.c, .func (.func J) #[] C] w (OpK lo base (I (olen zss)) ((List.range (olen zss)).map F) K' E' w) := by
  have ht := otrim_any ⟨hs, H⟩ hT (by omega) hE
  have k := H
  have hol := olen_le zss
  have hn : olen zss ≤ D := by have h1 := k.tl; have h2 := k.few; omega
  have HX : Hid (HRow D (EZ K E) w B T (zss.take (olen zss)) ⟨h.p, olen zss, olen zss⟩ (hs.take (olen zss)) ∧ T ≤ w.heap.size ∧ base ≤ B ∧ base ≤ w.heap.size) := ⟨k.cut _ (by have := k.tl; omega), hT, hB, hbw⟩
  obtain ⟨p, n, nc⟩ := h
  simp only at ht HX ⊢
  have HJ := (show Hid _ from hJ)
  have HF := (show Hid _ from hF)
  have HI := (show Hid _ from hI)
  clear hJ hF k hT hI hB hbw H
  generalize hm : olen zss = m at *
  have hmk := mk_ops m (by omega)
  go_enter Tryz.func122, Tryz.ntmps122
  go_wp2_with fail
  go_fit ht
  rintro e w1 ⟨rfl, hb1⟩
  have HB1 : Hid (Below w.heap.size w w1) := hb1
  clear ht hb1
  go_wp2_with fail
  have HO : Hid (CK F lo base K' E' w1.heap.size m 0 w (w1.alloc (.cells ((hzs m).map Hdr.val).toArray 23)) ∧ I 0 (w1.alloc (.cells ((hzs m).map Hdr.val).toArray 23))) :=
    ⟨⟨hzs m, heap_alloc_new w1 _, by simp [hzs], fun r hr => absurd hr (Nat.not_lt_zero r), Kq.of (HB1.out.alloc HB1.out.size _), HB1.out.size, Nat.le_trans HX.out.2.2.2 HB1.out.size⟩, HI.out 0 w _ hI0 ((HB1.out.alloc HB1.out.size _).mono HX.out.2.2.2)⟩
  have HG1 : Hid (w.heap.size ≤ w1.heap.size ∧ base ≤ w1.heap.size) := ⟨HB1.out.size, Nat.le_trans HX.out.2.2.2 HB1.out.size⟩
  generalize w1.alloc (.cells ((hzs m).map Hdr.val).toArray 23) = W1 at *
  generalize w1.heap.size = g at *
  clear hmk HB1 hI0
  go_loopw [15] (fun kv wr => ∃ i : Nat, i ≤ m ∧ kv = .int .i64 i ∧ Hid (CK F lo base K' E' g m i w wr ∧ I i wr)) (fun kv _ => m - (intOf kv).toNat)
  case atStart => exact ⟨0, Nat.zero_le _, by go_num, HO.out⟩
  case round =>
    obtain ⟨i, hi, rfl, G⟩ := hrel
    rcases Nat.lt_or_ge i m with hlt | hge
    · obtain ⟨⟨os, g1, g2, g3, g4, g5, g6⟩, gI⟩ := G.out
      have i1 : (i : Int) < (m : Int) := by omega
      obtain ⟨b, o, hp, hc⟩ := HX.out.1.hl (by rw [HX.out.1.el]; show 0 < m; omega)
      simp only at hp
      subst hp
      have c0 := hc i (by rw [HX.out.1.el]; exact hlt)
      have hbB := HX.out.1.at_ ⟨b, o, none⟩ rfl (by show 0 < m; omega)
      have hbl : ∀ k, B ≤ k → k < T → wr.heap[k]? = w.heap[k]? := fun k h1 h2 => g4.block k (Nat.lt_of_lt_of_le h2 HX.out.2.1) (.inr (Nat.le_trans HX.out.2.2.1 h1))
      have c1 : wr.cell? ⟨b, o + i, none⟩ = some (gh (hs.take m) i).val := by rw [World.cell?_of_block (a := ⟨b, o + i, none⟩) (hbl b hbB.1 hbB.2)]; exact c0
      have hE2 := lastsB_EZ K E (HX.out.1.ev i hlt) HX.out.2.1 hbl
      rw [gt_take _ _ _ hlt, gh_take _ _ _ hlt] at hE2
      rw [gh_take _ _ _ hlt] at c1
      have hcall := HJ.out wr i hlt g4 gI hE2
      generalize gh hs i = hd at c1 hE2 hcall
      obtain ⟨p2, n2, nc2⟩ := hd
      simp only [Hdr.val] at c1 hcall
      have hg1 := g1
      have hlg := g1.lt
      clear hc c0 hE2 g1 g3 hbl gI
      go_wp2_with fail
      go_fit hcall
      rintro e v3 ⟨p8, n8, es8, rfl, hN8, hI8, hb3⟩
      have hg3 : HB v3 g os := (hb3.block g hlg (.inr g6)).trans hg1
      have z0 := hg3.cell i (by omega)
      have f0 := hg3.frozen i
      have hle : n8 ≤ E' := by have h1 := HF.out i hlt; rw [hN8.zl] at h1; exact h1
      have hstep := G.out.1.step hlt hb3 (hN8.mono hlg) hle
      have HST : Hid (CK F lo base K' E' g m (i + 1) w (v3.setCell ⟨g, i, none⟩ (.slice p8 n8 n8)) ∧ I (i + 1) (v3.setCell ⟨g, i, none⟩ (.slice p8 n8 n8))) := ⟨hstep, HI.out _ _ _ hI8 ((Below.refl base v3).setCell (p := ⟨g, i, none⟩) g6 _)⟩
      clear hstep hN8 hb3 hcall c1 hI8 hg3
      go_wp2
      go_roundw
      case rel => exact ⟨i + 1, by omega, by go_num, HST.out⟩
      case measure => simp [intOf]; omega
    · obtain rfl : i = m := by omega
      have i1 : ¬ (i : Int) < (i : Int) := by omega
      obtain ⟨os, hN⟩ := G.out.1.no
      have HBW : Hid (Kq lo base w wr ∧ I i wr) := by obtain ⟨⟨_, _, _, _, h4, _⟩, h5⟩ := G.out; exact ⟨h4, h5⟩
      have ht2 := otrim_any (hN.hr hK' hE' (by omega)) (Nat.le_refl _) (by omega) hE'
      have HN : Hid (NO g wr K' E' ((List.range i).map F) (some ⟨g, 0, none⟩) i os) := hN
      simp only at ht2
      clear hN G
      go_wp2_with fail
      go_fit ht2
      rintro e w3 ⟨rfl, hb3⟩
      have hle := olen_le ((List.range i).map F)
      rw [List.length_map, List.length_range] at hle
      have HR' : Hid (OpK lo base (I i) ((List.range i).map F) K' E' w (.returned (.slice (some ⟨g, 0, none⟩) (olen ((List.range i).map F)) (olen ((List.range i).map F)))) w3) :=
        ⟨some ⟨g, 0, none⟩, os.take _, rfl, ((HN.out.below hb3).cut hle).mono HG1.out.1, HI.out _ _ _ HBW.out.2 (hb3.mono (Nat.le_trans HX.out.2.2.2 HBW.out.1.size)), HBW.out.1.trans (Kq.of hb3)⟩
      clear hb3 ht2 hle
      generalize olen ((List.range i).map F) = q at *
      go_wp2
      go_ret
      exact HR'.out
theorem each_idle (p : Addr) (w : World) :
    CallsD Tryz.prog 278 #[.pointer (some p)] .returning w fun e u' w' => e = .returned (.tuple #[]) ∧ u' = .returning ∧ w' = w := by
  refine callsD_of_wpS Tryz.func278 rfl fun c₀ cs hu => ?_
  apply wpS_seq
  apply wpS_region
  simp [wpOpsS, go_sem, recoverD, hu, Tryz.ntmps278, Exit.thenS]
  refine wpS_cond (t := false) (by simp [Act.eval, Array.replicate]) ?_
  simp only [Bool.false_eq_true, if_false]
  refine wpS_of_wp (wp_skip ?_)
  cases c₀
  simp_all [bodyPostS, results, Tryz.results278]
theorem eq_nilO (f : Fn) (a b : Array Value) (w : World) : (binOp .eql 92 (.func f a b) .nilFunc).run Tryz.prog w = .ok (.bool false) w := by
  have h : ∀ d : Nat, (Op.equalIn (d + 1) 92 (.func f a b) .nilFunc).run Tryz.prog w = .ok false w := fun d => by
    simp [Op.equalIn, run_underlying Tryz.underlying92]
  simp only [binOp]
  simp [Op.equal, Op.maxDepth, h 9999]
theorem NO.put {B : Nat} {w : World} {K E : Nat} {l : List (List Int)} {p : Option Addr} {n : Nat} {hs : List Hdr} (h : NO B w K E l p n hs) {b o : Nat} (hb : b < B) (v : Value) : NO B (w.setCell ⟨b, o, none⟩ v) K E l p n hs :=
  ⟨h.el, h.tl, h.hl.same fun a ha _ _ => Below.heap_setCell w ⟨b, o, none⟩ v a.block (by have := h.fr a ha; show a.block ≠ b; omega), h.fr, fun j hj => let ⟨a, c, es, d⟩ := h.ev j hj; ⟨a, c, es, d.put hb v⟩⟩
theorem callEach2 (args : Array Value) (w' : World) : Sem.run Tryz.prog (callFunc 279 args) w' = .ok (.enter 279 args) w' := by
  have h1 : ¬ Tryz.f279.name = "runtime.NumGoroutine" := of_decide_eq_false (by kernel_rfl)
  have h2 : ¬ Tryz.f279.body = none := fun h => by cases h
  simp only [callFunc, Tryz.func279, go_sem]
  simp [h1, h2, go_sem]
set_option maxRecDepth 100000 in
theorem each2M_any {w : World} {lo base g K' : Nat} {J : Nat} {R0 : Value} {hd : Hdr} {z : List Int} {I : World → Prop} (hX : w.cell? ⟨g, 0, none⟩ = some (.func (.func J) #[R0] #[])) (hE0 : ∀ args w', Sem.run Tryz.prog (callFunc J args) w' = .ok (.enter J args) w') (hK : K' ≤ 1000)
    (hI : ∀ w1 w2, I w1 → Below base w1 w2 → I w2) (hbw : base ≤ w.heap.size)
    (hJ : Calls Tryz.prog J #[R0, Hdr.val hd] w fun e w' => ∃ p n c es, e = .returned (.slice p n c) ∧ PA w' K' p n c es z ∧ n ≤ 1000 ∧ I w' ∧ Kq lo base w w') :
    Calls Tryz.prog 279 #[Hdr.val hd, .pointer (some ⟨g, 0, none⟩)] w fun e w' => ∃ p n es, e = .returned (.slice p n n) ∧ PN w.heap.size w' K' p n es (tr z) ∧ I w' ∧ Kq lo base w w' := by
  obtain ⟨p, n, nc⟩ := hd
  simp only [Hdr.val] at hJ ⊢
  have HI := (show Hid _ from hI)
  clear hI
  go_enter Tryz.func279, Tryz.ntmps279
  go_wp2_with fail
  go_fit hJ
  rintro e w1 ⟨p1, n1, c1, es1, rfl, hP, hn1, hI1, hk1⟩
  have hc := uNorm_any K' p1 n1 c1 es1 z w1 hP (by omega) hK
  clear hJ hP
  go_wp2_with fail
  go_fit hc
  rintro e w2 ⟨p2, n2, es2, rfl, hN, hb2⟩
  have HR' : Hid (PN w.heap.size w2 K' p2 n2 es2 (tr z) ∧ I w2 ∧ Kq lo base w w2) := ⟨hN.mono hk1.size, HI.out _ _ hI1 (hb2.mono (Nat.le_trans hbw hk1.size)), hk1.trans (Kq.of hb2)⟩
  clear hc hN hb2 hk1 hI1
  go_wp2
  go_ret
  exact ⟨p2, n2, es2, rfl, HR'.out⟩
set_option maxRecDepth 100000 in
theorem oEachM_gen {w : World} {lo base B T K E D K' E' : Nat} {zss : List (List Int)} {h : Hdr} (H : HR D (EZ K E) w B T zss h) (hT : T ≤ w.heap.size) (hbw : base ≤ w.heap.size) (hD : D ≤ 1000) (hE : E ≤ 1000000) (hK : K ≤ 1000) (hK' : K' ≤ 1000) (hE' : E' ≤ 1000000) (J : Nat) (R0 : Value) (hE0 : ∀ args w', Sem.run Tryz.prog (callFunc J args) w' = .ok (.enter J args) w') (F : Nat → List Int) (I : Nat → World → Prop)
    (hI : ∀ i w1 w2, I i w1 → Below base w1 w2 → I i w2) (hI0 : I 0 w)
    (hJ : ∀ wq i p n es, i < olen zss → Kq lo base w wq → I i wq → PN w.heap.size wq K p n es (tr (gt zss i)) → n ≤ E → Calls Tryz.prog J #[R0, .slice p n n] wq fun e w' => ∃ p n c es, e = .returned (.slice p n c) ∧ PA w' K' p n c es (F i) ∧ n ≤ 1000 ∧ I (i + 1) w' ∧ Kq lo base wq w') (hF : ∀ i, i < olen zss → (F i).length ≤ E') :
    Calls Tryz.prog 205 #[.slice h.p h.n h.c, .func (.func J) #[R0] #[]] w (OpK lo base (I (olen zss)) ((List.range (olen zss)).map fun i => tr (F i)) K' E' w) := by
  have HN := (show Hid _ from fun w' (hb : Below w.heap.size w w') => oNorm_any ((lasts_HR (lasts_EZ K E)).below H hT hb) (Nat.le_trans hT hb.size) hD hE hK)
  have hmf : ∀ (fn : Fn) (first cap : Array Value) (w : World), (Instr.makeFunc fn first cap).run Tryz.prog w = .ok (.func fn first cap) w := fun _ _ _ _ => rfl
  have hnil := eq_nilO
  obtain ⟨p, n, nc⟩ := h
  simp only at HN ⊢
  have hW : Below w.heap.size w ((w.alloc (.cells #[.func (.func J) #[R0] #[]] 92)).alloc (.cells #[.slice none 0 0] 51)) := ((Below.refl _ _).alloc (Nat.le_refl _) _).alloc (by simp) _
  have hF0 : ((w.alloc (.cells #[.func (.func J) #[R0] #[]] 92)).alloc (.cells #[.slice none 0 0] 51)).heap[w.heap.size]? = some (.cells #[.func (.func J) #[R0] #[]] 92 (0, 0)) := by
    rw [Below.heap_alloc _ _ _ (by simp)]
    exact heap_alloc_new w _
  have hO0 : ((w.alloc (.cells #[.func (.func J) #[R0] #[]] 92)).alloc (.cells #[.slice none 0 0] 51)).heap[w.heap.size + 1]? = some (.cells #[.slice none 0 0] 51 (0, 0)) := by
    have := heap_alloc_new (w.alloc (.cells #[.func (.func J) #[R0] #[]] 92)) (.cells #[.slice none 0 0] 51)
    simpa using this
  have HJ := (show Hid _ from hJ)
  have HF := (show Hid _ from hF)
  have HI := (show Hid _ from hI)
  have HH : Hid (olen zss ≤ 1000) := by obtain ⟨_, k⟩ := H; have h1 := olen_le zss; have h2 := k.tl; have h3 := k.few; show _ ≤ _; simp only at h2 h3; omega
  clear hJ hF hI H
  obtain ⟨l, hl⟩ : ∃ l, ((List.range (olen zss)).map fun i => tr (F i)) = l := ⟨_, rfl⟩
  rw [hl]
  have HLL := (show Hid _ from hl)
  clear hl
  go_enter_defers Tryz.func205, Tryz.ntmps205
  go_wp2_with fail
  generalize (w.alloc (.cells #[.func (.func J) #[R0] #[]] 92)).alloc (.cells #[.slice none 0 0] 51) = W at *
  have sW : w.heap.size + 1 < W.heap.size := (Array.getElem?_eq_some_iff.1 hO0).1
  have hc := HN.out W hW
  rw [rng_oz] at hc
  clear HN
  go_fit hc
  rintro e w2 ⟨q, hs, rfl, hNO, hb2⟩
  rw [otr_oz] at hNO
  rw [olen_oz] at hNO
  have HB2 : Hid (Kq lo base w w2) := Kq.of (bnext' hW hb2)
  have hI2 : I 0 w2 := HI.out _ _ _ hI0 ((bnext' hW hb2).mono hbw)
  have hF2 : w2.heap[w.heap.size]? = some (.cells #[.func (.func J) #[R0] #[]] 92 (0, 0)) := (hb2.block _ (by omega)).trans hF0
  have hO2 : w2.heap[w.heap.size + 1]? = some (.cells #[.slice none 0 0] 51 (0, 0)) := (hb2.block _ sW).trans hO0
  have s2 : w.heap.size + 1 < w2.heap.size := (Array.getElem?_eq_some_iff.1 hO2).1
  have hcv := convert_gen (lo := lo) (base := base) (K' := K') (E' := E') (hNO.hrow hK hE (by have := HH.out; omega)) (Nat.le_refl _) (by omega) (by omega) HH.out hE hK' hE' 279 #[.pointer (some ⟨w.heap.size, 0, none⟩)] callEach2 (fun i => tr (F i)) I HI.out hI2 (fun wq i hi hk hIq he => by
      rw [olen_oz] at hi
      obtain ⟨a1, a2, es2, a3⟩ := hNO.ev i hi
      rw [gt_oz] at a3
      have a4 := (a3.kp hk (by omega)).mono (show w.heap.size ≤ W.heap.size by omega)
      have hc1 : wq.cell? ⟨w.heap.size, 0, none⟩ = some (.func (.func J) #[R0] #[]) := by
        rw [World.cell?_of_block (a := ⟨w.heap.size, 0, none⟩) (hk.block _ (show w.heap.size < w2.heap.size by omega) (.inr hbw))]
        simp only [World.cell?]
        rw [hF2]
        rfl
      generalize gh hs i = hd at a1 a2 a4
      obtain ⟨p2, n2, c2⟩ := hd
      simp only at a1 a2 a4
      subst a1
      exact each2M_any hc1 hE0 hK' (fun w1 w2 h1 h2 => HI.out _ w1 w2 h1 h2) (by have := hk.size; omega) (HJ.out wq i p2 c2 es2 hi (HB2.out.trans hk) hIq a4 a2)) (fun i hi => by rw [olen_oz] at hi; rw [length_tr]; exact Nat.le_trans (tlen_le _) (HF.out i hi))
  rw [olen_oz, HLL.out] at hcv
  simp only at hcv
  rw [olen_oz]
  clear hc hNO hb2 hF0 hO0 hF2 hI2 hI0 HJ HF
  go_wp2_with fail
  go_fit hcv
  rintro e w3 ⟨q3, hs3, rfl, hN3, hI3, hk3⟩
  have hO3 : w3.heap[w.heap.size + 1]? = some (.cells #[.slice none 0 0] 51 (0, 0)) := (hk3.block _ s2 (.inr (by omega))).trans hO2
  have z0 : w3.cell? ⟨w.heap.size + 1, 0, none⟩ = some (.slice none 0 0) := by
    simp only [World.cell?]
    rw [hO3]
    rfl
  have f0 : w3.frozen? ⟨w.heap.size + 1, 0, none⟩ = false := frozen_of_row w3 _ _ _ _ hO3
  have s3 := hk3.size
  have HR' : Hid (OpK lo base (I (olen zss)) l K' E' w (.returned (.slice q3 (olen l) (olen l))) (w3.setCell ⟨w.heap.size + 1, 0, none⟩ (.slice q3 (olen l) (olen l)))) :=
    ⟨q3, hs3, rfl, (hN3.put s2 _).mono (by omega), HI.out _ _ _ hI3 ((Below.refl base w3).setCell (p := ⟨w.heap.size + 1, 0, none⟩) (by show base ≤ w.heap.size + 1; omega) _), (HB2.out.trans hk3).put ⟨w.heap.size + 1, 0, none⟩ _ (.inr (by show w.heap.size ≤ w.heap.size + 1; omega))⟩
  clear hcv hN3 hI3 hk3 hO2
  generalize olen l = m at *
  go_wp2
  refine leaves_cons (f := 278) (args := #[.pointer (some ⟨w.heap.size + 1, 0, none⟩)]) (by simp) (by simp [go_sem]) ?_
  refine (each_idle ⟨w.heap.size + 1, 0, none⟩ _).mono ?_
  rintro e u' w'' ⟨rfl, rfl, rfl⟩
  have z1 : (w3.setCell ⟨w.heap.size + 1, 0, none⟩ (.slice q3 m m)).cell? ⟨w.heap.size + 1, 0, none⟩ = some (.slice q3 m m) := by simp [go_sem, z0]
  have HR2 := HR'.out
  simp [Leaves, settle, results, Tryz.results205, go_sem, z0]
  exact HR2
def lft (G : World → Prop) (H : Code → World → Prop) : Exit → Act → World → Prop
  | .normal, _, V => G V
  | .ret, _, V => H .ret V
  | .exit i, _, V => H (.exit i) V
  | .goto t, _, V => H (.goto t) V
  | .panic _, _, _ => False
  | .outgrown, _, _ => False
theorem lft_mono {G G' : World → Prop} {H H' : Code → World → Prop} (hG : ∀ V, G V → G' V) (hH : ∀ c V, H c V → H' c V) : ∀ e a V, lft G H e a V → lft G' H' e a V := by
  intro e a V h
  cases e with
  | normal => exact hG V h
  | ret => exact hH _ V h
  | exit i => exact hH _ V h
  | goto t => exact hH _ V h
  | panic c => exact h.elim
  | outgrown => exact h.elim
theorem yield_told {F : Fence} {m : Nat} {P : Program} {l : Nat} {r : Loop} {args : Array Value} {W : World} {R : Ending → World → Prop} (hF : F.fn r.fn) (hl : W.heap[l]? = some (.loop r)) (hr : r.state = .ready) (hs : args.size = r.params.size)
    (hA : r.assign.wpIn (F.inRound l) m P (Exit.then (fun a₁ V => V.heap[l]? = some (.loop r) ∧ r.body.wpIn (F.inRound l) m P
        (lft (fun U => U.heap[l]? = some (.loop { r with state := .busy }) ∧ R (.returned (.bool true)) (U.putObj l (.loop { r with state := .ready, pending := none })))
          fun c U => U.heap[l]? = some (.loop { r with state := .busy }) ∧ R (.returned (.bool false)) (U.putObj l (.loop { r with state := .done, pending := some c })))
        a₁ (V.putObj l (.loop { r with state := .busy }))) fun _ _ _ => False) { tmps := (r.params.zip args).foldl (fun t (p, v) => t.setIfInBounds p v) r.tmps, defers := [] } W) :
    YieldAt F m P l args W R := by
  refine ⟨_, _, _, _, run_yield hl hs, roundIn_of_wpIn hF (wpIn_mono hA ?_)⟩
  intro e a V h
  cases e with
  | normal =>
    obtain ⟨hV, hB⟩ := h
    refine ⟨_, run_beginRound hV hr, wpIn_mono hB ?_⟩
    intro e a U h
    cases e with
    | normal => exact ⟨_, _, run_endRound none h.1, h.2⟩
    | ret => exact ⟨_, _, run_endRound (some .ret) h.1, h.2⟩
    | exit i => exact ⟨_, _, run_endRound (some (.exit i)) h.1, h.2⟩
    | goto t => exact ⟨_, _, run_endRound (some (.goto t)) h.1, h.2⟩
    | panic c => exact h.elim
    | outgrown => exact h.elim
  | ret => exact h.elim
  | exit i => exact h.elim
  | goto t => exact h.elim
  | panic c => exact h.elim
  | outgrown => exact h.elim
theorem range_lay {F : Fence} {n : Nat} {P : Program} {g : Operand} {ps : Array Tmp} {assign body : Code} {Q : Exit → Act → World → Prop} {a : Act} {w : World} (hro : F.round = none) (h1 : 1 ≤ n) {gf : Nat} {lb : Array Value}
    (hg : a.eval g = .func (.func gf) #[] lb) (hFg : F.fn gf) (eg : ∀ args w, (callFunc gf args).run P w = .ok (.enter gf args) w)
    (h : ∀ r : Loop, F.fn r.fn → r.state = .ready → r.pending = none → r.tmps = a.tmps → r.params = ps → r.assign = assign → r.body = body →
      CallsIn F (n - 1) P gf (#[.func (.yield (w.heap.size + 1)) #[] #[]] ++ lb) ((w.alloc (.deferred (some []))).alloc (.loop r)) fun e V => (∃ v, e = .returned v) ∧ ∃ s : Loop, V.heap[w.heap.size + 1]? = some (.loop s) ∧ s.state ≠ .busy ∧
        ((s.pending = none ∧ Q .normal { a with defers := { target := .collected w.heap.size, args := #[] } :: a.defers } (V.putObj (w.heap.size + 1) (.loop { s with state := .exhausted }))) ∨
         ∃ c, s.pending = some c ∧ c.wpIn F n P Q { a with defers := { target := .collected w.heap.size, args := #[] } :: a.defers } (V.putObj (w.heap.size + 1) (.loop { s with state := .exhausted })))) :
    (Code.rangeFunc g ps assign body).wpIn F n P Q a w := by
  refine wpIn_rangeFunc fun fn hfn => ?_
  rw [hro]
  obtain ⟨W1, hW1⟩ : ∃ W1, W1 = (w.alloc (.deferred (some []))).alloc (.loop { state := .ready, pending := none, fn, tmps := a.tmps, params := ps, assign, body, defers := w.heap.size }) := ⟨_, rfl⟩
  refine ⟨_, _, W1, { target := .fn (.func gf) lb, args := #[.func (.yield (w.heap.size + 1)) #[] #[]] }, W1, gf, _, W1, hW1 ▸ run_enterLoop_outer fn a.tmps ps assign body, ?res, ?leads, ?inv, fun _ => h1, (hW1 ▸ h { state := .ready, pending := none, fn, tmps := a.tmps, params := ps, assign, body, defers := w.heap.size } hfn rfl rfl rfl rfl rfl rfl : CallsIn ..).mono ?fin⟩
  case res => simp only [resolve, hg]; simp [go_sem]
  case leads => intro f e; simp [Target.leads] at e; subst e; exact hFg
  case inv => simp [invoke, go_sem, eg]
  case fin =>
    rintro e V ⟨⟨v, rfl⟩, s, hs, hb, hq⟩
    refine ⟨_, _, run_endLoop hs hb, ?_⟩
    rcases hq with ⟨hp, hq⟩ | ⟨c, hp, hq⟩ <;> rw [hp] at hq ⊢ <;> exact hq
open Go.RowKit Go.Shelf
attribute [local go_sem] Oper.semAt_some
def idx (zs : List Int) (k : Nat) : List Nat := (List.range k).filter fun j => gx zs j ≠ 0
theorem idx_succ (zs : List Int) (k : Nat) : idx zs (k + 1) = if gx zs k = 0 then idx zs k else idx zs k ++ [k] := by
  unfold idx
  rw [List.range_succ, List.filter_append]
  split
  · rename_i h; simp [h]
  · rename_i h; simp [h]
theorem idx_len (zs : List Int) (k : Nat) : (idx zs k).length ≤ k := by
  unfold idx
  exact Nat.le_trans (List.length_filter_le _ _) (by simp)
attribute [local go_sem] Oper.semAt_some
def Told (zs : List Int) (len K B : Nat) (pre : List (Nat × Ent)) (x : Nat × Ent) (W : World) : Prop := pre.map (·.1) = idx zs x.1 ∧ x.1 < len ∧ ¬ gx zs x.1 = 0 ∧ NV B W K (gx zs x.1) x.2
theorem Rd.held {W W' : World} {row : Option Nat} {p : Option Addr} {k : IntKind} {xs : List Int} (h : Rd W p k xs) (hg : W.grownBy W' row) (hr : ∀ r, row = some r → ∃ o : Obj, W.heap[r]? = some o ∧ o.isCells = false) : Rd W' p k xs := fun hp => by
  obtain ⟨b, o, e, hc⟩ := h hp
  exact ⟨b, o, e, fun j hj => cell_kept (hc j hj) hg hr⟩
theorem NV.held {W W' : World} {row : Option Nat} {B K : Nat} {z : Int} {e : Ent} (h : NV B W K z e) (hg : W.grownBy W' row) (hr : ∀ r, row = some r → ∃ o : Obj, W.heap[r]? = some o ∧ o.isCells = false) : NV B W' K z e := by
  obtain ⟨xs, h1, h2⟩ := h
  refine ⟨xs, ⟨h1.len, h1.rd.held hg hr, h1.u, h1.nrm, h1.sg, h1.pn, h1.v, h1.fr, h1.fz.kept hg fun a ha e' => ?_⟩, h2⟩
  obtain ⟨o, ho, hc⟩ := hr a.block e'.symm
  rcases Nat.eq_zero_or_pos e.n with hn | hn
  · rw [h1.pn hn] at ha; cases ha
  · obtain ⟨b, off, hp, hcl⟩ := h1.rd (by rw [h1.len]; exact hn)
    rw [hp] at ha; cases ha
    obtain ⟨o', ho', hc'⟩ := cells_of_cell (hcl 0 (by rw [h1.len]; exact hn))
    rw [ho] at ho'; cases ho'; rw [hc] at hc'; cases hc'
theorem told_own (B : Nat) (zs : List Int) (len K B0 : Nat) (pre : List (Nat × Ent)) (x : Nat × Ent) : OwnFrom B fun (_ : Unit) W => Told zs len K B0 pre x W := fun _ W W' row h hg hr => ⟨h.1, h.2.1, h.2.2.1, h.2.2.2.held hg fun r e => (hr r e).2⟩
end Go.Proofs.YtejnhpjejcpekaaGreatDoor
