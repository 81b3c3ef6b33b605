/-
  Operators that are answered; ore.convert, Norm.
-/
import Derived.Test.YtejnhpjejcpekaaGreatDoorDpAaAbDnDo
import Derived.Deep.DeepFit
import Derived.Test.YtejnhpjejcpekaaGreatDoorOaOfJpRzCwDjVkJoNcOn
import Derived.Test.YtejnhpjejcpekaaGreatDoorCyViVuWxUpUqRmRpDkDlDbRiRjRgRkVqDcUmUoDmDvPmHuVsVtVy
import Derived.Test.YtejnhpjejcpekaaGreatDoorFyUjBsLeUk
namespace Go.Proofs.YtejnhpjejcpekaaGreatDoor
open Go.RowKit
set_option linter.unusedVariables false
set_option linter.unusedSimpArgs false
set_option maxHeartbeats 8000000
theorem info_ops : (Tryz.prog.info? 23).map (fun i => (i.zero, i.size, i.bytes)) = some (some (.slice none 0 0), 1, 24) := by kernel_rfl
theorem mk_ops (n : Nat) (h : n ≤ 1000000000) (w : World) : (Instr.makeSlice 51 (.int .i64 n) (.int .i64 n)).run Tryz.prog w =
    .ok (.slice (some ⟨w.heap.size, 0, none⟩) n n) (w.alloc (.cells ((hzs n).map Hdr.val).toArray 23)) := by
  have hi := info_ops
  cases hq : Tryz.prog.info? 23 with
  | none => rw [hq] at hi; cases hi
  | some i =>
    rw [hq] at hi
    simp only [Option.map_some, Option.some.injEq, Prod.mk.injEq] at hi
    obtain ⟨h1, h2, h3⟩ := hi
    have hr := run_make (P := Tryz.prog) w 51 23 i (.slice none 0 0) Tryz.underlying51 hq h1 .i64 .i64 n n (by omega) (Int.le_refl _) (by rw [h3]; omega) (by omega)
    rw [Int.toNat_natCast, h2, Nat.mul_one] at hr
    rw [hr]
    exact congrArg (fun c => Result.ok (Value.slice (some ⟨w.heap.size, 0, none⟩) n n) (w.alloc (.cells c 23))) (made_hz n)
theorem ez_of_pn {B : Nat} {w : World} {K E : Nat} {p : Option Addr} {n : Nat} {es : List Ent} {zs : List Int} (h : PN B w K p n es zs) (hK : K ≤ 1000) (hn : n ≤ E) (hE : E ≤ 1000000) : EZ K E w B w.heap.size zs ⟨p, n, n⟩ := by
  refine ⟨es, h.pa hK (by omega), hn, fun a ha h0 => ⟨h.fr a ha, ?_⟩, fun j hj h0 a ha => ⟨?_, (lasts_EV K).lt ((h.ev j hj).ev hK) h0 a ha⟩⟩
  · obtain ⟨b, o, hp, hlt⟩ := h.pl.lt (by rw [h.el]; exact h0)
    simp only at ha
    rw [hp] at ha
    cases ha
    exact hlt
  · obtain ⟨xs, k, -⟩ := h.ev j hj
    exact k.fr a ha
structure NO (B : Nat) (w : World) (K E : Nat) (l : List (List Int)) (p : Option Addr) (n : Nat) (hs : List Hdr) : Prop where
  el : hs.length = n
  tl : l.length = n
  hl : HL w p hs
  fr : Go.Proofs.YtejnhpjejcpekaaGreatDoor.From B p
  ev : ∀ j, j < n → (gh hs j).c = (gh hs j).n ∧ (gh hs j).n ≤ E ∧ ∃ es, PN B w K (gh hs j).p (gh hs j).n es (gt l j)
theorem NO.below {B : Nat} {w w' : World} {K E : Nat} {l : List (List Int)} {p : Option Addr} {n : Nat} {hs : List Hdr} (h : NO B w K E l p n hs) (hb : Below w.heap.size w w') : NO B w' K E l p n hs :=
  ⟨h.el, h.tl, h.hl.below hb, h.fr, fun j hj => let ⟨a, b, es, c⟩ := h.ev j hj; ⟨a, b, es, c.below hb⟩⟩
theorem NO.cut {B : Nat} {w : World} {K E : Nat} {l : List (List Int)} {p : Option Addr} {n m : Nat} {hs : List Hdr} (h : NO B w K E l p n hs) (hm : m ≤ n) : NO B w K E (l.take m) p m (hs.take m) := by
  refine ⟨by have := h.el; simp; omega, by have := h.tl; simp; omega, fun hp => ?_, h.fr, fun j hj => ?_⟩
  · have hl : 0 < m ∧ 0 < hs.length := by simp at hp; omega
    obtain ⟨b, o, hb, hc⟩ := h.hl hl.2
    refine ⟨b, o, hb, fun j hj => ?_⟩
    have hj' : j < m ∧ j < hs.length := by simp at hj; omega
    rw [gh_take _ _ _ hj'.1]
    exact hc j hj'.2
  · rw [gh_take _ _ _ hj, gt_take _ _ _ hj]
    exact h.ev j (by omega)
theorem NO.hr {B : Nat} {w : World} {K E : Nat} {l : List (List Int)} {p : Option Addr} {n : Nat} {hs : List Hdr} (h : NO B w K E l p n hs) (hK : K ≤ 1000) (hE : E ≤ 1000000) (hn : n ≤ 1000000) : HR n (EZ K E) w B w.heap.size l ⟨p, n, n⟩ := by
  refine ⟨hs, h.el, h.tl, Nat.le_refl _, by show n ≤ maxLen; unfold maxLen; omega, fun e => ?_, Nat.le_refl _, h.hl, fun a ha h0 => ⟨h.fr a ha, ?_⟩, fun j hj => ?_⟩
  · rcases Nat.eq_zero_or_pos n with h0 | h0
    · exact h0
    · obtain ⟨b, o, hb, -⟩ := h.hl (by rw [h.el]; exact h0)
      simp only at e
      rw [hb] at e
      cases e
  · obtain ⟨b, o, hb, hc⟩ := h.hl (by rw [h.el]; exact h0)
    simp only at ha
    rw [hb] at ha
    cases ha
    exact block_lt_of_cell (hc 0 (by rw [h.el]; exact h0))
  · obtain ⟨a, b, es, c⟩ := h.ev j hj
    have h1 := ez_of_pn c hK b hE
    have e : (⟨(gh hs j).p, (gh hs j).n, (gh hs j).n⟩ : Hdr) = gh hs j := by
      generalize gh hs j = x at a
      obtain ⟨x1, x2, x3⟩ := x
      simp only at a
      rw [a]
    rw [e] at h1
    exact h1
def otr (l : List (List Int)) : List (List Int) := l.take (olen l)
def OpP (l : List (List Int)) (K E : Nat) (w : World) (e : Ending) (w' : World) : Prop :=
  ∃ p hs, e = .returned (.slice p (olen l) (olen l)) ∧ NO w.heap.size w' K E (otr l) p (olen l) hs ∧ Below w.heap.size w w'
def CB (F : Nat → List Int) (K E g n i : Nat) (w wr : World) : Prop :=
  ∃ hs : List Hdr, HB wr g hs ∧ hs.length = n ∧ (∀ r, r < i → (gh hs r).c = (gh hs r).n ∧ (gh hs r).n ≤ E ∧ ∃ es, PN (g + 1) wr K (gh hs r).p (gh hs r).n es (F r)) ∧ Below w.heap.size w wr ∧ w.heap.size ≤ g
theorem CB.step {F : Nat → List Int} {K E g n i : Nat} {w wr v3 : World} {p3 : Option Addr} {n3 : Nat} {es3 : List Ent} (h : CB F K E g n i w wr) (hi : i < n) (hv : Below wr.heap.size wr v3) (hN : PN (g + 1) v3 K p3 n3 es3 (F i)) (hE : n3 ≤ E) : CB F K E g n (i + 1) w (v3.setCell ⟨g, i, none⟩ (.slice p3 n3 n3)) := by
  obtain ⟨hs, h1, h2, h3, h4, h5⟩ := h
  refine ⟨hs.set i ⟨p3, n3, n3⟩, (h1.below hv h1.lt).set i ⟨p3, n3, n3⟩, by simp [h2], fun r hr => ?_, (h4.trans (hv.mono h4.size)).setCell (p := ⟨g, i, none⟩) h5 _, h5⟩
  rw [gh_set _ _ _ _ (by omega)]
  by_cases e : r = i
  · subst e
    rw [if_pos rfl]
    exact ⟨rfl, hE, es3, hN.put (Nat.lt_succ_self g) _⟩
  · rw [if_neg e]
    obtain ⟨a, b, es, c⟩ := h3 r (by omega)
    exact ⟨a, b, es, (c.below hv).put (Nat.lt_succ_self g) _⟩
theorem CB.no {F : Nat → List Int} {K E g n : Nat} {w wr : World} (h : CB F K E g n n w wr) : ∃ hs, NO g wr K E ((List.range n).map F) (some ⟨g, 0, none⟩) n hs := by
  obtain ⟨hs, h1, h2, h3, h4, h5⟩ := h
  refine ⟨hs, h2, by simp, fun hp => ⟨g, 0, rfl, fun j hj => by rw [Nat.zero_add]; exact h1.cell j hj⟩, fun a ha => by cases ha; exact Nat.le_refl _, fun j hj => ?_⟩
  obtain ⟨a, b, es, c⟩ := h3 j hj
  refine ⟨a, b, es, ?_⟩
  have e : gt ((List.range n).map F) j = F j := by simp [gt, hj]
  rw [e]
  exact c.mono (Nat.le_succ g)
theorem NO.mono {B B' : Nat} {w : World} {K E : Nat} {l : List (List Int)} {p : Option Addr} {n : Nat} {hs : List Hdr} (h : NO B w K E l p n hs) (hB : B' ≤ B) : NO B' w K E l p n hs :=
  ⟨h.el, h.tl, h.hl, fun a ha => Nat.le_trans hB (h.fr a ha), fun j hj => let ⟨a, b, es, c⟩ := h.ev j hj; ⟨a, b, es, c.mono hB⟩⟩
set_option maxRecDepth 100000 in
theorem convert_any {w : World} {B T K E D K' E' : Nat} {zss : List (List Int)} {h : Hdr} (H : HR D (EZ K E) w B T zss h) (hT : T ≤ w.heap.size) (hD : D ≤ 1000) (hE : E ≤ 1000000) (hK' : K' ≤ 1000) (hE' : E' ≤ 1000000) (J : Nat) (C : Array Value) (hE0 : ∀ args w', Sem.run Tryz.prog (callFunc J args) w' = .ok (.enter J args) w') (F : List Int → List Int)
    (hJ : ∀ wq i hd, i < olen zss → Below w.heap.size w wq → EZ K E wq B T (gt zss i) hd → Calls Tryz.prog J (#[Hdr.val hd] ++ C) wq (PnP (F (gt zss i)) K' wq)) (hF : ∀ i, i < olen zss → (F (gt zss i)).length ≤ E') :
    Calls Tryz.prog 122 #[.slice h.p h.n h.c, .func (.func J) #[] C] w (OpP ((List.range (olen zss)).map fun i => F (gt zss i)) K' E' w) := by
  have ht := otrim_any H hT (by omega) hE
  obtain ⟨hs, k⟩ := H
  have hol := olen_le zss
  have hn : olen zss ≤ D := by have h1 := k.tl; have h2 := k.few; omega
  have HX : Hid (HRow D (EZ K E) w B T (zss.take (olen zss)) ⟨h.p, olen zss, olen zss⟩ (hs.take (olen zss)) ∧ T ≤ w.heap.size) := ⟨k.cut _ (by have := k.tl; omega), hT⟩
  obtain ⟨p, n, nc⟩ := h
  simp only at ht HX ⊢
  have HJ := (show Hid _ from hJ)
  have HF := (show Hid _ from hF)
  clear hJ hF k hT
  generalize hm : olen zss = m at *
  have hmk := mk_ops m (by omega)
  go_enter Tryz.func122, Tryz.ntmps122
  go_wp2_with fail
  go_fit ht
  rintro e w1 ⟨rfl, hb1⟩
  have HB1 : Hid (Below w.heap.size w w1) := hb1
  clear ht hb1
  go_wp2_with fail
  have HO : Hid (CB (fun i => F (gt zss i)) K' E' w1.heap.size m 0 w (w1.alloc (.cells ((hzs m).map Hdr.val).toArray 23))) :=
    ⟨hzs m, heap_alloc_new w1 _, by simp [hzs], fun r hr => absurd hr (Nat.not_lt_zero r), HB1.out.alloc HB1.out.size _, HB1.out.size⟩
  have HG1 : Hid (w.heap.size ≤ w1.heap.size) := HB1.out.size
  generalize w1.alloc (.cells ((hzs m).map Hdr.val).toArray 23) = W1 at *
  generalize w1.heap.size = g at *
  clear hmk HB1
  go_loopw [15] (fun kv wr => ∃ i : Nat, i ≤ m ∧ kv = .int .i64 i ∧ Hid (CB (fun i => F (gt zss i)) K' E' g m i w wr)) (fun kv _ => m - (intOf kv).toNat)
  case atStart => exact ⟨0, Nat.zero_le _, by go_num, HO.out⟩
  case round =>
    obtain ⟨i, hi, rfl, G⟩ := hrel
    rcases Nat.lt_or_ge i m with hlt | hge
    · obtain ⟨os, g1, g2, g3, g4, g5⟩ := G.out
      have i1 : (i : Int) < (m : Int) := by omega
      obtain ⟨b, o, hp, hc⟩ := HX.out.1.hl (by rw [HX.out.1.el]; show 0 < m; omega)
      simp only at hp
      subst hp
      have c0 := hc i (by rw [HX.out.1.el]; exact hlt)
      have c1 : wr.cell? ⟨b, o + i, none⟩ = some (gh (hs.take m) i).val := by rw [g4.cell (block_lt_of_cell c0)]; exact c0
      have hE2 := (lasts_EZ K E).below (HX.out.1.ev i hlt) HX.out.2 g4
      rw [gt_take _ _ _ hlt] at hE2
      generalize gh (hs.take m) i = hd at c1 hE2
      obtain ⟨p2, n2, nc2⟩ := hd
      have hcall := HJ.out wr i ⟨p2, n2, nc2⟩ hlt g4 hE2
      simp only [Hdr.val] at c1 hcall
      have hg1 := g1
      have hlg := g1.lt
      clear hc c0 hE2 g1 g3
      go_wp2_with fail
      go_fit hcall
      rintro e v3 ⟨p8, n8, es8, rfl, hN8, hb3⟩
      have z0 := (hg1.below hb3 hlg).cell i (by omega)
      have f0 := (hg1.below hb3 hlg).frozen i
      have hle : n8 ≤ E' := by have h1 := HF.out i hlt; rw [hN8.zl] at h1; exact h1
      have hstep := G.out.step hlt hb3 (hN8.mono hlg) hle
      have HST := (show Hid _ from hstep)
      clear hstep hN8 hb3 hcall c1
      go_wp2
      go_roundw
      case rel => exact ⟨i + 1, by omega, by go_num, HST.out⟩
      case measure => simp [intOf]; omega
    · obtain rfl : i = m := by omega
      have i1 : ¬ (i : Int) < (i : Int) := by omega
      obtain ⟨os, hN⟩ := G.out.no
      have HBW : Hid (Below w.heap.size w wr) := by obtain ⟨_, _, _, _, h4, _⟩ := G.out; exact h4
      have ht2 := otrim_any (hN.hr hK' hE' (by omega)) (Nat.le_refl _) (by omega) hE'
      have HN : Hid (NO g wr K' E' ((List.range i).map fun i => F (gt zss i)) (some ⟨g, 0, none⟩) i os) := hN
      simp only at ht2
      clear hN G
      go_wp2_with fail
      go_fit ht2
      rintro e w3 ⟨rfl, hb3⟩
      have hle := olen_le ((List.range i).map fun i => F (gt zss i))
      rw [List.length_map, List.length_range] at hle
      have HR' : Hid (OpP ((List.range i).map fun i => F (gt zss i)) K' E' w (.returned (.slice (some ⟨g, 0, none⟩) (olen ((List.range i).map fun i => F (gt zss i))) (olen ((List.range i).map fun i => F (gt zss i))))) w3) :=
        ⟨some ⟨g, 0, none⟩, os.take _, rfl, ((HN.out.below hb3).cut hle).mono HG1.out, bnext' HBW.out hb3⟩
      clear hb3 ht2 hle
      generalize olen ((List.range i).map fun i => F (gt zss i)) = q at *
      go_wp2
      go_ret
      exact HR'.out
theorem callNorm (args : Array Value) (w' : World) : Sem.run Tryz.prog (callFunc 48 args) w' = .ok (.enter 48 args) w' := by
  have h1 : ¬ Tryz.f48.name = "runtime.NumGoroutine" := of_decide_eq_false (by kernel_rfl)
  have h2 : ¬ Tryz.f48.body = none := fun h => by cases h
  simp only [callFunc, Tryz.func48, go_sem]
  simp [h1, h2, go_sem]
theorem oNorm_any {w : World} {B T K E D : Nat} {zss : List (List Int)} {h : Hdr} (H : HR D (EZ K E) w B T zss h) (hT : T ≤ w.heap.size) (hD : D ≤ 1000) (hE : E ≤ 1000000) (hK : K ≤ 1000) :
    Calls Tryz.prog 228 #[.slice h.p h.n h.c] w (OpP ((List.range (olen zss)).map fun i => tr (gt zss i)) K E w) := by
  have hlen : ∀ i, (gt zss i).length ≤ E := fun i => by
    obtain ⟨rs, hr⟩ := H
    rcases Nat.lt_or_ge i zss.length with hk | hk
    · obtain ⟨fs, hP, hd, -⟩ := hr.ev i (by rw [← hr.tl]; exact hk)
      rw [hP.zl]
      exact hd
    · rw [gt_over0 _ _ hk]
      exact Nat.zero_le _
  have hc := convert_any (K' := K) (E' := E) H hT hD hE hK hE 48 #[] callNorm tr (fun wq i hd hi hb he => by
    obtain ⟨fs, hP, hd3, -⟩ := he
    exact uNorm_any K hd.p hd.n hd.c fs (gt zss i) wq hP (by omega) hK) (fun i hi => by rw [length_tr]; exact Nat.le_trans (tlen_le _) (hlen i))
  clear hlen
  obtain ⟨p, n, nc⟩ := h
  simp only at hc ⊢
  go_enter Tryz.func228, Tryz.ntmps228
  go_wp2_with fail
  go_fit hc
  rintro e w1 ⟨q, hs, rfl, h1, h2⟩
  have HR' : Hid (OpP ((List.range (olen zss)).map fun i => tr (gt zss i)) K E w (.returned (.slice q (olen ((List.range (olen zss)).map fun i => tr (gt zss i))) (olen ((List.range (olen zss)).map fun i => tr (gt zss i))))) w1) := ⟨q, hs, rfl, h1, h2⟩
  clear hc h1 h2
  generalize olen ((List.range (olen zss)).map fun i => tr (gt zss i)) = m at *
  go_wp2
  go_ret
  exact HR'.out
theorem mulp_le (zs ys : List Int) : (mulp zs ys).length ≤ zs.length + ys.length := by
  unfold mulp
  split
  · simp
  · rw [length_mulz]; omega
theorem hr_len {w : World} {B T K E D : Nat} {zss : List (List Int)} {h : Hdr} (H : HR D (EZ K E) w B T zss h) (i : Nat) : (gt zss i).length ≤ E := by
  obtain ⟨rs, hr⟩ := H
  rcases Nat.lt_or_ge i zss.length with hk | hk
  · obtain ⟨fs, hP, hd, -⟩ := hr.ev i (by rw [← hr.tl]; exact hk)
    rw [hP.zl]
    exact hd
  · rw [gt_over0 _ _ hk]
    exact Nat.zero_le _
theorem cell_later' {w w' : World} {a : Addr} {v : Value} (hb : Below w.heap.size w w') (h : w.cell? a = some v) : w'.cell? a = some v := by
  rw [hb.cell (block_lt_of_cell h)]
  exact h
theorem oOrder_any {w : World} {B T K E D : Nat} {zss : List (List Int)} {h : Hdr} (H : HR D (EZ K E) w B T zss h) (hT : T ≤ w.heap.size) (hD : D ≤ 1000000) (hE : E ≤ 1000000) :
    Calls Tryz.prog 32 #[.slice h.p h.n h.c] w fun e w' => e = .returned (.int .i64 ((olen zss : Int) - 1)) ∧ Below w.heap.size w w' := by
  have ht := otrim_any H hT hD hE
  have hl : olen zss ≤ 1000000 := by
    obtain ⟨hs, k⟩ := H
    have h1 := olen_le zss
    have h2 := k.tl
    have h3 := k.few
    omega
  obtain ⟨p, n, nc⟩ := h
  simp only at ht ⊢
  clear H hT
  generalize olen zss = m at *
  have v1 : IntKind.i64.wrap ((m : Int) - 1) = (m : Int) - 1 := by rw [IntKind.wrap_i64]; omega
  go_enter Tryz.func32, Tryz.ntmps32
  go_wp2_with fail
  go_fit ht
  rintro e w1 ⟨rfl, hb⟩
  clear ht
  go_wp2
  go_ret
  exact ⟨by simp [go_sem, v1], hb⟩
def odeg (zss : List (List Int)) : Int := zss.foldl (fun m z => max m ((tlen z : Int) - 1)) (-1)
def obit (zss : List (List Int)) : Nat := zss.foldl (fun m z => max m (pb z)) 0
theorem odeg_take (zss : List (List Int)) (j : Nat) (h : j < zss.length) : odeg (zss.take (j + 1)) = max (odeg (zss.take j)) ((tlen (gt zss j) : Int) - 1) := by
  unfold odeg
  rw [List.take_succ_eq_append_getElem h, List.foldl_append]
  simp [gt, h]
theorem obit_take (zss : List (List Int)) (j : Nat) (h : j < zss.length) : obit (zss.take (j + 1)) = max (obit (zss.take j)) (pb (gt zss j)) := by
  unfold obit
  rw [List.take_succ_eq_append_getElem h, List.foldl_append]
  simp [gt, h]
def oz (zss : List (List Int)) : List (List Int) := (zss.take (olen zss)).map tr
theorem length_oz (z : List (List Int)) : (oz z).length = olen z := by
  have := olen_le z
  simp [oz]
  omega
theorem tr_zero {a : List Int} (h : tlen a = 0) : tr a = [] := by
  rw [tr, h]
  rfl
theorem gt_oz (z : List (List Int)) (j : Nat) : gt (oz z) j = tr (gt z j) := by
  rcases Nat.lt_or_ge j (olen z) with h | h
  · have h1 : j < z.length := Nat.lt_of_lt_of_le h (olen_le z)
    simp [oz, gt, h, h1]
  · rw [gt_over0 _ _ (by rw [length_oz]; exact h), tr_zero (olen_zero z j h)]
theorem olen_tlen {a b : List (List Int)} (h : ∀ j, tlen (gt a j) = tlen (gt b j)) : olen a = olen b := by
  refine olen_eq a (olen b) (fun j hj => by rw [h j]; exact olen_zero b j hj) ?_
  rcases Nat.eq_zero_or_pos (olen b) with h0 | h0
  · exact .inl h0
  · refine .inr ?_
    rw [h]
    intro e
    have h1 := tlen_top (b.map fun z => (tlen z : Int)) h0
    rw [gx_tlens] at h1
    apply h1
    show (tlen (gt b (olen b - 1)) : Int) = 0
    rw [e]
    rfl
theorem olen_oz (z : List (List Int)) : olen (oz z) = olen z := olen_tlen fun j => by rw [gt_oz, tlen_tr]
theorem otr_oz (z : List (List Int)) : otr (oz z) = oz z := by rw [otr, olen_oz, List.take_of_length_le (by rw [length_oz]; exact Nat.le_refl _)]
theorem odeg_low (zss : List (List Int)) : ∀ j, j ≤ zss.length → -1 ≤ odeg (zss.take j) := by
  intro j
  induction j with
  | zero => intro _; simp [odeg]
  | succ j ih =>
    intro hj
    have h1 := ih (by omega)
    rw [odeg_take zss j (by omega)]
    omega
theorem odeg_oz (z : List (List Int)) : odeg (oz z) = odeg z := by
  have key : ∀ j, odeg ((oz z).take j) = odeg (z.take j) := by
    intro j
    induction j with
    | zero => rfl
    | succ j ih =>
      rcases Nat.lt_or_ge j (olen z) with h | h
      · rw [odeg_take _ j (by rw [length_oz]; exact h), odeg_take _ j (Nat.lt_of_lt_of_le h (olen_le z)), ih, gt_oz, tlen_tr]
      · rw [List.take_of_length_le (by rw [length_oz]; omega)] at ih ⊢
        rcases Nat.lt_or_ge j z.length with h1 | h1
        · have h2 : -1 ≤ odeg (z.take j) := by
            have hb := odeg_low z j (by omega)
            exact hb
          rw [odeg_take _ j h1, ih, olen_zero z j h]
          simp only [Int.natCast_zero]
          omega
        · rw [List.take_of_length_le (by omega)] at ih ⊢
          exact ih
  have := key (max z.length (oz z).length)
  rw [List.take_of_length_le (by omega), List.take_of_length_le (by omega)] at this
  exact this
theorem obit_oz (z : List (List Int)) : obit (oz z) = obit z := by
  have key : ∀ j, obit ((oz z).take j) = obit (z.take j) := by
    intro j
    induction j with
    | zero => rfl
    | succ j ih =>
      rcases Nat.lt_or_ge j (olen z) with h | h
      · rw [obit_take _ j (by rw [length_oz]; exact h), obit_take _ j (Nat.lt_of_lt_of_le h (olen_le z)), ih, gt_oz, pb_trim]
      · rw [List.take_of_length_le (by rw [length_oz]; omega)] at ih ⊢
        rcases Nat.lt_or_ge j z.length with h1 | h1
        · have h2 : pb (gt z j) = 0 := by
            rw [← pb_trim, tr_zero (olen_zero z j h)]
            rfl
          rw [obit_take _ j h1, ih, h2]
          omega
        · rw [List.take_of_length_le (by omega)] at ih ⊢
          exact ih
  have := key (max z.length (oz z).length)
  rw [List.take_of_length_le (by omega), List.take_of_length_le (by omega)] at this
  exact this
theorem odeg_bd {E : Nat} (zss : List (List Int)) (h : ∀ j, (gt zss j).length ≤ E) : ∀ j, j ≤ zss.length → -1 ≤ odeg (zss.take j) ∧ odeg (zss.take j) ≤ E := by
  intro j
  induction j with
  | zero => intro _; simp [odeg]
  | succ j ih =>
    intro hj
    have h1 := ih (by omega)
    have h2 := h j
    have h3 := tlen_le (gt zss j)
    rw [odeg_take zss j (by omega)]
    omega
theorem obit_bd {E : Nat} (zss : List (List Int)) (h : ∀ j, j < zss.length → pb (gt zss j) ≤ E) : ∀ j, j ≤ zss.length → obit (zss.take j) ≤ E := by
  intro j
  induction j with
  | zero => intro _; simp [obit]
  | succ j ih =>
    intro hj
    have h1 := ih (by omega)
    have h2 := h j (by omega)
    rw [obit_take zss j (by omega)]
    omega
set_option maxRecDepth 100000 in
theorem oDegree_any {w : World} {B T K E D : Nat} {zss : List (List Int)} {h : Hdr} (H : HR D (EZ K E) w B T zss h) (hT : T ≤ w.heap.size) (hD : D ≤ 1000000) (hE : E ≤ 1000000) :
    Calls Tryz.prog 129 #[.slice h.p h.n h.c] w fun e w' => e = .returned (.int .i64 (odeg zss)) ∧ Below w.heap.size w w' := by
  have hlen := hr_len H
  have HBD := (show Hid _ from odeg_bd zss hlen)
  obtain ⟨hs, k⟩ := H
  have HX : Hid (HRow D (EZ K E) w B T zss h hs ∧ T ≤ w.heap.size) := ⟨k, hT⟩
  have hn : h.n ≤ D := k.few
  have HL : Hid (zss.length = h.n) := k.tl
  obtain ⟨p, n, nc⟩ := h
  simp only at hn HL ⊢
  clear k hT hlen
  go_enter Tryz.func129, Tryz.ntmps129
  go_wp2_with fail
  go_loopw [3, 8] (fun mv kv wr => ∃ i : Nat, i ≤ n ∧ mv = .int .i64 (odeg (zss.take i)) ∧ kv = .int .i64 i ∧ Hid (Below w.heap.size w wr)) (fun _ kv _ => n - (intOf kv).toNat)
  case atStart => exact ⟨0, Nat.zero_le _, by simp [odeg], by go_num, Below.refl _ _⟩
  case round =>
    obtain ⟨i, hi, rfl, rfl, G⟩ := hrel
    rcases Nat.lt_or_ge i n with hlt | hge
    · have g4 := G.out
      obtain ⟨b, o, hp, hc⟩ := HX.out.1.hl (by rw [HX.out.1.el]; show 0 < n; omega)
      simp only at hp
      subst hp
      have c0 := hc i (by rw [HX.out.1.el]; exact hlt)
      have c1 : wr.cell? ⟨b, o + i, none⟩ = some (gh hs i).val := cell_later' g4 c0
      have hE2 := (lasts_EZ K E).below (HX.out.1.ev i hlt) HX.out.2 g4
      generalize gh hs i = hd at c1 hE2
      obtain ⟨p2, n2, nc2⟩ := hd
      simp only [Hdr.val] at c1
      obtain ⟨es2, hP2, hd3, -, -⟩ := hE2
      simp only at hP2 hd3
      have i1 : (i : Int) < (n : Int) := by omega
      have hcall := uDeg_any K p2 n2 nc2 es2 (gt zss i) wr hP2 (by omega)
      have HT : Hid (odeg (zss.take (i + 1)) = max (odeg (zss.take i)) ((tlen (gt zss i) : Int) - 1)) := odeg_take zss i (by have := HL.out; omega)
      clear hc c0 hP2 g4
      go_wp2_with fail
      go_fit hcall
      rintro e w1 ⟨rfl, hb1⟩
      have HB1 : Hid (Below w.heap.size w w1) := bnext' G.out hb1
      clear c1 hcall hb1
      obtain ⟨M, hM⟩ : ∃ M, odeg (zss.take (i + 1)) = M := ⟨_, rfl⟩
      have HEQ := (show Hid _ from hM)
      rw [hM] at HT
      clear hM
      generalize odeg (zss.take i) = d at *
      generalize (tlen (gt zss i) : Int) - 1 = t at *
      have h4 : max d t = M := HT.out.symm
      go_wp2
      go_roundw
      case rel => exact ⟨i + 1, by omega, by rw [HEQ.out], by go_num, HB1.out⟩
      case measure => simp [intOf]; omega
    · obtain rfl : i = n := by omega
      have i1 : ¬ (i : Int) < (i : Int) := by omega
      have HZ : Hid (zss.take i = zss) := List.take_of_length_le (by have := HL.out; omega)
      go_wp2
      go_ret
      exact ⟨by rw [HZ.out]; rfl, G.out⟩
set_option maxRecDepth 100000 in
theorem oBits_any {w : World} {B T K E D : Nat} {zss : List (List Int)} {h : Hdr} (H : HR D (EZ K E) w B T zss h) (hT : T ≤ w.heap.size) (hD : D ≤ 1000000) (hE : E ≤ 1000000) (hK : K ≤ 1000) :
    Calls Tryz.prog 130 #[.slice h.p h.n h.c] w fun e w' => e = .returned (.int .i64 (obit zss)) ∧ Below w.heap.size w w' := by
  obtain ⟨hs, k⟩ := H
  have HX : Hid (HRow D (EZ K E) w B T zss h hs ∧ T ≤ w.heap.size) := ⟨k, hT⟩
  have hn : h.n ≤ D := k.few
  have HL : Hid (zss.length = h.n) := k.tl
  obtain ⟨p, n, nc⟩ := h
  simp only at hn HL ⊢
  clear k hT
  go_enter Tryz.func130, Tryz.ntmps130
  go_wp2_with fail
  go_loopw [3, 8] (fun mv kv wr => ∃ i : Nat, i ≤ n ∧ mv = .int .i64 (obit (zss.take i)) ∧ kv = .int .i64 i ∧ Hid (Below w.heap.size w wr)) (fun _ kv _ => n - (intOf kv).toNat)
  case atStart => exact ⟨0, Nat.zero_le _, by simp [obit], by go_num, Below.refl _ _⟩
  case round =>
    obtain ⟨i, hi, rfl, rfl, G⟩ := hrel
    rcases Nat.lt_or_ge i n with hlt | hge
    · have g4 := G.out
      obtain ⟨b, o, hp, hc⟩ := HX.out.1.hl (by rw [HX.out.1.el]; show 0 < n; omega)
      simp only at hp
      subst hp
      have c0 := hc i (by rw [HX.out.1.el]; exact hlt)
      have c1 : wr.cell? ⟨b, o + i, none⟩ = some (gh hs i).val := cell_later' g4 c0
      have hE2 := (lasts_EZ K E).below (HX.out.1.ev i hlt) HX.out.2 g4
      generalize gh hs i = hd at c1 hE2
      obtain ⟨p2, n2, nc2⟩ := hd
      simp only [Hdr.val] at c1
      obtain ⟨es2, hP2, hd3, -, -⟩ := hE2
      simp only at hP2 hd3
      have i1 : (i : Int) < (n : Int) := by omega
      have hcall := uBits_any hP2 (by omega) hK
      have HT : Hid (obit (zss.take (i + 1)) = max (obit (zss.take i)) (pb (gt zss i))) := obit_take zss i (by have := HL.out; omega)
      clear hc c0 hP2 g4
      go_wp2_with fail
      go_fit hcall
      rintro e w1 ⟨rfl, -, hb1⟩
      have HB1 : Hid (Below w.heap.size w w1) := bnext' G.out hb1
      clear c1 hcall hb1
      obtain ⟨M, hM⟩ : ∃ M, obit (zss.take (i + 1)) = M := ⟨_, rfl⟩
      have HEQ := (show Hid _ from hM)
      rw [hM] at HT
      clear hM
      generalize obit (zss.take i) = d at *
      generalize pb (gt zss i) = t at *
      have h4 : max (d : Int) (t : Int) = (M : Int) := by have := HT.out; omega
      go_wp2
      go_roundw
      case rel => exact ⟨i + 1, by omega, by rw [HEQ.out], by go_num, HB1.out⟩
      case measure => simp [intOf]; omega
    · obtain rfl : i = n := by omega
      have i1 : ¬ (i : Int) < (i : Int) := by omega
      have HZ : Hid (zss.take i = zss) := List.take_of_length_le (by have := HL.out; omega)
      go_wp2
      go_ret
      exact ⟨by rw [HZ.out]; rfl, G.out⟩
end Go.Proofs.YtejnhpjejcpekaaGreatDoor
