/-
  ashlarref8.Degree, Bits (out of Ak).
-/
import Derived.Test.YtcdfckjlmifjiaaCyViDsAeVuWxUpUq
import Derived.Test.YtcdfckjlmifjiaaBnBoBsBrVvJpRzCwVkJoBp
import Derived.Test.YtcdfckjlmifjiaaDhVeRsVfVcAjDqDrBm
import Derived.Deep.DeepFit
import Derived.Test.YtcdfckjlmifjiaaRmRpDkDlDbRiRjRgRkUiVqDcUjLeUkWiWjUl
namespace Go.Proofs.Ytcdfckjlmifjiaa
open Go.RowKit
set_option linter.unusedVariables false
set_option linter.unusedSimpArgs false

set_option maxHeartbeats 2000000 in
set_option maxRecDepth 100000 in
/-- ashlarref8.Degree. -/
theorem rDegree8_any {w : World} {B T N E D : Nat} {l : List (List Int)} {h : Hdr} (H : HR D (EY N E) w B T l h) (hT : T ≤ w.heap.size) (hD : D ≤ 1000000) (hE : E ≤ 1000000) :
    Calls Try.prog 34 #[.slice h.p h.n h.c] w fun e w' => e = .returned (.int .i64 (odeg l)) ∧ Below w.heap.size w w' := by
  obtain ⟨hs, k⟩ := H
  have HX : Hid (HRow D (EY N E) w B T l h hs ∧ T ≤ w.heap.size) := ⟨k, hT⟩
  have hn : h.n ≤ D := k.few
  have HL : Hid (l.length = h.n) := k.tl
  obtain ⟨p, n, nc⟩ := h
  simp only at hn HL ⊢
  clear k hT
  go_enter Try.func34, Try.ntmps34
  go_wp2_with fail
  go_loopw [3, 4] (fun mv kv wr => ∃ i : Nat, i ≤ n ∧ mv = .int .i64 (odeg (l.take i)) ∧ kv = .int .i64 i ∧ Hid (Below w.heap.size w wr)) (fun _ kv _ => n - (intOf kv).toNat)
  case atStart => exact ⟨0, Nat.zero_le _, by simp [odeg], by go_num, Below.refl _ _⟩
  case round =>
    obtain ⟨i, hi, rfl, rfl, G⟩ := hrel
    rcases Nat.lt_or_ge i n with hlt | hge
    · have g4 := G.out
      obtain ⟨b, o, hp, hc⟩ := HX.out.1.hl (by rw [HX.out.1.el]; show 0 < n; omega)
      simp only at hp
      subst hp
      have c0 := hc i (by rw [HX.out.1.el]; exact hlt)
      have c1 : wr.cell? ⟨b, o + i, none⟩ = some (gh hs i).val := cell_later' g4 c0
      obtain ⟨es2, -, -, ht2, hd3, -⟩ := HX.out.1.ev i hlt
      have HT : Hid (odeg (l.take (i + 1)) = max (odeg (l.take i)) (((gh hs i).n : Int) - 1)) := by rw [← ht2]; exact odeg_take l i (by have := HL.out; omega)
      generalize gh hs i = hd at c1 hd3 HT
      obtain ⟨p2, n2, nc2⟩ := hd
      simp only [Hdr.val] at c1 hd3 HT
      have i1 : (i : Int) < (n : Int) := by omega
      have hcall := fun w' => rpDeg_any p2 n2 nc2 w' (by omega)
      obtain ⟨M, hM⟩ : ∃ M, odeg (l.take (i + 1)) = M := ⟨_, rfl⟩
      have HEQ := (show Hid _ from hM)
      rw [hM] at HT
      obtain ⟨t, ht⟩ : ∃ t, (n2 : Int) - 1 = t := ⟨_, rfl⟩
      rw [ht] at HT
      simp only [ht] at hcall
      generalize odeg (l.take i) = d at *
      clear hc c0 g4 hM ht ht2
      go_wp2_with fail
      go_fit (hcall _)
      rintro e w1 ⟨rfl, hb1⟩
      have HB1 : Hid (Below w.heap.size w w1) := bnext' G.out hb1
      clear c1 hcall hb1
      by_cases hdt : d < t
      · obtain rfl : t = M := by have := HT.out; omega
        go_wp2
        go_roundw
        case rel => exact ⟨i + 1, by omega, by rw [HEQ.out], by go_num, HB1.out⟩
        case measure => simp [intOf]; omega
      · obtain rfl : d = M := by have := HT.out; omega
        go_wp2
        go_roundw
        case rel => exact ⟨i + 1, by omega, by rw [HEQ.out], by go_num, HB1.out⟩
        case measure => simp [intOf]; omega
    · obtain rfl : i = n := by omega
      have i1 : ¬ (i : Int) < (i : Int) := by omega
      have HZ : Hid (l.take i = l) := List.take_of_length_le (by have := HL.out; omega)
      go_wp2
      go_ret
      exact ⟨by rw [HZ.out]; rfl, G.out⟩
set_option maxHeartbeats 2000000 in
set_option maxRecDepth 100000 in
/-- ashlarref8.Bits. -/
theorem rBits8_any {w : World} {B T N E D : Nat} {l : List (List Int)} {h : Hdr} (H : HR D (EY N E) w B T l h) (hT : T ≤ w.heap.size) (hD : D ≤ 1000000) (hE : E ≤ 1000000) (hN : N ≤ 1000) :
    Calls Try.prog 35 #[.slice h.p h.n h.c] w fun e w' => e = .returned (.int .i64 (obit l)) ∧ Below w.heap.size w w' := by
  obtain ⟨hs, k⟩ := H
  have HX : Hid (HRow D (EY N E) w B T l h hs ∧ T ≤ w.heap.size) := ⟨k, hT⟩
  have hn : h.n ≤ D := k.few
  have HL : Hid (l.length = h.n) := k.tl
  obtain ⟨p, n, nc⟩ := h
  simp only at hn HL ⊢
  clear k hT
  go_enter Try.func35, Try.ntmps35
  go_wp2_with fail
  go_loopw [3, 4] (fun mv kv wr => ∃ i : Nat, i ≤ n ∧ mv = .int .i64 (obit (l.take i)) ∧ kv = .int .i64 i ∧ Hid (Below w.heap.size w wr)) (fun _ kv _ => n - (intOf kv).toNat)
  case atStart => exact ⟨0, Nat.zero_le _, by simp [obit], by go_num, Below.refl _ _⟩
  case round =>
    obtain ⟨i, hi, rfl, rfl, G⟩ := hrel
    rcases Nat.lt_or_ge i n with hlt | hge
    · have g4 := G.out
      obtain ⟨b, o, hp, hc⟩ := HX.out.1.hl (by rw [HX.out.1.el]; show 0 < n; omega)
      simp only at hp
      subst hp
      have c0 := hc i (by rw [HX.out.1.el]; exact hlt)
      have c1 : wr.cell? ⟨b, o + i, none⟩ = some (gh hs i).val := cell_later' g4 c0
      have hE2 := (lasts_EY N E).below (HX.out.1.ev i hlt) HX.out.2 g4
      have HT : Hid (obit (l.take (i + 1)) = max (obit (l.take i)) (pb (gt l i))) := obit_take l i (by have := HL.out; omega)
      generalize gh hs i = hd at c1 hE2
      obtain ⟨p2, n2, nc2⟩ := hd
      obtain ⟨es2, hP2, -, -, hd3, -⟩ := hE2
      simp only [Hdr.val] at c1 hd3 hP2
      have i1 : (i : Int) < (n : Int) := by omega
      have hcall := rpBits_any hP2 hN (by omega)
      obtain ⟨M, hM⟩ : ∃ M, obit (l.take (i + 1)) = M := ⟨_, rfl⟩
      have HEQ := (show Hid _ from hM)
      rw [hM] at HT
      generalize pb (gt l i) = t at *
      generalize obit (l.take i) = d at *
      clear hc c0 g4 hM hP2
      go_wp2_with fail
      go_fit hcall
      rintro e w1 ⟨rfl, hb1⟩
      have HB1 : Hid (Below w.heap.size w w1) := bnext' G.out hb1
      clear c1 hcall hb1
      by_cases hdt : d < t
      · obtain rfl : t = M := by have := HT.out; omega
        have i5 : (d : Int) < (t : Int) := by omega
        go_wp2
        go_roundw
        case rel => exact ⟨i + 1, by omega, by rw [HEQ.out], by go_num, HB1.out⟩
        case measure => simp [intOf]; omega
      · obtain rfl : d = M := by have := HT.out; omega
        have i5 : ¬ (d : Int) < (t : Int) := by omega
        go_wp2
        go_roundw
        case rel => exact ⟨i + 1, by omega, by rw [HEQ.out], by go_num, HB1.out⟩
        case measure => simp [intOf]; omega
    · obtain rfl : i = n := by omega
      have i1 : ¬ (i : Int) < (i : Int) := by omega
      have HZ : Hid (l.take i = l) := List.take_of_length_le (by have := HL.out; omega)
      go_wp2
      go_ret
      exact ⟨by rw [HZ.out]; rfl, G.out⟩
end Go.Proofs.Ytcdfckjlmifjiaa
/-
  Rows of one and two integers, made new (out of Di).
-/
namespace Go.Proofs.Ytcdfckjlmifjiaa
open Go.RowKit
set_option linter.unusedVariables false
set_option linter.unusedSimpArgs false

theorem rd_one (w : World) (z : Int) (t : Nat) : Rd (w.alloc (.cells #[.int .i64 z] t)) (some ⟨w.heap.size, 0, none⟩) .i64 [z] := fun _ => ⟨w.heap.size, 0, rfl, fun j hj => by
  obtain rfl : j = 0 := by simp at hj; omega
  simp [go_sem, gx]⟩
theorem rd_two (w : World) (y z : Int) (t : Nat) : Rd (w.alloc (.cells #[.int .i64 y, .int .i64 z] t)) (some ⟨w.heap.size, 0, none⟩) .i64 [y, z] := fun _ => ⟨w.heap.size, 0, rfl, fun j hj => by
  match j, hj with
  | 0, _ => simp [go_sem, gx]
  | 1, _ => simp [go_sem, gx]⟩
end Go.Proofs.Ytcdfckjlmifjiaa
/-
  The reference's operators: Degree, Bits, Sub.
-/
namespace Go.Proofs.Ytcdfckjlmifjiaa
open Go.RowKit
set_option linter.unusedVariables false
set_option linter.unusedSimpArgs false

theorem EY.le {N E N' E' : Nat} {w : World} {B T : Nat} {z : List Int} {h : Hdr} (k : EY N E w B T z h) (hN : N ≤ N') (hE : E ≤ E') : EY N' E' w B T z h := by
  obtain ⟨fs, a, b, c, d, e⟩ := k
  exact ⟨fs, ⟨a.el, a.zl, a.cap, a.bnd, a.pl, fun j hj => (a.ev j hj).wide hN⟩, b, c, Nat.le_trans d hE, e⟩
theorem HR.le {N E N' E' D : Nat} {w : World} {B T : Nat} {z : List (List Int)} {h : Hdr} (k : HR D (EY N E) w B T z h) (hN : N ≤ N') (hE : E ≤ E') : HR D (EY N' E') w B T z h := by
  obtain ⟨hs, a⟩ := k
  exact ⟨hs, a.el, a.tl, a.cap, a.bnd, a.pn, a.few, a.hl, a.at_, fun j hj => (a.ev j hj).le hN hE⟩
theorem length_otr (l : List (List Int)) : (otr l).length = olen l := by
  have := olen_le l
  simp [otr]
  omega
theorem gx_mulp1 (c : Int) (ys : List Int) (t : Nat) : gx (mulp [c] ys) t = c * gx ys t := by
  have h1 : ps [c] ys 1 t = c * gx ys t := by simp [ps, gx]
  unfold mulp
  by_cases h : ([c] : List Int).length = 0 ∨ ys.length = 0
  · rw [if_pos h]
    have h2 : ys = [] := List.eq_nil_of_length_eq_zero (by simpa using h)
    subst h2
    simp [gx]
  · rw [if_neg h]
    rcases Nat.lt_or_ge t ([c].length + ys.length - 1) with h2 | h2
    · rw [gx_mulz _ _ _ h2]
      exact h1
    · rw [gx_past _ ([c].length + ys.length - 1) (by rw [length_mulz]; exact Nat.le_refl _) t h2]
      rw [gx_past ys ys.length (Nat.le_refl _) t (by simp at h2; omega), Int.mul_zero]
theorem pz_minus (a b : List Int) : tr (pz (· + ·) a (mulp [-1] b)) = tr (pz (· - ·) a b) := by
  refine tr_same fun j => ?_
  rw [gx_pz0 _ rfl, gx_pz0 _ rfl, gx_mulp1]
  omega
end Go.Proofs.Ytcdfckjlmifjiaa
/-
  Plain facts on operators' normal forms.
-/
namespace Go.Proofs.Ytcdfckjlmifjiaa
open Go.RowKit
set_option linter.unusedVariables false
set_option linter.unusedSimpArgs false

theorem gt_rng (F : Nat → List Int) (M : Nat) (h : ∀ j, M ≤ j → F j = []) (j : Nat) : gt ((List.range M).map F) j = F j := by
  rcases Nat.lt_or_ge j M with hj | hj
  · simp [gt, hj]
  · rw [gt_over0 _ _ (by simpa using hj), h j hj]
theorem rng_oz (z : List (List Int)) : ((List.range (olen z)).map fun i => tr (gt z i)) = oz z := by
  apply List.ext_getElem
  · simp [length_oz]
  · intro i h1 h2
    have h3 : i < olen z := by simpa using h1
    have h4 : i < z.length := Nat.lt_of_lt_of_le h3 (olen_le z)
    simp [oz, gt, h4]
theorem rng_mul (F : List Int → List Int) (z : List (List Int)) : ((List.range (olen z)).map fun i => F (tr (gt z i))) = (oz z).map F := by
  rw [← rng_oz, List.map_map]
  rfl
theorem pz_nil (f : Int → Int → Int) : tr (pz f [] []) = [] := by simp [pz, tr]
theorem otr_sum (f : Int → Int → Int) (z y : List (List Int)) : otr ((List.range (max (oz z).length (oz y).length)).map fun i => tr (pz f (gt (oz z) i) (gt (oz y) i))) = otr (opz f z y) := by
  simp only [length_oz, gt_oz]
  rfl
theorem mulp_neg_nil {y : List Int} (h : tlen (mulp [-1] (tr y)) = 0) : mulp [-1] (tr y) = [] := by
  have h1 : tlen (tr y) = 0 := by
    rcases Nat.eq_zero_or_pos (tlen (tr y)) with h0 | h0
    · exact h0
    · have h2 := tlen_top (tr y) h0
      have h3 := tlen_zero _ (tlen (tr y) - 1) (by rw [h]; exact Nat.zero_le _)
      rw [gx_mulp1] at h3
      omega
  have h2 : tr y = [] := by rw [tlen_tr] at h1; exact tr_zero h1
  rw [h2]
  rfl
theorem gt_neg (y : List (List Int)) (j : Nat) : gt (otr ((oz y).map (mulp [-1]))) j = mulp [-1] (tr (gt y j)) := by
  have h0 : ∀ j, gt ((oz y).map (mulp [-1])) j = mulp [-1] (tr (gt y j)) := fun j => by
    rw [← gt_oz]
    rcases Nat.lt_or_ge j (oz y).length with h | h
    · simp [gt, h]
    · rw [gt_over0 _ _ (by simpa using h), gt_over0 _ _ h]
      rfl
  rcases Nat.lt_or_ge j (olen ((oz y).map (mulp [-1]))) with h | h
  · rw [otr, gt_take _ _ _ h, h0]
  · rw [gt_over0 _ _ (by rw [length_otr]; exact h)]
    have h1 := olen_zero _ j h
    rw [h0] at h1
    exact (mulp_neg_nil h1).symm
theorem olen_neg (y : List (List Int)) : olen ((oz y).map (mulp [-1])) = olen y := by
  refine olen_tlen fun j => ?_
  have h0 : gt ((oz y).map (mulp [-1])) j = mulp [-1] (tr (gt y j)) := by
    rw [← gt_oz]
    rcases Nat.lt_or_ge j (oz y).length with h | h
    · simp [gt, h]
    · rw [gt_over0 _ _ (by simpa using h), gt_over0 _ _ h]
      rfl
  rw [h0]
  refine tlen_eq _ _ (fun i hi => ?_) ?_
  · rw [gx_mulp1, gx_tr, tlen_zero _ _ hi]
    rfl
  · rcases Nat.eq_zero_or_pos (tlen (gt y j)) with h1 | h1
    · exact .inl h1
    · refine .inr ?_
      rw [gx_mulp1, gx_tr]
      have := tlen_top (gt y j) h1
      omega
theorem otr_dif (z y : List (List Int)) : otr ((List.range (max (oz z).length (olen ((oz y).map (mulp [-1]))))).map fun i => tr (pz (· + ·) (gt (oz z) i) (gt (otr ((oz y).map (mulp [-1]))) i))) = otr (opz (· - ·) z y) := by
  simp only [length_oz, gt_oz, olen_neg, gt_neg, pz_minus]
  rfl
end Go.Proofs.Ytcdfckjlmifjiaa
/-
  What lasts while its own memory does; ore.convert with a function that writes elsewhere.
-/
namespace Go.Proofs.Ytcdfckjlmifjiaa
open Go.RowKit
set_option linter.unusedVariables false
set_option linter.unusedSimpArgs false

/-- What is said of an element, whose memory lies from B to T, hangs on that memory alone. -/
def LastsB {α : Type} (E : World → Nat → Nat → α → Hdr → Prop) : Prop :=
  ∀ {w w' : World} {B T : Nat} {z : α} {h : Hdr}, E w B T z h → T ≤ w.heap.size → (∀ b, B ≤ b → b < T → w'.heap[b]? = w.heap[b]?) → E w' B T z h
theorem EV.same {w w' : World} {K : Nat} {z : Int} {e : Ent} (h : EV w K z e) (hs : 0 < e.n → ∀ a, e.p = some a → w'.heap[a.block]? = w.heap[a.block]?) : EV w' K z e := by
  obtain ⟨xs, k, h2⟩ := h
  refine ⟨xs, ⟨k.len, k.cap, k.bnd, k.sml, fun hx => (k.rd.same fun a ha _ => hs ?_ a ha) hx, k.u⟩, h2⟩
  rw [← k.len]
  exact hx
theorem RE.same {w w' : World} {N : Nat} {z : Int} {e : Ent} (h : RE w N z e) (hs : 0 < e.n → ∀ a, e.p = some a → w'.heap[a.block]? = w.heap[a.block]?) : RE w' N z e := by
  obtain ⟨⟨ds, k, h2⟩, h3⟩ := h
  refine ⟨⟨ds, ⟨k.len, fun hx => (k.rd.same fun a ha _ => hs ?_ a ha) hx, k.u, k.nrm, k.sg, k.sml⟩, h2⟩, h3⟩
  rw [← k.len]
  exact hx
theorem lastsB_EZ (K D : Nat) : LastsB (EZ K D) := fun {w w' B T z h} he hT hs => by
  obtain ⟨fs, k, h1, h2, h3⟩ := he
  refine ⟨fs, ⟨k.el, k.zl, k.cap, k.bnd, k.pn, fun hx => (k.pl.same fun a ha hlt => ?_) hx, fun j hj => (k.ev j hj).same fun hn a ha => ?_⟩, h1, h2, h3⟩
  · have h4 := h2 a ha (by rw [← k.el]; exact hx)
    exact hs _ h4.1 h4.2
  · have h4 := h3 j hj hn a ha
    exact hs _ h4.1 h4.2
theorem lastsB_EY (N D : Nat) : LastsB (EY N D) := fun {w w' B T z h} he hT hs => by
  obtain ⟨fs, k, e1, e2, h1, h2, h3⟩ := he
  refine ⟨fs, ⟨k.el, k.zl, k.cap, k.bnd, fun hx => (k.pl.same fun a ha hlt => ?_) hx, fun j hj => (k.ev j hj).same fun hn a ha => ?_⟩, e1, e2, h1, h2, h3⟩
  · have h4 := h2 a ha (by rw [← k.el]; exact hx)
    exact hs _ h4.1 h4.2
  · have h4 := h3 j hj hn a ha
    exact hs _ h4.1 h4.2
theorem lastsB_HR {α : Type} [Inhabited α] {D : Nat} {E : World → Nat → Nat → α → Hdr → Prop} (L : LastsB E) : LastsB (HR D E) := fun {w w' B T z h} he hT hs => by
  obtain ⟨rs, k⟩ := he
  refine ⟨rs, k.el, k.tl, k.cap, k.bnd, k.pn, k.few, k.hl.same fun a ha hn hlt => ?_, k.at_, fun j hj => L (k.ev j hj) hT hs⟩
  have h1 := k.at_ a ha (by rw [← k.el]; exact hn)
  exact hs _ h1.1 h1.2
/-- Of what was there, only blocks from lo to base may have changed. -/
structure Kq (lo base : Nat) (w w' : World) : Prop where
  os : w'.os = w.os
  tape : w'.tape = w.tape
  output : w'.output = w.output
  size : w.heap.size ≤ w'.heap.size
  block : ∀ k, k < w.heap.size → (k < lo ∨ base ≤ k) → w'.heap[k]? = w.heap[k]?
section
variable {lo base : Nat} {w w1 w2 : World}
theorem Kq.refl (lo base : Nat) (w : World) : Kq lo base w w := ⟨rfl, rfl, rfl, Nat.le_refl _, fun _ _ _ => rfl⟩
theorem Kq.of (h : Below w.heap.size w w1) : Kq lo base w w1 := ⟨h.os, h.tape, h.output, h.size, fun k hk _ => h.block k hk⟩
theorem Kq.trans (h : Kq lo base w w1) (k : Kq lo base w1 w2) : Kq lo base w w2 :=
  ⟨k.os.trans h.os, k.tape.trans h.tape, k.output.trans h.output, Nat.le_trans h.size k.size, fun i hi hx => (k.block i (Nat.lt_of_lt_of_le hi h.size) hx).trans (h.block i hi hx)⟩
theorem Kq.put (h : Kq lo base w w1) (a : Addr) (v : Value) (ha : (lo ≤ a.block ∧ a.block < base) ∨ w.heap.size ≤ a.block) : Kq lo base w (w1.setCell a v) :=
  ⟨h.os, h.tape, h.output, by simpa [World.setCell] using h.size, fun i hi hx => by
    rw [Below.heap_setCell w1 a v i (by omega)]
    exact h.block i hi hx⟩
theorem Kq.below {n : Nat} (h : Kq lo base w w1) (hn : n ≤ lo) (hs : n ≤ w.heap.size) : Below n w w1 := ⟨h.os, h.tape, h.output, h.size, fun k hk => h.block k (by omega) (by omega)⟩
end
theorem PN.kp {lo base B : Nat} {w w' : World} {K : Nat} {p : Option Addr} {n : Nat} {es : List Ent} {zs : List Int} (h : PN B w K p n es zs) (hk : Kq lo base w w') (hB : base ≤ B) : PN B w' K p n es zs := by
  refine ⟨h.el, h.zl, h.nrm, h.pl.same fun a ha hlt => hk.block _ hlt (.inr (Nat.le_trans hB (h.fr a ha))), h.fr, fun j hj => ?_⟩
  obtain ⟨xs, k, h2⟩ := h.ev j hj
  have hbl : ∀ a, (ge es j).p = some a → a.block < w.heap.size → w'.heap[a.block]? = w.heap[a.block]? := fun a ha hlt => hk.block _ hlt (.inr (Nat.le_trans hB (k.fr a ha)))
  refine ⟨xs, ⟨k.len, k.rd.same hbl, k.u, k.nrm, k.sg, k.pn, k.v, k.fr, fun a ha => ⟨Nat.lt_of_lt_of_le (k.fz a ha).1 hk.size, fun i => ?_⟩⟩, h2⟩
  have h3 := hbl a ha (k.fz a ha).1
  have h4 := (k.fz a ha).2 i
  simp only [World.frozen?] at h4 ⊢
  rw [h3]
  exact h4
/-- The first of an answer's entries are there. -/
def CK (F : Nat → List Int) (lo base K E g n i : Nat) (w wr : World) : Prop :=
  ∃ hs : List Hdr, HB wr g hs ∧ hs.length = n ∧ (∀ r, r < i → (gh hs r).c = (gh hs r).n ∧ (gh hs r).n ≤ E ∧ ∃ es, PN (g + 1) wr K (gh hs r).p (gh hs r).n es (F r)) ∧ Kq lo base w wr ∧ w.heap.size ≤ g ∧ base ≤ g
theorem CK.step {F : Nat → List Int} {lo base K E g n i : Nat} {w wr v3 : World} {p3 : Option Addr} {n3 : Nat} {es3 : List Ent} (h : CK F lo base K E g n i w wr) (hi : i < n) (hv : Kq lo base wr v3) (hN : PN (g + 1) v3 K p3 n3 es3 (F i)) (hE : n3 ≤ E) : CK F lo base K E g n (i + 1) w (v3.setCell ⟨g, i, none⟩ (.slice p3 n3 n3)) := by
  obtain ⟨hs, h1, h2, h3, h4, h5, h6⟩ := h
  have h1' : HB v3 g hs := (hv.block g h1.lt (.inr h6)).trans h1
  refine ⟨hs.set i ⟨p3, n3, n3⟩, h1'.set i ⟨p3, n3, n3⟩, by simp [h2], fun r hr => ?_, (h4.trans hv).put ⟨g, i, none⟩ _ (.inr h5), h5, h6⟩
  rw [gh_set _ _ _ _ (by omega)]
  by_cases e : r = i
  · subst e
    rw [if_pos rfl]
    exact ⟨rfl, hE, es3, hN.put (Nat.lt_succ_self g) _⟩
  · rw [if_neg e]
    obtain ⟨a, b, es, c⟩ := h3 r (by omega)
    exact ⟨a, b, es, (c.kp hv (by omega)).put (Nat.lt_succ_self g) _⟩
theorem CK.no {F : Nat → List Int} {lo base K E g n : Nat} {w wr : World} (h : CK F lo base K E g n n w wr) : ∃ hs, NO g wr K E ((List.range n).map F) (some ⟨g, 0, none⟩) n hs := by
  obtain ⟨hs, h1, h2, h3, h4, h5, h6⟩ := h
  refine ⟨hs, h2, by simp, fun hp => ⟨g, 0, rfl, fun j hj => by rw [Nat.zero_add]; exact h1.cell j hj⟩, fun a ha => by cases ha; exact Nat.le_refl _, fun j hj => ?_⟩
  obtain ⟨a, b, es, c⟩ := h3 j hj
  refine ⟨a, b, es, ?_⟩
  have e : gt ((List.range n).map F) j = F j := by simp [gt, hj]
  rw [e]
  exact c.mono (Nat.le_succ g)
theorem NO.hrow {B : Nat} {w : World} {K E : Nat} {l : List (List Int)} {p : Option Addr} {n : Nat} {hs : List Hdr} (h : NO B w K E l p n hs) (hK : K ≤ 1000) (hE : E ≤ 1000000) (hn : n ≤ 1000000) : HRow n (EZ K E) w B w.heap.size l ⟨p, n, n⟩ hs := by
  refine ⟨h.el, h.tl, Nat.le_refl _, by show n ≤ maxLen; unfold maxLen; omega, fun e => ?_, Nat.le_refl _, h.hl, fun a ha h0 => ⟨h.fr a ha, ?_⟩, fun j hj => ?_⟩
  · rcases Nat.eq_zero_or_pos n with h0 | h0
    · exact h0
    · obtain ⟨b, o, hb, -⟩ := h.hl (by rw [h.el]; exact h0)
      simp only at e
      rw [hb] at e
      cases e
  · obtain ⟨b, o, hb, hc⟩ := h.hl (by rw [h.el]; exact h0)
    simp only at ha
    rw [hb] at ha
    cases ha
    exact block_lt_of_cell (hc 0 (by rw [h.el]; exact h0))
  · obtain ⟨a, b, es, c⟩ := h.ev j hj
    have h1 := ez_of_pn c hK b hE
    have e : (⟨(gh hs j).p, (gh hs j).n, (gh hs j).n⟩ : Hdr) = gh hs j := by
      generalize gh hs j = x at a
      obtain ⟨x1, x2, x3⟩ := x
      simp only at a
      rw [a]
    rw [e] at h1
    exact h1
/-- What convert answers, where its function writes. -/
def OpK (lo base : Nat) (I : World → Prop) (l : List (List Int)) (K E : Nat) (w : World) (e : Ending) (w' : World) : Prop :=
  ∃ p hs, e = .returned (.slice p (olen l) (olen l)) ∧ NO w.heap.size w' K E (otr l) p (olen l) hs ∧ I w' ∧ Kq lo base w w'
end Go.Proofs.Ytcdfckjlmifjiaa
