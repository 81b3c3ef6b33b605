/-
  The length of an operator's entries (out of Ad).
-/
import Derived.Test.YtcdfckjlmifjiaaAbDnDoAc
import Derived.Test.YtcdfckjlmifjiaaRmRpDkDlDbRiRjRgRkUiVqDcUjLeUkWiWjUl
import Derived.Deep.DeepFit
import Derived.Test.YtcdfckjlmifjiaaCyViDsAeVuWxUpUq
import Derived.Test.YtcdfckjlmifjiaaCu
import Derived.Test.YtcdfckjlmifjiaaUaOfVg
import Derived.Test.YtcdfckjlmifjiaaReRxRfRhCq
import Derived.Test.YtcdfckjlmifjiaaBbCvDj
namespace Go.Proofs.Ytcdfckjlmifjiaa
open Go.RowKit
set_option linter.unusedVariables false
set_option linter.unusedSimpArgs false

theorem hr_len {w : World} {B T K E D : Nat} {zss : List (List Int)} {h : Hdr} (H : HR D (EZ K E) w B T zss h) (i : Nat) : (gt zss i).length ≤ E := by
  obtain ⟨rs, hr⟩ := H
  rcases Nat.lt_or_ge i zss.length with hk | hk
  · obtain ⟨fs, hP, hd, -⟩ := hr.ev i (by rw [← hr.tl]; exact hk)
    rw [hP.zl]
    exact hd
  · rw [gt_over0 _ _ hk]
    exact Nat.zero_le _
end Go.Proofs.Ytcdfckjlmifjiaa
/-
  ore.Order; degrees, bits, the normal form (out of Ag, Ai).
-/
namespace Go.Proofs.Ytcdfckjlmifjiaa
open Go.RowKit
set_option linter.unusedVariables false
set_option linter.unusedSimpArgs false

theorem cell_later' {w w' : World} {a : Addr} {v : Value} (hb : Below w.heap.size w w') (h : w.cell? a = some v) : w'.cell? a = some v := by
  rw [hb.cell (block_lt_of_cell h)]
  exact h
set_option maxHeartbeats 2000000 in
/-- ore.Order. -/
theorem oOrder_any {w : World} {B T K E D : Nat} {zss : List (List Int)} {h : Hdr} (H : HR D (EZ K E) w B T zss h) (hT : T ≤ w.heap.size) (hD : D ≤ 1000000) (hE : E ≤ 1000000) :
    Calls Try.prog 30 #[.slice h.p h.n h.c] w fun e w' => e = .returned (.int .i64 ((olen zss : Int) - 1)) ∧ Below w.heap.size w w' := by
  have ht := otrim_any H hT hD hE
  have hl : olen zss ≤ 1000000 := by
    obtain ⟨hs, k⟩ := H
    have h1 := olen_le zss
    have h2 := k.tl
    have h3 := k.few
    omega
  obtain ⟨p, n, nc⟩ := h
  simp only at ht ⊢
  clear H hT
  generalize olen zss = m at *
  have v1 : IntKind.i64.wrap ((m : Int) - 1) = (m : Int) - 1 := by rw [IntKind.wrap_i64]; omega
  go_enter Try.func30, Try.ntmps30
  go_wp2_with fail
  go_fit ht
  rintro e w1 ⟨rfl, hb⟩
  clear ht
  go_wp2
  go_ret
  exact ⟨by simp [go_sem, v1], hb⟩
/-- The greatest degree. -/
def odeg (zss : List (List Int)) : Int := zss.foldl (fun m z => max m ((tlen z : Int) - 1)) (-1)
/-- The most bits. -/
def obit (zss : List (List Int)) : Nat := zss.foldl (fun m z => max m (pb z)) 0
theorem odeg_take (zss : List (List Int)) (j : Nat) (h : j < zss.length) : odeg (zss.take (j + 1)) = max (odeg (zss.take j)) ((tlen (gt zss j) : Int) - 1) := by
  unfold odeg
  rw [List.take_succ_eq_append_getElem h, List.foldl_append]
  simp [gt, h]
theorem obit_take (zss : List (List Int)) (j : Nat) (h : j < zss.length) : obit (zss.take (j + 1)) = max (obit (zss.take j)) (pb (gt zss j)) := by
  unfold obit
  rw [List.take_succ_eq_append_getElem h, List.foldl_append]
  simp [gt, h]
/-- The normal form. -/
def oz (zss : List (List Int)) : List (List Int) := (zss.take (olen zss)).map tr
end Go.Proofs.Ytcdfckjlmifjiaa
/-
  Bits of trimmed polynomials (out of Dt).
-/
namespace Go.Proofs.Ytcdfckjlmifjiaa
open Go.RowKit
set_option linter.unusedVariables false
set_option linter.unusedSimpArgs false

theorem pb_trim (zs : List Int) : pb (tr zs) = pb zs := by
  have step : ∀ j, tlen zs ≤ j → j ≤ zs.length → pb (zs.take j) = pb (tr zs) := by
    intro j
    induction j with
    | zero => intro h1 _; have : tlen zs = 0 := by omega
              rw [tr, this]
    | succ j ih =>
      intro h1 h2
      rcases Nat.lt_or_ge j (tlen zs) with h | h
      · have : tlen zs = j + 1 := by omega
        rw [tr, this]
      · rw [pb_take zs j (by omega), ih h (by omega), tlen_zero zs j h, show zb 0 = 0 from rfl, Nat.max_zero]
  have := step zs.length (tlen_le zs) (Nat.le_refl _)
  rw [List.take_length] at this
  exact this.symm
theorem pb_few {w : World} {K : Nat} {p : Option Addr} {n nc : Nat} {es : List Ent} {zs : List Int} (h : PA w K p n nc es zs) : pb zs ≤ 32 * K := by
  have key : ∀ j, j ≤ zs.length → pb (zs.take j) ≤ 32 * K := by
    intro j
    induction j with
    | zero => intro _; simp [pb]
    | succ j ih =>
      intro hj
      rw [pb_take zs j (by omega)]
      have h1 := ih (by omega)
      have h2 := zb_le (h.ev j (by have := h.zl; omega))
      omega
  have := key zs.length (Nat.le_refl _)
  rw [List.take_length] at this
  exact this
theorem pb_le_of (zs : List Int) (K : Nat) (h : ∀ j, j < zs.length → zb (gx zs j) ≤ K) : ∀ j, j ≤ zs.length → pb (zs.take j) ≤ K
  | 0, _ => by simp [pb]
  | j + 1, hj => by
    rw [pb_take zs j (by omega)]
    have := pb_le_of zs K h j (by omega)
    have := h j (by omega)
    omega
end Go.Proofs.Ytcdfckjlmifjiaa
/-
  Plain: normal forms (out of Al).
-/
namespace Go.Proofs.Ytcdfckjlmifjiaa
open Go.RowKit
set_option linter.unusedVariables false
set_option linter.unusedSimpArgs false

theorem length_oz (z : List (List Int)) : (oz z).length = olen z := by
  have := olen_le z
  simp [oz]
  omega
theorem tr_zero {a : List Int} (h : tlen a = 0) : tr a = [] := by
  rw [tr, h]
  rfl
theorem gt_oz (z : List (List Int)) (j : Nat) : gt (oz z) j = tr (gt z j) := by
  rcases Nat.lt_or_ge j (olen z) with h | h
  · have h1 : j < z.length := Nat.lt_of_lt_of_le h (olen_le z)
    simp [oz, gt, h, h1]
  · rw [gt_over0 _ _ (by rw [length_oz]; exact h), tr_zero (olen_zero z j h)]
theorem gt_mapt (z : List (List Int)) (j : Nat) : gt (z.map tr) j = tr (gt z j) := by
  rcases Nat.lt_or_ge j z.length with h | h
  · simp [gt, h]
  · rw [gt_over0 _ _ (by simpa using h), gt_over0 _ _ h]
    rfl
theorem olen_tlen {a b : List (List Int)} (h : ∀ j, tlen (gt a j) = tlen (gt b j)) : olen a = olen b := by
  refine olen_eq a (olen b) (fun j hj => by rw [h j]; exact olen_zero b j hj) ?_
  rcases Nat.eq_zero_or_pos (olen b) with h0 | h0
  · exact .inl h0
  · refine .inr ?_
    rw [h]
    intro e
    have h1 := tlen_top (b.map fun z => (tlen z : Int)) h0
    rw [gx_tlens] at h1
    apply h1
    show (tlen (gt b (olen b - 1)) : Int) = 0
    rw [e]
    rfl
theorem olen_mapt (z : List (List Int)) : olen (z.map tr) = olen z := olen_tlen fun j => by rw [gt_mapt, tlen_tr]
theorem otr_mapt (z : List (List Int)) : otr (z.map tr) = oz z := by rw [otr, olen_mapt, ← List.map_take]; rfl
theorem olen_oz (z : List (List Int)) : olen (oz z) = olen z := olen_tlen fun j => by rw [gt_oz, tlen_tr]
theorem otr_oz (z : List (List Int)) : otr (oz z) = oz z := by rw [otr, olen_oz, List.take_of_length_le (by rw [length_oz]; exact Nat.le_refl _)]
theorem odeg_low (zss : List (List Int)) : ∀ j, j ≤ zss.length → -1 ≤ odeg (zss.take j) := by
  intro j
  induction j with
  | zero => intro _; simp [odeg]
  | succ j ih =>
    intro hj
    have h1 := ih (by omega)
    rw [odeg_take zss j (by omega)]
    omega
theorem odeg_oz (z : List (List Int)) : odeg (oz z) = odeg z := by
  have key : ∀ j, odeg ((oz z).take j) = odeg (z.take j) := by
    intro j
    induction j with
    | zero => rfl
    | succ j ih =>
      rcases Nat.lt_or_ge j (olen z) with h | h
      · rw [odeg_take _ j (by rw [length_oz]; exact h), odeg_take _ j (Nat.lt_of_lt_of_le h (olen_le z)), ih, gt_oz, tlen_tr]
      · rw [List.take_of_length_le (by rw [length_oz]; omega)] at ih ⊢
        rcases Nat.lt_or_ge j z.length with h1 | h1
        · have h2 : -1 ≤ odeg (z.take j) := by
            have hb := odeg_low z j (by omega)
            exact hb
          rw [odeg_take _ j h1, ih, olen_zero z j h]
          simp only [Int.natCast_zero]
          omega
        · rw [List.take_of_length_le (by omega)] at ih ⊢
          exact ih
  have := key (max z.length (oz z).length)
  rw [List.take_of_length_le (by omega), List.take_of_length_le (by omega)] at this
  exact this
theorem obit_oz (z : List (List Int)) : obit (oz z) = obit z := by
  have key : ∀ j, obit ((oz z).take j) = obit (z.take j) := by
    intro j
    induction j with
    | zero => rfl
    | succ j ih =>
      rcases Nat.lt_or_ge j (olen z) with h | h
      · rw [obit_take _ j (by rw [length_oz]; exact h), obit_take _ j (Nat.lt_of_lt_of_le h (olen_le z)), ih, gt_oz, pb_trim]
      · rw [List.take_of_length_le (by rw [length_oz]; omega)] at ih ⊢
        rcases Nat.lt_or_ge j z.length with h1 | h1
        · have h2 : pb (gt z j) = 0 := by
            rw [← pb_trim, tr_zero (olen_zero z j h)]
            rfl
          rw [obit_take _ j h1, ih, h2]
          omega
        · rw [List.take_of_length_le (by omega)] at ih ⊢
          exact ih
  have := key (max z.length (oz z).length)
  rw [List.take_of_length_le (by omega), List.take_of_length_le (by omega)] at this
  exact this
end Go.Proofs.Ytcdfckjlmifjiaa
/-
  ashlarref3.At at an entry that is there, Lead of one that is not zero.
-/
namespace Go.Proofs.Ytcdfckjlmifjiaa
open Go.RowKit
set_option linter.unusedVariables false
set_option linter.unusedSimpArgs false

end Go.Proofs.Ytcdfckjlmifjiaa
/-
  What PolySums' walk wants besides: sizes of normal lists, Lead of any, Cut of a number.
-/
namespace Go.Proofs.Ytcdfckjlmifjiaa
open Go.RowKit
set_option linter.unusedVariables false
set_option linter.unusedSimpArgs false

theorem zb_zero : zb 0 = 0 := rfl
theorem pb_tr (zs : List Int) : pb (tr zs) = pb zs := by
  have step : ∀ j, tlen zs ≤ j → j ≤ zs.length → pb (zs.take j) = pb (tr zs) := by
    intro j
    induction j with
    | zero => intro h1 _; have : tlen zs = 0 := by omega
              rw [tr, this]
    | succ j ih =>
      intro h1 h2
      rcases Nat.lt_or_ge j (tlen zs) with h | h
      · have : tlen zs = j + 1 := by omega
        rw [tr, this]
      · rw [pb_take zs j (by omega), ih h (by omega), tlen_zero zs j h, zb_zero, Nat.max_zero]
  have := step zs.length (tlen_le zs) (Nat.le_refl _)
  rw [List.take_length] at this
  exact this.symm
/-- ashlarlaw1.Cut of a number as it may be handed in. -/
theorem Cut_e {w : World} {e : Ent} (h : RawE w e) :
    Calls Try.prog 25 #[.agg #[.bool e.s, .slice e.p e.n e.c]] w fun r w' => ∃ (u : Ent) (y : Int), r = .returned (.agg #[.bool u.s, .slice u.p u.n u.c]) ∧ EV w' 24 y u ∧ Go.Proofs.Ytcdfckjlmifjiaa.From w.heap.size u.p ∧ Below w.heap.size w w' := by
  obtain ⟨xs, h1, h2, h3, h4, h5, h6⟩ := h
  refine (Cut_any e.s e.p e.n e.c xs w h1 h2 h3 h4 h5 h6).mono ?_
  rintro r w1 ⟨p1, n1, c1, rfl, hA, hn, hF, hb⟩
  exact ⟨⟨e.s, p1, n1, c1⟩, _, rfl, ⟨_, hA, rfl, hn⟩, hF, hb⟩
theorem new_at (w : World) (o : Obj) : (w.alloc o).heap[w.heap.size]? = some o := by unfold World.alloc; exact Array.getElem?_push_size ..
theorem no_int {w : World} {g : Nat} {s : Bool} {q : Option Addr} {n c : Nat} {ty : TypeId} (hg : w.heap[g]? = some (.cells #[.bool s, .slice q n c] ty)) (o : Nat) (k : IntKind) (z : Int) : w.cell? ⟨g, o, none⟩ ≠ some (.int k z) := by
  intro h
  match o, h with
  | 0, h => simp [World.cell?, hg, go_sem] at h
  | 1, h => simp [World.cell?, hg, go_sem] at h
  | (o + 2), h => simp [World.cell?, hg, go_sem] at h
theorem RE.offb {w : World} {N : Nat} {z : Int} {e : Ent} (h : RE w N z e) {g : Nat} {s : Bool} {q : Option Addr} {n c : Nat} {ty : TypeId} (hg : w.heap[g]? = some (.cells #[.bool s, .slice q n c] ty)) : 0 < e.n → Off g e.p := by
  intro h0 a ha e
  obtain ⟨⟨ds, h1, h2, h3⟩, h4⟩ := h
  obtain ⟨b, off, hp, hc⟩ := h1.rd (by rw [h1.len]; exact h0)
  rw [hp] at ha
  cases ha
  dsimp only at e
  subst e
  exact no_int hg _ _ _ (hc 0 (by rw [h1.len]; exact h0))
theorem PR.gset {w : World} {N : Nat} {p : Option Addr} {n nc : Nat} {es : List Ent} {zs : List Int} {g o : Nat} {u v : Value} (h : PR w N p n nc es zs) (hp : 0 < n → Off g p) (hq : ∀ j, j < n → 0 < (ge es j).n → Off g (ge es j).p) : PR ((w.setCell ⟨g, o, none⟩ u).setCell ⟨g, o + 1, none⟩ v) N p n nc es zs := by
  refine ⟨h.el, h.zl, h.cap, h.bnd, ?_, fun j hj => (h.ev j hj).set2 (hq j hj)⟩
  intro hx
  have h0 := hp (by rw [← h.el]; exact hx)
  exact ((h.pl.set_other ⟨g, o, none⟩ u h0).set_other ⟨g, o + 1, none⟩ v h0) hx
theorem PA.lt {w : World} {K : Nat} {p : Option Addr} {n nc : Nat} {es : List Ent} {zs : List Int} (h : PA w K p n nc es zs) (i : Nat) : ((gx zs i).natAbs : Int) < pw K := by
  rcases Nat.lt_or_ge i n with hi | hi
  · obtain ⟨xs, h1, h2, h3⟩ := h.ev i hi
    rw [← h2]
    exact Int.lt_of_lt_of_le (h1.lt _) (pw_mono h3)
  · rw [gx_past zs n (by rw [h.zl]; exact Nat.le_refl _) i hi]
    exact pw_pos K
end Go.Proofs.Ytcdfckjlmifjiaa
/-
  ashlarref1.Is.
-/
namespace Go.Proofs.Ytcdfckjlmifjiaa
open Go.RowKit
set_option linter.unusedVariables false
set_option linter.unusedSimpArgs false

end Go.Proofs.Ytcdfckjlmifjiaa
/-
  ashlarref1.Is of what is known.
-/
namespace Go.Proofs.Ytcdfckjlmifjiaa
open Go.RowKit
set_option linter.unusedVariables false
set_option linter.unusedSimpArgs false

end Go.Proofs.Ytcdfckjlmifjiaa
/-
  ashlarlaw3.few.
-/
namespace Go.Proofs.Ytcdfckjlmifjiaa
open Go.RowKit
set_option linter.unusedVariables false
set_option linter.unusedSimpArgs false

end Go.Proofs.Ytcdfckjlmifjiaa
/-
  What the walks of ashlarlaw3 share: a literal as an argument, From and Is for entries.
-/
namespace Go.Proofs.Ytcdfckjlmifjiaa
open Go.RowKit
set_option linter.unusedVariables false
set_option linter.unusedSimpArgs false

theorem fr_mn {X W1 : World} {q : Option Addr} (h : Go.Proofs.Ytcdfckjlmifjiaa.From X.heap.size q) (hs : W1.heap.size ≤ X.heap.size) : Go.Proofs.Ytcdfckjlmifjiaa.From W1.heap.size q := fun a ha => Nat.le_trans hs (h a ha)
theorem pz_lit {W : World} {g : Nat} {e : Ent} (h0 : W.cell? ⟨g, 0, none⟩ = some (.bool e.s)) (h1 : W.cell? ⟨g, 1, none⟩ = some (.slice e.p e.n e.c)) (hr : RawE W e) : PZ W (some ⟨g, 0, none⟩) 1 1 [e] :=
  ⟨rfl, Nat.le_refl _, by decide, nofun, fun _ => ⟨g, 0, rfl, fun j hj => by
    obtain rfl : j = 0 := by simp at hj; omega
    exact ⟨h0, h1⟩⟩, fun j hj => by
    obtain rfl : j = 0 := by omega
    exact hr⟩
theorem cells_lit (w : World) (x y : Value) (t : Nat) : (w.alloc (.cells #[x, y] t)).cell? ⟨w.heap.size, 0, none⟩ = some x ∧ (w.alloc (.cells #[x, y] t)).cell? ⟨w.heap.size, 1, none⟩ = some y := ⟨by simp [go_sem], by simp [go_sem]⟩
theorem rFrom_e {w : World} {K : Nat} {z : Int} {e : Ent} (h : EV w K z e) :
    Calls Try.prog 10 #[.agg #[.bool e.s, .slice e.p e.n e.c]] w fun r w' => ∃ u : Ent, r = .returned (.agg #[.bool u.s, .slice u.p u.n u.c]) ∧ RE w' (2 * K) z u ∧ Go.Proofs.Ytcdfckjlmifjiaa.From w.heap.size u.p ∧ Below w.heap.size w w' := by
  obtain ⟨xs, h1, h2, h3⟩ := h
  refine (From_ansF e.s e.p e.n e.c xs w h1).mono ?_
  rintro r w1 ⟨s, p, n, d, rfl, h4, h5, h6, h7, h8⟩
  exact ⟨⟨s, p, n, n⟩, rfl, ⟨⟨d, h4, by rw [h5, h2], by show n ≤ _; omega⟩, rfl⟩, h7, h8⟩
end Go.Proofs.Ytcdfckjlmifjiaa
/-
  ashlarref8.Order (out of Aj).
-/
namespace Go.Proofs.Ytcdfckjlmifjiaa
open Go.RowKit
set_option linter.unusedVariables false
set_option linter.unusedSimpArgs false

set_option maxHeartbeats 2000000 in
/-- ashlarref8.Order. -/
theorem rOrder8_any (w : World) (p : Option Addr) (n nc : Nat) (hn : n ≤ 1000000) :
    Calls Try.prog 33 #[.slice p n nc] w fun e w' => e = .returned (.int .i64 ((n : Int) - 1)) ∧ w' = w := by
  have v1 : IntKind.i64.wrap ((n : Int) - 1) = (n : Int) - 1 := by rw [IntKind.wrap_i64]; omega
  go_enter Try.func33, Try.ntmps33
  go_wp2
  go_ret
  exact ⟨by simp [go_sem, v1], rfl⟩
end Go.Proofs.Ytcdfckjlmifjiaa
