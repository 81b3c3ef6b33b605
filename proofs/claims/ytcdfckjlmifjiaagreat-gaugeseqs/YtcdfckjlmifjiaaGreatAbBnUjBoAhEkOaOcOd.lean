/-
  Operators: where they end; ore.trim.
-/
import Derived.Test.YtcdfckjlmifjiaaGreatDyAwOn
import Derived.Test.YtcdfckjlmifjiaaGreatUdLnWrIbWgUeUfUg
import Derived.Deep.DeepFit
import Derived.Test.YtcdfckjlmifjiaaGreatMmKpOr
import Derived.Test.YtcdfckjlmifjiaaGreatProg
import Derived.ProofKit
import Derived.OpenShut
import Derived.Lib.SmallJoins
import Derived.Lay
import Derived.LaidOnce
import Derived.SevenTiedAt
namespace Go.Proofs.YtcdfckjlmifjiaaGreat
open Go.RowKit
set_option linter.unusedVariables false
set_option linter.unusedSimpArgs false

/-- Where an operator ends. -/
def olen (zss : List (List Int)) : Nat := tlen (zss.map fun z => (tlen z : Int))
theorem olen_le (zss : List (List Int)) : olen zss ≤ zss.length := by
  have := tlen_le (zss.map fun z => (tlen z : Int))
  rwa [List.length_map] at this
theorem gx_tlens (zss : List (List Int)) (j : Nat) : gx (zss.map fun z => (tlen z : Int)) j = (tlen (gt zss j) : Int) := by
  rcases Nat.lt_or_ge j zss.length with h | h
  · simp [gx, gt, h]
  · have h1 : gt zss j = [] := by simp [gt, h]; rfl
    rw [h1]
    simp [gx, h]
    rfl
theorem olen_zero (zss : List (List Int)) (j : Nat) (h : olen zss ≤ j) : tlen (gt zss j) = 0 := by
  have := tlen_zero _ _ h
  rw [gx_tlens] at this
  omega
theorem olen_eq (zss : List (List Int)) (k : Nat) (h1 : ∀ j, k ≤ j → tlen (gt zss j) = 0) (h2 : k = 0 ∨ ¬ tlen (gt zss (k - 1)) = 0) : olen zss = k := by
  refine tlen_eq _ k (fun j hj => by rw [gx_tlens, h1 j hj]; rfl) ?_
  rcases h2 with h | h
  · exact .inl h
  · refine .inr ?_
    rw [gx_tlens]
    omega
theorem gt_over0 (zss : List (List Int)) (j : Nat) (h : zss.length ≤ j) : gt zss j = [] := by simp [gt, h]; rfl
theorem gt_take {α : Type} [Inhabited α] (l : List α) (n j : Nat) (h : j < n) : gt (l.take n) j = gt l j := by simp [gt, List.getElem?_take, h]
theorem gh_take (l : List Hdr) (n j : Nat) (h : j < n) : gh (l.take n) j = gh l j := by simp [gh, List.getElem?_take, h]
/-- A row's beginning. -/
theorem HRow.cut {α : Type} [Inhabited α] {D : Nat} {E : World → Nat → Nat → α → Hdr → Prop} {w : World} {B T : Nat} {ts : List α} {h : Hdr} {hs : List Hdr} (k : HRow D E w B T ts h hs) (n : Nat) (hn : n ≤ h.n) : HRow D E w B T (ts.take n) ⟨h.p, n, n⟩ (hs.take n) := by
  refine ⟨by have := k.el; simp; omega, by have := k.tl; simp; omega, Nat.le_refl _, Nat.le_trans hn (Nat.le_trans k.cap k.bnd), fun e => ?_, Nat.le_trans hn k.few, fun hp => ?_, fun a ha h0 => k.at_ a ha (Nat.lt_of_lt_of_le h0 hn), fun j hj => ?_⟩
  · have h1 := k.pn e
    have h2 := k.cap
    show n = 0
    omega
  · have hl : 0 < n ∧ 0 < hs.length := by simp at hp; omega
    obtain ⟨b, o, hb, hc⟩ := k.hl hl.2
    refine ⟨b, o, hb, fun j hj => ?_⟩
    have hj' : j < n ∧ j < hs.length := by simp at hj; omega
    rw [gh_take _ _ _ hj'.1]
    exact hc j hj'.2
  · rw [gh_take _ _ _ hj, gt_take _ _ _ hj]
    exact k.ev j (Nat.lt_of_lt_of_le hj hn)
set_option maxHeartbeats 2000000 in
theorem clipO_any (q : Option Addr) (m mc : Nat) (w : World) (h : m ≤ mc) (hc : mc ≤ maxLen) (hq : q = none → mc = 0) :
    Calls Tryz.prog 82 #[.slice q m mc] w fun e w' => e = .returned (.slice q m m) ∧ w = w' := by
  unfold maxLen at hc
  go_enter Tryz.func82, Tryz.ntmps82
  go_wp2
  go_ret
  exact ⟨rfl, rfl⟩
set_option maxHeartbeats 2000000 in
set_option maxRecDepth 100000 in
/-- ore.trim. -/
theorem otrim_any {w : World} {B T K E D : Nat} {zss : List (List Int)} {h : Hdr} (H : HR D (EZ K E) w B T zss h) (hT : T ≤ w.heap.size) (hD : D ≤ 1000000) (hE : E ≤ 1000000) :
    Calls Tryz.prog 65 #[.slice h.p h.n h.c] w fun e w' => e = .returned (.slice h.p (olen zss) (olen zss)) ∧ Below w.heap.size w w' := by
  obtain ⟨hs, k⟩ := H
  have HX : Hid (HRow D (EZ K E) w B T zss h hs ∧ T ≤ w.heap.size) := ⟨k, hT⟩
  have hn : h.n ≤ D := k.few
  have hcap : h.n ≤ h.c := k.cap
  have hbnd : h.c ≤ maxLen := k.bnd
  have hpn : h.p = none → h.c = 0 := k.pn
  have HL : Hid (zss.length = h.n) := k.tl
  obtain ⟨p, n, nc⟩ := h
  simp only at hn hcap hbnd hpn HL ⊢
  have hbnd' := hbnd
  unfold maxLen at hbnd'
  clear k hT
  go_enter Tryz.func65, Tryz.ntmps65
  go_wp2
  go_loopw [3] (fun nv wr => ∃ k : Nat, k ≤ n ∧ nv = .int .i64 k ∧ Hid ((∀ j, k ≤ j → tlen (gt zss j) = 0) ∧ Below w.heap.size w wr)) (fun nv _ => (intOf nv).toNat)
  case atStart => exact ⟨n, Nat.le_refl _, by go_num, fun j hj => by rw [gt_over0 _ _ (by have := HL.out; omega)]; rfl, Below.refl _ _⟩
  case round =>
    obtain ⟨k, hk, rfl, H⟩ := hrel
    rcases Nat.eq_zero_or_pos k with h0 | h0
    · subst h0
      have HT : Hid (olen zss = 0) := olen_eq zss 0 (fun j _ => H.out.1 j (Nat.zero_le _)) (.inl rfl)
      have hcl := fun w => clipO_any p 0 nc w (Nat.zero_le _) hbnd hpn
      go_wp2_with fail
      go_fit (hcl wr)
      rintro e w1 ⟨rfl, rfl⟩
      clear hcl
      go_wp2
      go_ret
      exact ⟨by rw [HT.out]; rfl, H.out.2⟩
    · obtain ⟨i, rfl⟩ : ∃ i, k = i + 1 := ⟨k - 1, by omega⟩
      obtain ⟨H1, H2⟩ := H.out
      have HH : Hid ((∀ j, i + 1 ≤ j → tlen (gt zss j) = 0) ∧ Below w.heap.size w wr) := ⟨H1, H2⟩
      obtain ⟨b, o, hp, hc⟩ := HX.out.1.hl (by rw [HX.out.1.el]; show 0 < n; omega)
      simp only at hp
      subst hp
      have c0 := hc i (by rw [HX.out.1.el]; show i < n; omega)
      have c1 : wr.cell? ⟨b, o + i, none⟩ = some (gh hs i).val := by rw [H2.cell (block_lt_of_cell c0)]; exact c0
      have hE2 := (lasts_EZ K E).below (HX.out.1.ev i (by show i < n; omega)) HX.out.2 H2
      generalize gh hs i = hd at c1 hE2
      obtain ⟨p2, n2, nc2⟩ := hd
      simp only [Hdr.val] at c1
      obtain ⟨es2, hP2, hd3, -, -⟩ := hE2
      simp only at hP2 hd3
      have v1 : wrap64 ((i : Int) + 1 - 1) = (i : Int) := by unfold wrap64; omega
      have hlt : (i : Int) < (n : Int) := by omega
      clear H H1 H2 hc c0
      go_wp2_with fail
      go_fit (uDeg_any K p2 n2 nc2 es2 (gt zss i) wr hP2 (by omega))
      rintro e w1 ⟨rfl, hb1⟩
      have hB := bnext' HH.out.2 hb1
      have HBB : Hid (Below w.heap.size w w1) := hB
      clear c1 hP2 hb1 hB
      have hcs : Hid (tlen (gt zss i) = 0 ∨ ¬ tlen (gt zss i) = 0) := Classical.em _
      rcases hcs.out with hz | hz
      · have HZ : Hid (tlen (gt zss i) = 0) := hz
        have d1 : (tlen (gt zss i) : Int) - 1 < 0 := by omega
        clear hz hcs
        generalize (tlen (gt zss i) : Int) - 1 = t at *
        go_wp2
        go_roundw
        case rel => exact ⟨i, by omega, by go_num, fun j hj => by
          rcases Nat.lt_or_ge i j with h | h
          · exact HH.out.1 j h
          · have : j = i := by omega
            subst this; exact HZ.out, HBB.out⟩
        case measure => simp [intOf]
      · have HT : Hid (olen zss = i + 1) := olen_eq zss (i + 1) HH.out.1 (.inr hz)
        have d1 : ¬ (tlen (gt zss i) : Int) - 1 < 0 := by omega
        clear hz hcs
        generalize (tlen (gt zss i) : Int) - 1 = t at *
        have hcl := fun w => clipO_any (some ⟨b, o, none⟩) (i + 1) nc w (by omega) hbnd hpn
        go_wp2_with fail
        go_fit (hcl w1)
        rintro e w2 ⟨rfl, rfl⟩
        clear hcl
        go_wp2
        go_ret
        exact ⟨by rw [HT.out]; rfl, HBB.out⟩
end Go.Proofs.YtcdfckjlmifjiaaGreat
/-
  The length of an operator's entries (out of Ad).
-/
namespace Go.Proofs.YtcdfckjlmifjiaaGreat
open Go.RowKit
set_option linter.unusedVariables false
set_option linter.unusedSimpArgs false

theorem hr_len {w : World} {B T K E D : Nat} {zss : List (List Int)} {h : Hdr} (H : HR D (EZ K E) w B T zss h) (i : Nat) : (gt zss i).length ≤ E := by
  obtain ⟨rs, hr⟩ := H
  rcases Nat.lt_or_ge i zss.length with hk | hk
  · obtain ⟨fs, hP, hd, -⟩ := hr.ev i (by rw [← hr.tl]; exact hk)
    rw [hP.zl]
    exact hd
  · rw [gt_over0 _ _ hk]
    exact Nat.zero_le _
end Go.Proofs.YtcdfckjlmifjiaaGreat
/-
  upoly.Bits, isZero, weigh.
-/
namespace Go.Proofs.YtcdfckjlmifjiaaGreat
open Go.RowKit
set_option linter.unusedVariables false
set_option linter.unusedSimpArgs false

/-- How many bits a number has. -/
def zb (z : Int) : Nat := if z = 0 then 0 else z.natAbs.log2 + 1
theorem zb_ib (z : Int) : IB (zb z) (z.natAbs : Int) := by
  unfold zb
  split
  · rename_i h; subst h; exact ⟨by decide, by decide, .inl rfl⟩
  · rename_i h
    have h0 : z.natAbs ≠ 0 := by omega
    refine ⟨by omega, ?_, .inr ?_⟩
    · have := Nat.lt_log2_self (n := z.natAbs)
      exact_mod_cast this
    · have := Nat.log2_self_le h0
      simp only [Nat.add_sub_cancel]
      exact_mod_cast this
theorem nbits_zb {s : Bool} {xs : List Int} (hU : U32 xs) : nbits xs = (zb (ival s xs) : Int) := by
  obtain ⟨b, hb, hI⟩ := nbits_ib hU
  have e : ((ival s xs).natAbs : Int) = val xs := by
    have := val_nonneg hU
    rw [ival]
    split <;> omega
  have hz := zb_ib (ival s xs)
  rw [e] at hz
  rw [hb, hI.uniq hz]
theorem Bits_ev {w : World} {K : Nat} {z : Int} {e : Ent} (h : EV w K z e) : Calls Tryz.prog 48 #[.agg #[.bool e.s, .slice e.p e.n e.c]] w fun r w' => r = .returned (.int .i64 (zb z)) ∧ Below w.heap.size w w' := by
  obtain ⟨xs, h1, rfl, h3⟩ := h
  rw [← nbits_zb (s := e.s) h1.u]
  exact Bits_any e.s e.p e.n e.c xs w h1
/-- The greatest entry's bits. -/
def pb (zs : List Int) : Nat := zs.foldl (fun m z => max m (zb z)) 0
theorem pb_take (zs : List Int) (j : Nat) (h : j < zs.length) : pb (zs.take (j + 1)) = max (pb (zs.take j)) (zb (gx zs j)) := by
  rw [gx_mem zs j h, List.take_succ_eq_append_getElem h, pb, List.foldl_append]
  rfl
theorem zb_le {w : World} {K : Nat} {z : Int} {e : Ent} (h : EV w K z e) : zb z ≤ 32 * K := by
  obtain ⟨xs, h1, rfl, h3⟩ := h
  obtain ⟨q1, q2, q3⟩ := nbits_len h1.u
  rw [nbits_zb (s := e.s) h1.u] at q3
  have := tlen_le xs
  have := h1.len
  omega
set_option maxHeartbeats 2000000 in
set_option maxRecDepth 100000 in
/-- upoly.Bits. -/
theorem uBits_any {w : World} {K : Nat} {p : Option Addr} {n nc : Nat} {es : List Ent} {zs : List Int} (h : PA w K p n nc es zs) (hn : n ≤ 1000000) (hK : K ≤ 1000) :
    Calls Tryz.prog 67 #[.slice p n nc] w fun r w' => r = .returned (.int .i64 (pb zs)) ∧ pb zs ≤ 32 * K ∧ Below w.heap.size w w' := by
  have hel := h.el
  have hzl := h.zl
  go_enter Tryz.func67, Tryz.ntmps67
  go_wp2_with fail
  go_loopw [3, 5, 8] (fun mv cv kv wr => ∃ j : Nat, j ≤ n ∧ kv = .int .i64 j ∧ mv = .int .i64 (pb (zs.take j)) ∧ Hid (pb (zs.take j) ≤ 32 * K ∧ Below w.heap.size w wr)) (fun _ _ kv _ => n - (intOf kv).toNat)
  case atStart => exact ⟨0, Nat.zero_le _, by go_num, by simp [pb], by simp [pb], Below.refl _ _⟩
  case round =>
    obtain ⟨j, hj, rfl, rfl, H⟩ := hrel
    rcases Nat.lt_or_ge j n with hlt | hge
    · have hh := h.below H.out.2
      have hv := hh.ev j hlt
      obtain ⟨b, o, hp, hc⟩ := hh.pl (by omega)
      subst hp
      obtain ⟨c0, c1⟩ := hc j (by omega)
      have hz := zb_le hv
      have HT : Hid (pb (zs.take (j + 1)) = max (pb (zs.take j)) (zb (gx zs j))) := pb_take zs j (by omega)
      clear hc hh
      go_wp2_with fail
      have hal := bel_al (o := .cells #[.bool (ge es j).s, .slice (ge es j).p (ge es j).n (ge es j).c] 50) (Below.refl wr.heap.size wr)
      refine (Bits_ev (hv.below hal)).mono ?_
      rintro e w1 ⟨rfl, hb1⟩
      have hB := bnext' H.out.2 (bnext' hal hb1)
      have hmx : max (pb (zs.take j) : Int) (zb (gx zs j) : Int) = ((pb (zs.take (j + 1)) : Nat) : Int) := by rw [HT.out]; omega
      clear c0 c1 hv hal hb1
      go_wp2
      go_roundw
      case rel => exact ⟨j + 1, by omega, by go_num, rfl, by rw [HT.out]; have := H.out.1; omega, hB⟩
      case measure => simp [intOf]; omega
    · obtain rfl : j = n := by omega
      have HT : Hid (zs.take j = zs) := List.take_of_length_le (by omega)
      clear hge
      go_wp2
      go_ret
      obtain ⟨h1, h2⟩ := H.out
      rw [HT.out] at h1
      exact ⟨by rw [HT.out]; rfl, h1, h2⟩
/-- How many limbs a number has. -/
def zl (z : Int) : Nat := (zb z + 31) / 32
def sl (zs : List Int) : Nat := zs.foldl (fun m z => m + zl z) 0
theorem EN.zl {w : World} {K : Nat} {z : Int} {e : Ent} (h : EN w K z e) : e.n = zl z ∧ zl z ≤ K := by
  obtain ⟨xs, h1, rfl, h3, h4, h5⟩ := h
  obtain ⟨q1, q2, q3⟩ := nbits_len h1.u
  rw [nbits_zb (s := e.s) h1.u] at q1
  have : Go.Proofs.YtcdfckjlmifjiaaGreat.zl (ival e.s xs) = e.n := by unfold Go.Proofs.YtcdfckjlmifjiaaGreat.zl; omega
  exact ⟨this.symm, by omega⟩
end Go.Proofs.YtcdfckjlmifjiaaGreat
/-
  ore.Order; degrees, bits, the normal form (out of Ag, Ai).
-/
namespace Go.Proofs.YtcdfckjlmifjiaaGreat
open Go.RowKit
set_option linter.unusedVariables false
set_option linter.unusedSimpArgs false

theorem cell_later' {w w' : World} {a : Addr} {v : Value} (hb : Below w.heap.size w w') (h : w.cell? a = some v) : w'.cell? a = some v := by
  rw [hb.cell (block_lt_of_cell h)]
  exact h
set_option maxHeartbeats 2000000 in
/-- ore.Order. -/
theorem oOrder_any {w : World} {B T K E D : Nat} {zss : List (List Int)} {h : Hdr} (H : HR D (EZ K E) w B T zss h) (hT : T ≤ w.heap.size) (hD : D ≤ 1000000) (hE : E ≤ 1000000) :
    Calls Tryz.prog 44 #[.slice h.p h.n h.c] w fun e w' => e = .returned (.int .i64 ((olen zss : Int) - 1)) ∧ Below w.heap.size w w' := by
  have ht := otrim_any H hT hD hE
  have hl : olen zss ≤ 1000000 := by
    obtain ⟨hs, k⟩ := H
    have h1 := olen_le zss
    have h2 := k.tl
    have h3 := k.few
    omega
  obtain ⟨p, n, nc⟩ := h
  simp only at ht ⊢
  clear H hT
  generalize olen zss = m at *
  have v1 : IntKind.i64.wrap ((m : Int) - 1) = (m : Int) - 1 := by rw [IntKind.wrap_i64]; omega
  go_enter Tryz.func44, Tryz.ntmps44
  go_wp2_with fail
  go_fit ht
  rintro e w1 ⟨rfl, hb⟩
  clear ht
  go_wp2
  go_ret
  exact ⟨by simp [go_sem, v1], hb⟩
/-- The greatest degree. -/
def odeg (zss : List (List Int)) : Int := zss.foldl (fun m z => max m ((tlen z : Int) - 1)) (-1)
/-- The most bits. -/
def obit (zss : List (List Int)) : Nat := zss.foldl (fun m z => max m (pb z)) 0
theorem odeg_take (zss : List (List Int)) (j : Nat) (h : j < zss.length) : odeg (zss.take (j + 1)) = max (odeg (zss.take j)) ((tlen (gt zss j) : Int) - 1) := by
  unfold odeg
  rw [List.take_succ_eq_append_getElem h, List.foldl_append]
  simp [gt, h]
theorem obit_take (zss : List (List Int)) (j : Nat) (h : j < zss.length) : obit (zss.take (j + 1)) = max (obit (zss.take j)) (pb (gt zss j)) := by
  unfold obit
  rw [List.take_succ_eq_append_getElem h, List.foldl_append]
  simp [gt, h]
/-- The normal form. -/
def oz (zss : List (List Int)) : List (List Int) := (zss.take (olen zss)).map tr
end Go.Proofs.YtcdfckjlmifjiaaGreat
/-
  ore.Degree, Bits, Eq.
-/
namespace Go.Proofs.YtcdfckjlmifjiaaGreat
open Go.RowKit
set_option linter.unusedVariables false
set_option linter.unusedSimpArgs false

theorem odeg_bd {E : Nat} (zss : List (List Int)) (h : ∀ j, (gt zss j).length ≤ E) : ∀ j, j ≤ zss.length → -1 ≤ odeg (zss.take j) ∧ odeg (zss.take j) ≤ E := by
  intro j
  induction j with
  | zero => intro _; simp [odeg]
  | succ j ih =>
    intro hj
    have h1 := ih (by omega)
    have h2 := h j
    have h3 := tlen_le (gt zss j)
    rw [odeg_take zss j (by omega)]
    omega
theorem obit_bd {E : Nat} (zss : List (List Int)) (h : ∀ j, j < zss.length → pb (gt zss j) ≤ E) : ∀ j, j ≤ zss.length → obit (zss.take j) ≤ E := by
  intro j
  induction j with
  | zero => intro _; simp [obit]
  | succ j ih =>
    intro hj
    have h1 := ih (by omega)
    have h2 := h j (by omega)
    rw [obit_take zss j (by omega)]
    omega
set_option maxHeartbeats 2000000 in
set_option maxRecDepth 100000 in
/-- ore.Degree. -/
theorem oDegree_any {w : World} {B T K E D : Nat} {zss : List (List Int)} {h : Hdr} (H : HR D (EZ K E) w B T zss h) (hT : T ≤ w.heap.size) (hD : D ≤ 1000000) (hE : E ≤ 1000000) :
    Calls Tryz.prog 45 #[.slice h.p h.n h.c] w fun e w' => e = .returned (.int .i64 (odeg zss)) ∧ Below w.heap.size w w' := by
  have hlen := hr_len H
  have HBD := (show Hid _ from odeg_bd zss hlen)
  obtain ⟨hs, k⟩ := H
  have HX : Hid (HRow D (EZ K E) w B T zss h hs ∧ T ≤ w.heap.size) := ⟨k, hT⟩
  have hn : h.n ≤ D := k.few
  have HL : Hid (zss.length = h.n) := k.tl
  obtain ⟨p, n, nc⟩ := h
  simp only at hn HL ⊢
  clear k hT hlen
  go_enter Tryz.func45, Tryz.ntmps45
  go_wp2_with fail
  go_loopw [3, 8] (fun mv kv wr => ∃ i : Nat, i ≤ n ∧ mv = .int .i64 (odeg (zss.take i)) ∧ kv = .int .i64 i ∧ Hid (Below w.heap.size w wr)) (fun _ kv _ => n - (intOf kv).toNat)
  case atStart => exact ⟨0, Nat.zero_le _, by simp [odeg], by go_num, Below.refl _ _⟩
  case round =>
    obtain ⟨i, hi, rfl, rfl, G⟩ := hrel
    rcases Nat.lt_or_ge i n with hlt | hge
    · have g4 := G.out
      obtain ⟨b, o, hp, hc⟩ := HX.out.1.hl (by rw [HX.out.1.el]; show 0 < n; omega)
      simp only at hp
      subst hp
      have c0 := hc i (by rw [HX.out.1.el]; exact hlt)
      have c1 : wr.cell? ⟨b, o + i, none⟩ = some (gh hs i).val := cell_later' g4 c0
      have hE2 := (lasts_EZ K E).below (HX.out.1.ev i hlt) HX.out.2 g4
      generalize gh hs i = hd at c1 hE2
      obtain ⟨p2, n2, nc2⟩ := hd
      simp only [Hdr.val] at c1
      obtain ⟨es2, hP2, hd3, -, -⟩ := hE2
      simp only at hP2 hd3
      have i1 : (i : Int) < (n : Int) := by omega
      have hcall := uDeg_any K p2 n2 nc2 es2 (gt zss i) wr hP2 (by omega)
      have HT : Hid (odeg (zss.take (i + 1)) = max (odeg (zss.take i)) ((tlen (gt zss i) : Int) - 1)) := odeg_take zss i (by have := HL.out; omega)
      clear hc c0 hP2 g4
      go_wp2_with fail
      go_fit hcall
      rintro e w1 ⟨rfl, hb1⟩
      have HB1 : Hid (Below w.heap.size w w1) := bnext' G.out hb1
      clear c1 hcall hb1
      obtain ⟨M, hM⟩ : ∃ M, odeg (zss.take (i + 1)) = M := ⟨_, rfl⟩
      have HEQ := (show Hid _ from hM)
      rw [hM] at HT
      clear hM
      generalize odeg (zss.take i) = d at *
      generalize (tlen (gt zss i) : Int) - 1 = t at *
      have h4 : max d t = M := HT.out.symm
      go_wp2
      go_roundw
      case rel => exact ⟨i + 1, by omega, by rw [HEQ.out], by go_num, HB1.out⟩
      case measure => simp [intOf]; omega
    · obtain rfl : i = n := by omega
      have i1 : ¬ (i : Int) < (i : Int) := by omega
      have HZ : Hid (zss.take i = zss) := List.take_of_length_le (by have := HL.out; omega)
      go_wp2
      go_ret
      exact ⟨by rw [HZ.out]; rfl, G.out⟩
set_option maxHeartbeats 2000000 in
set_option maxRecDepth 100000 in
/-- ore.Bits. -/
theorem oBits_any {w : World} {B T K E D : Nat} {zss : List (List Int)} {h : Hdr} (H : HR D (EZ K E) w B T zss h) (hT : T ≤ w.heap.size) (hD : D ≤ 1000000) (hE : E ≤ 1000000) (hK : K ≤ 1000) :
    Calls Tryz.prog 46 #[.slice h.p h.n h.c] w fun e w' => e = .returned (.int .i64 (obit zss)) ∧ Below w.heap.size w w' := by
  obtain ⟨hs, k⟩ := H
  have HX : Hid (HRow D (EZ K E) w B T zss h hs ∧ T ≤ w.heap.size) := ⟨k, hT⟩
  have hn : h.n ≤ D := k.few
  have HL : Hid (zss.length = h.n) := k.tl
  obtain ⟨p, n, nc⟩ := h
  simp only at hn HL ⊢
  clear k hT
  go_enter Tryz.func46, Tryz.ntmps46
  go_wp2_with fail
  go_loopw [3, 8] (fun mv kv wr => ∃ i : Nat, i ≤ n ∧ mv = .int .i64 (obit (zss.take i)) ∧ kv = .int .i64 i ∧ Hid (Below w.heap.size w wr)) (fun _ kv _ => n - (intOf kv).toNat)
  case atStart => exact ⟨0, Nat.zero_le _, by simp [obit], by go_num, Below.refl _ _⟩
  case round =>
    obtain ⟨i, hi, rfl, rfl, G⟩ := hrel
    rcases Nat.lt_or_ge i n with hlt | hge
    · have g4 := G.out
      obtain ⟨b, o, hp, hc⟩ := HX.out.1.hl (by rw [HX.out.1.el]; show 0 < n; omega)
      simp only at hp
      subst hp
      have c0 := hc i (by rw [HX.out.1.el]; exact hlt)
      have c1 : wr.cell? ⟨b, o + i, none⟩ = some (gh hs i).val := cell_later' g4 c0
      have hE2 := (lasts_EZ K E).below (HX.out.1.ev i hlt) HX.out.2 g4
      generalize gh hs i = hd at c1 hE2
      obtain ⟨p2, n2, nc2⟩ := hd
      simp only [Hdr.val] at c1
      obtain ⟨es2, hP2, hd3, -, -⟩ := hE2
      simp only at hP2 hd3
      have i1 : (i : Int) < (n : Int) := by omega
      have hcall := uBits_any hP2 (by omega) hK
      have HT : Hid (obit (zss.take (i + 1)) = max (obit (zss.take i)) (pb (gt zss i))) := obit_take zss i (by have := HL.out; omega)
      clear hc c0 hP2 g4
      go_wp2_with fail
      go_fit hcall
      rintro e w1 ⟨rfl, -, hb1⟩
      have HB1 : Hid (Below w.heap.size w w1) := bnext' G.out hb1
      clear c1 hcall hb1
      obtain ⟨M, hM⟩ : ∃ M, obit (zss.take (i + 1)) = M := ⟨_, rfl⟩
      have HEQ := (show Hid _ from hM)
      rw [hM] at HT
      clear hM
      generalize obit (zss.take i) = d at *
      generalize pb (gt zss i) = t at *
      have h4 : max (d : Int) (t : Int) = (M : Int) := by have := HT.out; omega
      go_wp2
      go_roundw
      case rel => exact ⟨i + 1, by omega, by rw [HEQ.out], by go_num, HB1.out⟩
      case measure => simp [intOf]; omega
    · obtain rfl : i = n := by omega
      have i1 : ¬ (i : Int) < (i : Int) := by omega
      have HZ : Hid (zss.take i = zss) := List.take_of_length_le (by have := HL.out; omega)
      go_wp2
      go_ret
      exact ⟨by rw [HZ.out]; rfl, G.out⟩
end Go.Proofs.YtcdfckjlmifjiaaGreat
/-
  gauge.Of.
-/
namespace Go.Proofs.YtcdfckjlmifjiaaGreat
open Go.RowKit
set_option linter.unusedVariables false
set_option linter.unusedSimpArgs false

set_option maxHeartbeats 1000000 in
set_option maxRecDepth 100000 in
/-- gauge.Of. -/
theorem gOf_any {w : World} {B T K E D : Nat} {zss : List (List Int)} {h : Hdr} (H : HR D (EZ K E) w B T zss h) (hT : T ≤ w.heap.size) (hD : D ≤ 1000000) (hE : E ≤ 1000000) (hK : K ≤ 1000) :
    Calls Tryz.prog 19 #[.slice h.p h.n h.c] w fun e w' => e = .returned (.agg #[.int .i64 (max ((olen zss : Int) - 1) 0), .int .i64 (max (odeg zss) 0), .int .i64 (obit zss)]) ∧ Below w.heap.size w w' := by
  have h1 := fun w' (hb : Below w.heap.size w w') => oOrder_any ((lasts_HR (lasts_EZ K E)).below H hT hb) (Nat.le_trans hT hb.size) hD hE
  have h2 := fun w' (hb : Below w.heap.size w w') => oDegree_any ((lasts_HR (lasts_EZ K E)).below H hT hb) (Nat.le_trans hT hb.size) hD hE
  have h3 := fun w' (hb : Below w.heap.size w w') => oBits_any ((lasts_HR (lasts_EZ K E)).below H hT hb) (Nat.le_trans hT hb.size) hD hE hK
  obtain ⟨p, n, nc⟩ := h
  simp only at h1 h2 h3 ⊢
  clear H hT
  generalize (olen zss : Int) - 1 = r at *
  generalize odeg zss = d at *
  generalize (obit zss : Int) = k at *
  obtain ⟨r', hr'⟩ : ∃ r', max r 0 = r' := ⟨_, rfl⟩
  obtain ⟨d', hd'⟩ : ∃ d', max d 0 = d' := ⟨_, rfl⟩
  have h4 := fun w => eSize_any w r d k
  rw [hr', hd'] at h4
  rw [hr', hd']
  clear hr' hd'
  have hW : Below w.heap.size w (w.alloc (.cells #[.int .i64 0, .int .i64 0, .int .i64 0] 45)) := (Below.refl _ _).alloc (Nat.le_refl _) _
  have hG : (w.alloc (.cells #[.int .i64 0, .int .i64 0, .int .i64 0] 45)).heap[w.heap.size]? = some (.cells #[.int .i64 0, .int .i64 0, .int .i64 0] 45 (0, 0)) := heap_alloc_new w _
  go_enter Tryz.func19, Tryz.ntmps19
  go_wp2_with fail
  generalize w.alloc (.cells #[.int .i64 0, .int .i64 0, .int .i64 0] 45) = W at *
  go_fit (h1 W hW)
  rintro e w1 ⟨rfl, hb1⟩
  have hB1 := bnext' hW hb1
  have h2' := h2 w1 hB1
  go_wp2_with fail
  go_fit h2'
  rintro e w2 ⟨rfl, hb2⟩
  have hB2 := bnext' hB1 hb2
  have h3' := h3 w2 hB2
  go_wp2_with fail
  go_fit h3'
  rintro e w3 ⟨rfl, hb3⟩
  have hB3 := bnext' hB2 hb3
  have hV3 := bnext' hb1 (bnext' hb2 hb3)
  clear h1 h2 h3 h2' h3' hb1 hb2 hb3 hB2 hB1
  go_wp2_with fail
  go_fit (h4 w3)
  rintro e w4 ⟨rfl, hb4⟩
  have hG4 : w4.heap[w.heap.size]? = some (.cells #[.int .i64 0, .int .i64 0, .int .i64 0] 45 (0, 0)) := ((bnext' hV3 hb4).block _ (Array.getElem?_eq_some_iff.1 hG).1).trans hG
  have HB : Hid (Below w.heap.size w w4) := bnext' hB3 hb4
  have z0 : w4.cell? ⟨w.heap.size, 0, none⟩ = some (.int .i64 0) := by simp only [World.cell?]; rw [hG4]; rfl
  have z1 : w4.cell? ⟨w.heap.size, 1, none⟩ = some (.int .i64 0) := by simp only [World.cell?]; rw [hG4]; rfl
  have z2 : w4.cell? ⟨w.heap.size, 2, none⟩ = some (.int .i64 0) := by simp only [World.cell?]; rw [hG4]; rfl
  have f0 := frozen_of_row w4 _ 0 _ _ hG4
  have f1 := frozen_of_row w4 _ 1 _ _ hG4
  have f2 := frozen_of_row w4 _ 2 _ _ hG4
  clear hB3 hb4 hV3 hG hG4 hW
  clear h4
  go_wp2_with fail
  refine bodyPost_ret (v := .agg #[.int .i64 r', .int .i64 d', .int .i64 k]) (by simp [results, Tryz.results19, go_sem, z0, z1, z2]) rfl ⟨rfl, ?_⟩
  exact ((HB.out.setCell (p := ⟨w.heap.size, 0, none⟩) (Nat.le_refl _) _).setCell (p := ⟨w.heap.size, 1, none⟩) (Nat.le_refl _) _).setCell (p := ⟨w.heap.size, 2, none⟩) (Nat.le_refl _) _
end Go.Proofs.YtcdfckjlmifjiaaGreat
/-
  Arguments, read as data: what every card wants.
-/
namespace Go.Proofs.YtcdfckjlmifjiaaGreat
open Go.ChangeShapes Go.WideShapes Go.ChangeAt Go.RowKit Go.Joins
set_option linter.unusedVariables false
set_option linter.unusedSimpArgs false

theorem own : ownKnob Tryz.prog.godebug = none := by kernel_rfl
theorem laidOut : laidOutB Tryz.prog = true := by kernel_rfl
end Go.Proofs.YtcdfckjlmifjiaaGreat
/-
  What an argument of type api.Int is, read as data.
-/
namespace Go.Proofs.YtcdfckjlmifjiaaGreat
open Go.ChangeShapes Go.WideShapes Go.ChangeAt Go.RowKit Go.Joins
set_option linter.unusedVariables false
set_option linter.unusedSimpArgs false

theorem cellsInt : Tryz.prog.cellsOf 50 = 2 := by kernel_rfl
theorem cellsLimb : Tryz.prog.cellsOf 100 = 1 := by kernel_rfl

/-- What an api.Int is, as an argument. -/
def IntArg (W : World) (v : Value) : Prop := ∃ (s : Bool) (pa : Option Addr) (n nc : Nat) (xs : List Int), v = .agg #[.bool s, .slice pa n nc] ∧ xs.length = n ∧ n ≤ nc ∧ nc ≤ maxLen ∧ Rd W pa .u32 xs ∧ U32 xs ∧ (pa = none → nc = 0)

end Go.Proofs.YtcdfckjlmifjiaaGreat
/-
  What an argument of type api.Rat is, read as data.
-/
namespace Go.Proofs.YtcdfckjlmifjiaaGreat
open Go.ChangeShapes Go.WideShapes Go.ChangeAt Go.RowKit Go.Joins
set_option linter.unusedVariables false
set_option linter.unusedSimpArgs false

theorem cellsRat : Tryz.prog.cellsOf 56 = 4 := by kernel_rfl
theorem cellsBool : Tryz.prog.cellsOf 4 = 1 := by kernel_rfl
theorem cellsLimbs : Tryz.prog.cellsOf 48 = 1 := by kernel_rfl

set_option maxRecDepth 100000 in
theorem intCells {H : Type} {enc : TypeId × Value → H} {W : World} {fuel : Nat} {v0 v1 : Value} {y : DataW H × List MemPlace}
    (h : DataW.trod enc Tryz.prog W 0 (fun _ => true) true fuel 50 [v0, v1] = some y) : IntArg W (.agg #[v0, v1]) := by
  obtain ⟨y0, y1, n, hx, -, hy0, hy1⟩ := trod_struct2 Tryz.underlying50 h
  simp only [cellsBool, cellsLimbs, List.drop_zero, List.drop_succ_cons, List.take_succ_cons, List.take_zero] at hy0 hy1
  obtain ⟨s, e0, -⟩ := DataW.trod_bool Tryz.underlying4 hy0
  simp only [List.cons.injEq, and_true] at e0
  subst e0
  rcases open_ints Tryz.underlying48 Tryz.underlying100 cellsLimb hy1 with ⟨hcs, -⟩ | ⟨a, len, cap, zs, hcs, -, hl, hm, hz, -, hcell, hwz⟩
  · simp only [List.cons.injEq, and_true] at hcs
    subst hcs
    exact ⟨s, none, 0, 0, [], rfl, rfl, Nat.le_refl _, Nat.zero_le _, Rd.nil, u32_nil, fun _ => rfl⟩
  · simp only [List.cons.injEq, and_true] at hcs
    subst hcs
    simp only [if_true] at hz
    refine ⟨s, some a, len, cap, zs.take len, rfl, by simp; omega, hl, hm, ?_, ?_, fun h => by cases h⟩
    · intro hp
      have hp' : 0 < zs.length := by simp at hp; omega
      obtain ⟨b, off, rfl, hc⟩ := ints_at hcell hp'
      refine ⟨b, off, rfl, fun j hj => ?_⟩
      have hj' : j < len ∧ j < zs.length := by simp at hj; omega
      rw [gx_take _ _ _ hj'.1]
      exact hc j hj'.2
    · refine u32_take (fun j => ?_) len
      by_cases hj : j < zs.length
      · have := hwz zs[j] (List.getElem_mem hj)
        rw [gx_mem zs j hj]
        have h4 : 0 ≤ zs[j] ∧ zs[j] ≤ 4294967295 := by
          simpa [Lit.wf, IntKind.min, IntKind.max, IntKind.signed, IntKind.bits] using this
        exact ⟨h4.1, by omega⟩
      · rw [gx_past zs _ (Nat.le_refl _) j (by omega)]; decide
end Go.Proofs.YtcdfckjlmifjiaaGreat
