/-
  Plain: the value of a polynomial.
-/
import Derived.Test.YtifebbacnlhggaaGreatDoorUlUmVsUoDmVt
import Derived.Test.YtifebbacnlhggaaGreatDoorBpBnBoAhAdBsDtAgWvUhAiRzVd
import Derived.Test.YtifebbacnlhggaaGreatDoorVqDcUj
import Derived.Test.YtifebbacnlhggaaGreatDoorDsAeVuWxUpUqRm
import Derived.Deep.DeepFit
namespace Go.Proofs.YtifebbacnlhggaaGreatDoor
open Go.RowKit
set_option linter.unusedVariables false
set_option linter.unusedSimpArgs false
set_option maxHeartbeats 8000000
theorem ps_past (zs ys : List Int) (t : Nat) : ∀ m, ps zs ys (zs.length + m) t = ps zs ys zs.length t
  | 0 => rfl
  | m + 1 => by rw [← Nat.add_assoc, ps_none zs ys _ t (gx_past zs _ (Nat.le_refl _) _ (by omega)), ps_past zs ys t m]
theorem ps_late (zs ys : List Int) (t : Nat) : ∀ m, ps zs ys (t + 1 + m) t = ps zs ys (t + 1) t
  | 0 => rfl
  | m + 1 => by
    rw [← Nat.add_assoc, ps, ps_late zs ys t m, if_neg (by omega), Int.add_zero]
theorem ps_nil (zs : List Int) (t : Nat) : ∀ i, ps zs [] i t = 0
  | 0 => rfl
  | i + 1 => by rw [ps, ps_nil zs t i]; simp [gx]
theorem gx_mulp (zs ys : List Int) (t : Nat) : gx (mulp zs ys) t = ps zs ys (t + 1) t := by
  have h0 : ps zs ys (t + 1) t = ps zs ys zs.length t := by
    have h1 := ps_late zs ys t (zs.length)
    have h2 := ps_past zs ys t (t + 1)
    rw [Nat.add_comm] at h2
    rw [← h1, h2]
  rw [h0, mulp]
  by_cases h : zs.length = 0 ∨ ys.length = 0
  · rw [if_pos h]
    rcases h with h | h
    · rw [h]; rfl
    · rw [List.eq_nil_of_length_eq_zero h, ps_nil]; rfl
  · rw [if_neg h]
    rcases Nat.lt_or_ge t (zs.length + ys.length - 1) with h1 | h1
    · rw [gx_mulz _ _ _ h1]
    · rw [gx_past _ (zs.length + ys.length - 1) (by rw [length_mulz]; exact Nat.le_refl _) t h1, ps_far zs ys t zs.length (by omega)]
def co (a : Int) : List Int → Nat → Int
  | [], _ => 0
  | c :: cs, 0 => c + a * co a cs 0
  | c :: cs, j + 1 => co a cs j + a * co a cs (j + 1)
def hor (a : Int) : List Int → List Int
  | [] => []
  | c :: cs => (c + a * gx (hor a cs) 0) :: hor a cs
theorem length_hor (a : Int) : ∀ zs, (hor a zs).length = zs.length
  | [] => rfl
  | c :: cs => by simp [hor, length_hor a cs]
theorem gx_cons_zero (c : Int) (cs : List Int) : gx (c :: cs) 0 = c := by simp [gx]
theorem gx_cons_succ (c : Int) (cs : List Int) (j : Nat) : gx (c :: cs) (j + 1) = gx cs j := by simp [gx]
theorem gx_hor (a : Int) : ∀ (zs : List Int) (j : Nat), gx (hor a zs) j = gx zs j + a * gx (hor a zs) (j + 1)
  | [], j => by simp [hor, gx]
  | c :: cs, 0 => by rw [hor, gx_cons_zero, gx_cons_zero, gx_cons_succ]
  | c :: cs, j + 1 => by rw [hor, gx_cons_succ, gx_cons_succ, gx_cons_succ]; exact gx_hor a cs j
theorem co_hor (a : Int) : ∀ (cs : List Int) (c : Int), (∀ j, co a (c :: cs) (j + 1) = co a (hor a cs) j) ∧ co a (c :: cs) 0 = c + a * gx (hor a cs) 0
  | [], c => ⟨fun j => by simp [co, hor], by simp [co, hor, gx]⟩
  | d :: ds, c => by
    obtain ⟨h1, h2⟩ := co_hor a ds d
    have h0 : co a (d :: ds) 0 = gx (hor a (d :: ds)) 0 := by rw [h2, hor, gx_cons_zero]
    refine ⟨fun j => ?_, by rw [co, h0]⟩
    have e : co a (c :: d :: ds) (j + 1) = co a (d :: ds) j + a * co a (d :: ds) (j + 1) := rfl
    rw [e, h1, hor]
    cases j with
    | zero => rw [h2]; rfl
    | succ j => rw [h1]; rfl
def shr (a : Int) : Nat → List Int → List Int
  | 0, zs => zs
  | i + 1, zs => (shr a i zs).take i ++ hor a ((shr a i zs).drop i)
theorem length_shr (a : Int) (zs : List Int) : ∀ i, (shr a i zs).length = zs.length
  | 0 => rfl
  | i + 1 => by rw [shr, List.length_append, length_hor, List.length_take, List.length_drop, length_shr a zs i]; omega
theorem gx_app_lo (xs ys : List Int) (j : Nat) (h : j < xs.length) : gx (xs ++ ys) j = gx xs j := by simp [gx, List.getElem?_append_left h]
theorem gx_app_hi (xs ys : List Int) (j : Nat) : gx (xs ++ ys) (xs.length + j) = gx ys j := by
  simp [gx, List.getElem?_append_right]
theorem co_shr (a : Int) (zs : List Int) : ∀ i, i ≤ zs.length → (∀ j, j < i → gx (shr a i zs) j = co a zs j) ∧ (∀ j, co a ((shr a i zs).drop i) j = co a zs (i + j))
  | 0, _ => ⟨fun j hj => by omega, fun j => by rw [shr, List.drop_zero, Nat.zero_add]⟩
  | i + 1, h => by
    obtain ⟨h1, h2⟩ := co_shr a zs i (by omega)
    have hl := length_shr a zs i
    have hlt : ((shr a i zs).take i).length = i := by rw [List.length_take, hl]; omega
    obtain ⟨c, cs, hc⟩ : ∃ c cs, (shr a i zs).drop i = c :: cs := by
      cases hd : (shr a i zs).drop i with
      | nil => have := congrArg List.length hd; rw [List.length_drop, hl, List.length_nil] at this; omega
      | cons c cs => exact ⟨c, cs, rfl⟩
    obtain ⟨g1, g2⟩ := co_hor a cs c
    have hdrop : (shr a (i + 1) zs).drop (i + 1) = hor a cs := by
      rw [shr, hc, hor, List.drop_append, hlt, List.drop_eq_nil_of_le (by rw [hlt]; omega)]
      simp
    refine ⟨fun j hj => ?_, fun j => ?_⟩
    · rw [shr]
      rcases Nat.lt_or_ge j i with h3 | h3
      · rw [gx_app_lo _ _ _ (by omega), gx_take _ _ _ h3]
        exact h1 j h3
      · obtain rfl : j = i := by omega
        have h4 := gx_app_hi ((shr a j zs).take j) (hor a ((shr a j zs).drop j)) 0
        rw [hlt, Nat.add_zero] at h4
        rw [h4, hc, hor, gx_cons_zero, ← g2, ← hc, h2]
        rfl
    · rw [hdrop, ← g1, ← hc, h2]
      congr 1
      omega
theorem gx_shr_all (a : Int) (zs : List Int) (j : Nat) : gx (shr a zs.length zs) j = co a zs j := by
  obtain ⟨h1, h2⟩ := co_shr a zs zs.length (Nat.le_refl _)
  rcases Nat.lt_or_ge j zs.length with h | h
  · exact h1 j h
  · have h3 := h2 (j - zs.length)
    rw [List.drop_eq_nil_of_le (by rw [length_shr]; exact Nat.le_refl _), show zs.length + (j - zs.length) = j by omega] at h3
    rw [gx_past _ zs.length (by rw [length_shr]; exact Nat.le_refl _) j h, ← h3]
    rfl
theorem co_zero : ∀ (zs : List Int) (j : Nat), co 0 zs j = gx zs j
  | [], j => by simp [co, gx]
  | c :: cs, 0 => by rw [co, gx_cons_zero]; omega
  | c :: cs, j + 1 => by rw [co, gx_cons_succ, co_zero cs j]; omega
theorem co_past (a : Int) : ∀ (zs : List Int) (j : Nat), zs.length ≤ j → co a zs j = 0
  | [], _, _ => rfl
  | c :: cs, 0, h => by simp at h
  | c :: cs, j + 1, h => by
    simp only [List.length_cons] at h
    rw [co, co_past a cs j (by omega), co_past a cs (j + 1) (by omega)]
    omega
theorem co_top (a : Int) : ∀ (cs : List Int) (c : Int), co a (c :: cs) cs.length = gx (c :: cs) cs.length
  | [], c => by rw [List.length_nil, co, gx_cons_zero]; simp [co]
  | d :: ds, c => by
    rw [List.length_cons, co, gx_cons_succ, co_top a ds d, co_past a (d :: ds) (ds.length + 1) (by simp)]
    omega
theorem shr_top' (a : Int) (zs : List Int) (h : tlen zs = zs.length) : tlen (shr a zs.length zs) = zs.length := by
  refine tlen_eq _ _ (fun j hj => gx_past _ zs.length (by rw [length_shr]; exact Nat.le_refl _) j hj) ?_
  cases zs with
  | nil => exact .inl rfl
  | cons c cs =>
    refine .inr ?_
    rw [gx_shr_all, List.length_cons, Nat.add_sub_cancel, co_top]
    have h1 := tlen_top (c :: cs) (by rw [h]; simp)
    rw [h, List.length_cons, Nat.add_sub_cancel] at h1
    exact h1
def coz (a : Int) (zs : List Int) : List Int := tr ((List.range zs.length).map (co a zs))
theorem gx_coz (a : Int) (zs : List Int) (t : Nat) : gx (coz a zs) t = co a zs t := by
  rw [coz, gx_tr]
  rcases Nat.lt_or_ge t zs.length with h | h
  · rw [gx_mem _ _ (by simpa using h)]
    simp
  · rw [gx_past _ zs.length (by simp) t h, co_past a zs t h]
theorem coz_nrm (a : Int) (zs : List Int) : tlen (coz a zs) = (coz a zs).length := by rw [coz, tlen_tr, length_tr]
theorem length_coz (a : Int) (zs : List Int) : (coz a zs).length ≤ zs.length := by
  rw [coz, length_tr]
  refine Nat.le_trans (tlen_le _) ?_
  simp
theorem coz_shr (a : Int) (zs : List Int) (h : tlen zs = zs.length) : coz a zs = shr a zs.length zs := by
  have h1 : tr (shr a zs.length zs) = shr a zs.length zs := by rw [tr, shr_top' a zs h]; exact List.take_of_length_le (by rw [length_shr]; exact Nat.le_refl _)
  rw [← h1, coz]
  refine tr_same fun t => ?_
  have h2 := gx_coz a zs t
  rw [coz, gx_tr] at h2
  rw [h2, gx_shr_all]
theorem ps_line (s : List Int) (a : Int) (t : Nat) : ps s [a, 1] (t + 1) t = a * gx s t + (if t = 0 then 0 else gx s (t - 1)) := by
  rw [ps, if_pos (Nat.le_refl _), Nat.sub_self]
  have g0 : gx [a, 1] 0 = a := by simp [gx]
  have g1 : gx [a, 1] 1 = 1 := by simp [gx]
  rw [g0]
  cases t with
  | zero => simp [ps, Int.mul_comm]
  | succ t =>
    rw [ps, ps_far s [a, 1] (t + 1) t (by simp), if_pos (by omega), show t + 1 - t = 1 by omega, g1, if_neg (by omega), Nat.add_sub_cancel, Int.mul_comm a]
    omega
theorem coz_step (a c : Int) (cs : List Int) : tr (pz (· + ·) (mulp (coz a cs) [a, 1]) (tr [c])) = coz a (c :: cs) := by
  have h : coz a (c :: cs) = tr (coz a (c :: cs)) := by rw [tr, coz_nrm, List.take_length]
  rw [h]
  refine tr_same fun t => ?_
  rw [gx_pz0 _ rfl, gx_mulp, ps_line, gx_tr, gx_coz, gx_coz]
  cases t with
  | zero =>
    rw [if_pos rfl, gx_cons_zero, gx_coz]
    show a * co a cs 0 + 0 + c = c + a * co a cs 0
    omega
  | succ t =>
    rw [if_neg (by omega), Nat.add_sub_cancel, gx_coz, gx_cons_succ]
    have h0 : gx ([] : List Int) t = 0 := by simp [gx]
    rw [h0]
    show a * co a cs (t + 1) + co a cs t + 0 = co a cs t + a * co a cs (t + 1)
    omega
theorem co_lt {a : Int} {K L : Nat} (ha : (a.natAbs : Int) < pw L) : ∀ (zs : List Int), (∀ t, ((gx zs t).natAbs : Int) < pw K) → ∀ t, ((co a zs t).natAbs : Int) < pw (K + zs.length * (L + 1))
  | [], _, t => by simpa [co] using pw_pos _
  | c :: cs, h, t => by
    have ih := co_lt ha cs (fun j => by have := h (j + 1); rwa [gx_cons_succ] at this)
    have hB : pw K ≤ pw (K + cs.length * (L + 1)) := pw_mono (by omega)
    have e : K + (c :: cs).length * (L + 1) = K + cs.length * (L + 1) + L + 1 := by
      simp only [List.length_cons]
      rw [Nat.succ_mul]
      omega
    rw [e]
    generalize K + cs.length * (L + 1) = B at *
    have h1 : ∀ t, ((a * co a cs t).natAbs : Int) ≤ pw (B + L) := fun t => by
      rw [Int.natAbs_mul, pw_add, Int.mul_comm (pw B)]
      push_cast
      exact Int.mul_le_mul (Int.le_of_lt ha) (Int.le_of_lt (ih t)) (by omega) (Int.le_of_lt (pw_pos _))
    have h3 : pw B ≤ pw (B + L) := pw_mono (by omega)
    have h4 := pw_pos (B + L)
    rw [pw_succ]
    cases t with
    | zero =>
      have h2 := h 0
      rw [gx_cons_zero] at h2
      have h5 := h1 0
      show ((c + a * co a cs 0).natAbs : Int) < _
      omega
    | succ t =>
      have h2 := ih t
      have h5 := h1 (t + 1)
      show ((co a cs t + a * co a cs (t + 1)).natAbs : Int) < _
      omega
theorem lenm (zs ys : List Int) : (mulp zs ys).length ≤ zs.length + ys.length := by
  unfold mulp
  split
  · exact Nat.zero_le _
  · rw [length_mulz]; omega
structure CR (w wr : World) (ps : Option Addr) (ns : Nat) (ess : List Ent) (xs : List Int) : Prop where
  s : PR wr 180 ps ns ns ess xs
  fr : Go.Proofs.YtifebbacnlhggaaGreatDoor.From w.heap.size ps
  bw : Below w.heap.size w wr
theorem pr_lit {W : World} {N g : Nat} {z : Int} {e : Ent} (h0 : W.cell? ⟨g, 0, none⟩ = some (.bool e.s)) (h1 : W.cell? ⟨g, 1, none⟩ = some (.slice e.p e.n e.c)) (hr : RE W N z e) : PR W N (some ⟨g, 0, none⟩) 1 1 [e] [z] :=
  ⟨rfl, rfl, Nat.le_refl _, by decide, fun _ => ⟨g, 0, rfl, fun j hj => by
    obtain rfl : j = 0 := by simp at hj; omega
    exact ⟨h0, h1⟩⟩, fun j hj => by
    obtain rfl : j = 0 := by omega
    exact hr⟩
theorem cells_at (w : World) (x y : Value) (t : Nat) : (w.alloc (.cells #[x, y] t)).cell? ⟨w.heap.size, 0, none⟩ = some x ∧ (w.alloc (.cells #[x, y] t)).cell? ⟨w.heap.size, 1, none⟩ = some y := ⟨by simp [go_sem], by simp [go_sem]⟩
theorem PR.trm {W : World} {N : Nat} {p : Option Addr} {n nc : Nat} {es : List Ent} {zs : List Int} (h : PR W N p n nc es zs) : PR W N p (tlen zs) (tlen zs) (es.take (tlen zs)) (tr zs) := by
  have h1 := tlen_le zs
  have h2 := h.zl
  have h3 := h.cap
  exact h.take (tlen zs) (tlen zs) (by omega) (Nat.le_refl _) (by omega)
theorem PR.tight {W : World} {N K : Nat} {p : Option Addr} {n nc : Nat} {es : List Ent} {zs : List Int} (h : PR W N p n nc es zs) (hz : ∀ t, ((gx zs t).natAbs : Int) < pw K) : PR W (2 * K) p n nc es zs := ⟨h.el, h.zl, h.cap, h.bnd, h.pl, fun j hj => ⟨(h.ev j hj).1.tight (hz j), (h.ev j hj).2⟩⟩
theorem PR.wide {W : World} {N M : Nat} {p : Option Addr} {n nc : Nat} {es : List Ent} {zs : List Int} (h : PR W N p n nc es zs) (hM : N ≤ M) : PR W M p n nc es zs := ⟨h.el, h.zl, h.cap, h.bnd, h.pl, fun j hj => (h.ev j hj).wide hM⟩
set_option maxRecDepth 100000 in
theorem rpCompose_any {w : World} {N K L : Nat} {p q : Option Addr} {n nc qc : Nat} {es fs : List Ent} {zs : List Int} {a : Int} (h : PR w N p n nc es zs) (k : PR w 200 q 2 qc fs [a, 1]) (hn : n ≤ 100) (hN : N ≤ 200) (hN4 : 4 ≤ N) (hX : ∀ i, ((gx zs i).natAbs : Int) < pw K) (hY : (a.natAbs : Int) < pw L) (hL : 1 ≤ L) (hK : K + n * (L + 1) + L ≤ 80) :
    Calls Tryz.prog 53 #[.slice p n nc, .slice q 2 qc] w (PrP (coz a zs) 180 w) := by
  have HX : Hid (PR w N p n nc es zs ∧ PR w 200 q 2 qc fs [a, 1] ∧ (∀ i t, i ≤ n → ((gx (coz a (zs.drop i)) t).natAbs : Int) < pw (K + n * (L + 1))) ∧ (∀ t, ((gx [a, 1] t).natAbs : Int) < pw L)) := by
    refine ⟨h, k, fun i t hi => ?_, fun t => ?_⟩
    · rw [gx_coz]
      have h1 := co_lt (K := K) hY (zs.drop i) (fun j => by rw [gx_drop]; exact hX _) t
      refine Int.lt_of_lt_of_le h1 (pw_mono ?_)
      have h2 : (zs.drop i).length ≤ n := by rw [List.length_drop, h.zl]; omega
      have := Nat.mul_le_mul_right (L + 1) h2
      omega
    · match t with
      | 0 => rw [gx_cons_zero]; exact hY
      | 1 =>
        have e : gx [a, 1] 1 = 1 := by simp [gx]
        have h1 := pw_mono hL
        have h2 : pw 1 = 4294967296 := by decide
        rw [e]
        show ((1 : Nat) : Int) < _
        omega
      | (t + 2) =>
        have e : gx [a, 1] (t + 2) = 0 := by simp [gx]
        rw [e]
        exact pw_pos _
  have hel := h.el
  have hzl := h.zl
  have HK : Hid (K + n * (L + 1) + L ≤ 80) := hK
  clear h k hX hY hK
  generalize hT : K + n * (L + 1) = T at *
  clear hT
  go_enter Tryz.func53, Tryz.ntmps53
  go_wp2_with fail
  go_loopw [5, 6] (fun sv iv wr => ∃ (k : Nat) (ps : Option Addr) (ns : Nat) (ess : List Ent), k ≤ n ∧ iv = .int .i64 ((k : Int) - 1) ∧ sv = .slice ps ns ns ∧ Hid (CR w wr ps ns ess (coz a (zs.drop k)))) (fun _ iv _ => (intOf iv + 1).toNat)
  case atStart =>
    refine ⟨n, none, 0, [], Nat.le_refl _, by go_num, rfl, ?_⟩
    show CR w w none 0 [] (coz a (zs.drop n))
    rw [List.drop_eq_nil_of_le (by omega)]
    exact ⟨pr_nil _ _, (fun a ha => by cases ha), Below.refl _ _⟩
  case round =>
    obtain ⟨k, ps, ns, ess, hk, rfl, rfl, H⟩ := hrel
    have hcs : Hid (k = 0 ∨ ∃ j, k = j + 1) := by cases k with | zero => exact .inl rfl | succ j => exact .inr ⟨j, rfl⟩
    rcases hcs.out with rfl | ⟨j, rfl⟩
    · have hV := H.out
      rw [List.drop_zero] at hV
      have HV : Hid (CR w wr ps ns ess (coz a zs)) := hV
      clear H hV hcs
      go_wp2
      go_ret
      exact ⟨ps, ns, ess, rfl, HV.out.s, HV.out.fr, by rw [coz_nrm, HV.out.s.zl], HV.out.bw⟩
    · have hV := H.out
      have hP := HX.out.1.below hV.bw
      obtain ⟨b, o, hp, hc⟩ := hP.pl (by omega)
      subst hp
      obtain ⟨c0, c1⟩ := hc j (by omega)
      have he := hP.ev j (by omega)
      have hQ := HX.out.2.1.below hV.bw
      have hns : ns ≤ 100 := by rw [← hV.s.zl]; refine Nat.le_trans (length_coz _ _) ?_; rw [List.length_drop]; omega
      have i0 : ((j + 1 : Nat) : Int) - 1 = (j : Int) := by omega
      have i1 : (j : Int) < (n : Int) := by omega
      have i2 : (0 : Int) ≤ (j : Int) := by omega
      have hlb : b < wr.heap.size := block_lt_of_cell c0
      have HV : Hid (CR w wr ps ns ess (coz a (zs.drop (j + 1)))) := hV
      have HD : Hid (zs.drop j = gx zs j :: zs.drop (j + 1)) := by
        show zs.drop j = gx zs j :: zs.drop (j + 1)
        rw [List.drop_eq_getElem_cons (by omega), gx_mem zs j (by omega)]
      have ne1 : ¬ b = wr.heap.size := by omega
      have ne2 : ¬ wr.heap.size = b := by omega
      rw [i0]
      clear hV hP hc hcs H
      go_upto_region 5 with fail
      go_region_with (first
        | (go_at_call 82; go_fit (rpMul_any (K := T) (L := L) (HV.out.s.below (by first | exact (Below.refl _ _).drew | exact (bel_al (Below.refl _ _)).drew)) (hQ.below (by first | exact (Below.refl _ _).drew | exact (bel_al (Below.refl _ _)).drew)) (coz_nrm _ _) (by rfl) (by omega) (by decide) (by decide) (by decide) (fun i => HX.out.2.2.1 (j + 1) i (by omega)) HX.out.2.2.2 (by have := HK.out; omega)); rintro r v1 ⟨p1, n1, e1, rfl, hR1, hF1, ht1, hb1⟩; have hB1 := undrew hb1; have hW1 := comp (X2 := wr) (w2 := wr) (Below.refl _ _) (by (repeat apply bel_al); exact Below.refl _ _) hB1; have d0 := cell_later hW1 c0; have d1 := cell_later hW1 c1; have hn1 : n1 ≤ 1000 := (by rw [← hR1.zl]; refine Nat.le_trans (lenm _ _) ?_; have h9 := length_coz a (zs.drop (j + 1)); rw [List.length_drop] at h9; simp only [List.length_cons, List.length_nil]; omega))
        | (go_at_call 54; (first
            | go_fit (rTrim_any N _ 1 1 [ge es j] [gx zs j] _ (pr_lit (cells_at v1 _ _ _).1 (cells_at v1 _ _ _).2 ((he.below hW1).below (bel_al (Below.refl _ _)))) (by decide))
            | go_fit (rTrim_any N _ 1 1 [ge es j] [gx zs j] _ (pr_lit (cell_later hB1 (cells_at wr _ _ _).1) (cell_later hB1 (cells_at wr _ _ _).2) (he.below hW1)) (by decide))); rintro r v2 ⟨rfl, hb2⟩; have hV2 := comp (X2 := v1) (w2 := v1) (Below.refl _ _) (by (repeat apply bel_al); exact Below.refl _ _) hb2; have hR2 := hR1.below hV2)
        | (go_at_call 81; (first
            | go_fit (rpAdd_any hR2 ((pr_lit (cells_at v1 _ _ _).1 (cells_at v1 _ _ _).2 ((he.below hW1).below (bel_al (Below.refl _ _)))).trm.below hb2) (by omega) (by have := tlen_le [gx zs j]; simp at this; omega) (by have := HK.out; omega) (by omega) (by omega) hN4)
            | go_fit (rpAdd_any hR2 ((pr_lit (cell_later hB1 (cells_at wr _ _ _).1) (cell_later hB1 (cells_at wr _ _ _).2) (he.below hW1)).trm.below hb2) (by omega) (by have := tlen_le [gx zs j]; simp at this; omega) (by have := HK.out; omega) (by omega) (by omega) hN4)); rintro r v3 ⟨p3, n3, e3, rfl, hR3, hF3, ht3, hb3⟩))
      all_goals
        have hnx : CR w v3 p3 n3 e3 (coz a (zs.drop j)) := by
          rw [coz_step, ← HD.out] at hR3
          have hB3 := bnext' hW1 (bnext' hV2 hb3)
          exact ⟨(hR3.tight (fun t => HX.out.2.2.1 j t (by omega))).wide (by have := HK.out; omega), fun x hx => by have h9 := hF3 x hx; have h8 := HV.out.bw.size; have h7 := hW1.size; have h6 := hV2.size; omega, bnext' HV.out.bw hB3⟩
        have HN := (show Hid _ from hnx)
        clear hnx hR1 hR2 hR3 c0 c1 HV d0 d1 he hQ
        go_wp2
        refine ⟨⟨j, p3, n3, e3, by omega, by go_num, rfl, HN.out⟩, by simp [intOf]⟩
end Go.Proofs.YtifebbacnlhggaaGreatDoor
