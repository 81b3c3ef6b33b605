/-
  What the walks of the laws share: reference numbers carried on.
-/
import Derived.Test.YtgdbhgpabehcfaaDoorCx
import Derived.Test.YtgdbhgpabehcfaaDoorRh
namespace Go.Proofs.YtgdbhgpabehcfaaDoor
open Go.RowKit
set_option linter.unusedVariables false
set_option linter.unusedSimpArgs false

theorem RN.set {w : World} {s : Bool} {p : Option Addr} {n : Nat} {ds : List Int} (h : RN w s p n ds) {a : Addr} (hne : 0 < n → Off a.block p) (v : Value) : RN (w.setCell a v) s p n ds :=
  ⟨h.len, fun hx => (h.rd.set_other a v (hne (by rw [← h.len]; exact hx))) hx, h.u, h.nrm, h.sg, h.sml⟩
theorem RN.alloc {w : World} {s : Bool} {p : Option Addr} {n : Nat} {ds : List Int} (h : RN w s p n ds) (o : Obj) : RN (w.alloc o) s p n ds := ⟨h.len, h.rd.alloc o, h.u, h.nrm, h.sg, h.sml⟩
theorem RN.drew {w : World} {s : Bool} {p : Option Addr} {n : Nat} {ds : List Int} (h : RN w s p n ds) : RN w.drew s p n ds := ⟨h.len, h.rd.drew, h.u, h.nrm, h.sg, h.sml⟩
theorem RN_al {w : World} {s : Bool} {p : Option Addr} {n : Nat} {ds : List Int} {o : Obj} (h : RN w s p n ds) : RN (w.alloc o) s p n ds := h.alloc o
theorem RN_st3 {F : Nat} {w : World} {s : Bool} {p : Option Addr} {n : Nat} {ds : List Int} {a : Addr} {v : Value} (hF : Go.Proofs.YtgdbhgpabehcfaaDoor.From F p) (ha : a.block < F) (h : RN w s p n ds) : RN (w.setCell a v) s p n ds :=
  h.set (fun _ x hx e => by have := hF x hx; omega) v
theorem RN_st2 {U : Nat} {w : World} {s : Bool} {p : Option Addr} {n : Nat} {ds : List Int} {a : Addr} {v : Value} (hU : 0 < n → ∀ x, p = some x → x.block < U) (ha : U ≤ a.block) (h : RN w s p n ds) : RN (w.setCell a v) s p n ds :=
  h.set (fun hn x hx e => by have := hU hn x hx; omega) v
theorem RN.lt {w : World} {s : Bool} {p : Option Addr} {n : Nat} {ds : List Int} (h : RN w s p n ds) : 0 < n → ∀ x, p = some x → x.block < w.heap.size := fun hn x hx => by
  obtain ⟨b, off, hp, hlt⟩ := h.rd.lt (by rw [h.len]; exact hn)
  rw [hp] at hx
  cases hx
  exact hlt
/-- A reference number with its value. -/
theorem From_ansF (s : Bool) (p : Option Addr) (n nc : Nat) (xs : List Int) (w : World) (hA : AI w p n nc xs) :
    Calls Tryd.prog 8 #[.agg #[.bool s, .slice p n nc]] w fun e w' => ∃ s' p' n' ds', e = .returned (.agg #[.bool s', .slice p' n' n']) ∧ RN w' s' p' n' ds' ∧ rval s' ds' = ival s xs ∧ n' ≤ 2 * n ∧ Go.Proofs.YtgdbhgpabehcfaaDoor.From w.heap.size p' ∧ Below w.heap.size w w' := by
  refine (From_any s p n nc xs w hA).mono ?_
  rintro e w' ⟨s', q, nq, rfl, hR, rfl, hF, hb⟩
  refine ⟨_, q, nq, _, rfl, hR, by rw [rval_nsg s (u16_spl hA.u), rval_spl], ?_, hF, hb⟩
  have h1 := hR.nrm
  rw [tlen_tr] at h1
  have h2 := tlen_le (spl xs)
  rw [length_spl] at h2
  have := hA.len
  omega
theorem From_ans (s : Bool) (p : Option Addr) (n nc : Nat) (xs : List Int) (w : World) (hA : AI w p n nc xs) :
    Calls Tryd.prog 8 #[.agg #[.bool s, .slice p n nc]] w fun e w' => ∃ s' p' n' ds', e = .returned (.agg #[.bool s', .slice p' n' n']) ∧ RN w' s' p' n' ds' ∧ rval s' ds' = ival s xs ∧ n' ≤ 2 * n ∧ Below w.heap.size w w' := by
  refine (From_ansF s p n nc xs w hA).mono ?_
  rintro e w' ⟨s', p', n', ds', h1, h2, h3, h4, h5, h6⟩
  exact ⟨s', p', n', ds', h1, h2, h3, h4, h6⟩
/-- ashlarref1.Is of what is known. -/
theorem rIs_rn {B : Nat} {w : World} {s t : Bool} {p q : Option Addr} {n m : Nat} {xs ds : List Int} {z : Int} (h : NI B w s p n xs z) (hn : n ≤ 1000) (k : RN w t q m ds) (hm : m ≤ 1000) (hv : rval t ds = z) :
    Calls Tryd.prog 10 #[.agg #[.bool s, .slice p n n], .agg #[.bool t, .slice q m m]] w fun e w' => e = .returned (.bool true) ∧ Below w.heap.size w w' :=
  rIs_any h hn k.len hm k.rd k.u k.nrm k.sg hv
end Go.Proofs.YtgdbhgpabehcfaaDoor
