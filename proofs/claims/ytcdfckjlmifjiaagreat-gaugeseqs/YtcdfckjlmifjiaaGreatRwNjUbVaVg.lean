/-
  ashlarref1.Sign.
-/
import Derived.Test.YtcdfckjlmifjiaaGreatRdReRxBbCvRfRhCqRr
import Derived.Test.YtcdfckjlmifjiaaGreatWkWlBxRaWhWmBe
import Derived.Test.YtcdfckjlmifjiaaGreatUaOwPn
namespace Go.Proofs.YtcdfckjlmifjiaaGreat
open Go.RowKit
set_option linter.unusedVariables false
set_option linter.unusedSimpArgs false

theorem isgn_rval_zero {s : Bool} {xs : List Int} (hU : U16 xs) (h : tlen xs = 0) : isgn (rval s xs) = 0 := by
  have := (tlen_zero_iff16 hU).1 h
  cases s <;> simp [rval, isgn, this]
theorem isgn_rval {s : Bool} {xs : List Int} (hU : U16 xs) (h : tlen xs ≠ 0) : isgn (rval s xs) = if s then -1 else 1 := by
  have h1 : vd xs ≠ 0 := fun e => h ((tlen_zero_iff16 hU).2 e)
  have h2 := vd_nonneg hU
  cases s
  · simp only [rval, isgn, Bool.false_eq_true, if_false]; rw [if_neg h1, if_neg (by omega)]
  · simp only [rval, isgn, if_true]; rw [if_neg (by omega), if_pos (by omega)]

set_option maxHeartbeats 400000 in
/-- ashlarref1.Sign. -/
theorem rSign_any (s : Bool) (p : Option Addr) (n nc : Nat) (xs : List Int) (w : World) (hU : U16 xs) (tx : tlen xs = n) :
    Calls Tryz.prog 64 #[.agg #[.bool s, .slice p n nc]] w fun e w' => e = .returned (.int .i64 (isgn (rval s xs))) ∧ Below w.heap.size w w' := by
  by_cases h0 : tlen xs = 0
  · rw [isgn_rval_zero hU h0]
    obtain rfl : n = 0 := by omega
    clear h0 tx
    go_enter Tryz.func64, Tryz.ntmps64
    go_wp2
    go_ret
    exact ⟨rfl, (Below.refl _ _).alloc (Nat.le_refl _) _⟩
  · rw [isgn_rval hU h0]
    have h1 : ((n : Int) == 0) = false := beq_eq_false_iff_ne.2 (by omega)
    clear tx
    cases s
    all_goals
      go_enter Tryz.func64, Tryz.ntmps64
      go_wp2
      go_ret
      exact ⟨rfl, (Below.refl _ _).alloc (Nat.le_refl _) _⟩

end Go.Proofs.YtcdfckjlmifjiaaGreat
/-
  How long a number of a value is; numbers off a block; signs.
-/
namespace Go.Proofs.YtcdfckjlmifjiaaGreat
open Go.RowKit
set_option linter.unusedVariables false
set_option linter.unusedSimpArgs false

theorem NI.le {B : Nat} {w : World} {s : Bool} {p : Option Addr} {n : Nat} {xs : List Int} {z : Int} (h : NI B w s p n xs z) {k : Nat} (hz : (z.natAbs : Int) < pw k) : n ≤ k := by
  have hv : (z.natAbs : Int) = val xs := by
    have := val_nonneg h.u
    rw [← h.v, ival]
    split <;> omega
  rcases Nat.eq_zero_or_pos n with h0 | h0
  · omega
  · have h1 := val_pos_of_top h.u (by rw [h.nrm]; exact h0)
    rw [h.nrm] at h1
    have h2 : n - 1 < k := by
      rcases Nat.lt_or_ge (n - 1) k with h3 | h3
      · exact h3
      · have := pw_mono h3; omega
    omega
theorem AI.lt {w : World} {p : Option Addr} {n nc : Nat} {xs : List Int} (h : AI w p n nc xs) (s : Bool) : ((ival s xs).natAbs : Int) < pw n := by
  have h1 := val_nonneg h.u
  have h2 := val_lt_tlen h.u
  have h3 := pw_mono (tlen_le xs)
  rw [h.len] at h3
  rw [ival]
  split <;> omega
theorem off_from {B g : Nat} {p : Option Addr} (h : Go.Proofs.YtcdfckjlmifjiaaGreat.From B p) (hg : g < B) : Off g p := fun a ha e => by have := h a ha; omega
theorem AI.off {w : World} {p : Option Addr} {n nc : Nat} {xs : List Int} (h : AI w p n nc xs) {g : Nat} (hg : w.heap.size ≤ g) : 0 < n → Off g p := fun hn => h.rd.off hg (by rw [h.len]; exact hn)
theorem isgn_pos {z : Int} (h : 0 < z) : isgn z = 1 := by unfold isgn; rw [if_neg (by omega), if_neg (by omega)]
theorem isgn_neg {z : Int} (h : z < 0) : isgn z = -1 := by unfold isgn; rw [if_neg (by omega), if_pos h]
theorem isgn_zero {z : Int} (h : z = 0) : isgn z = 0 := by unfold isgn; rw [if_pos h]
end Go.Proofs.YtcdfckjlmifjiaaGreat
/-
  upoly.trim.
-/
namespace Go.Proofs.YtcdfckjlmifjiaaGreat
open Go.RowKit
set_option linter.unusedVariables false
set_option linter.unusedSimpArgs false

theorem Sign_ev {w : World} {K : Nat} {z : Int} {e : Ent} (h : EV w K z e) : Calls Tryz.prog 91 #[.agg #[.bool e.s, .slice e.p e.n e.c]] w fun r w' => r = .returned (.int .i64 (isgn z)) ∧ Below w.heap.size w w' := by
  obtain ⟨xs, h1, rfl, h3⟩ := h
  exact Sign_any e.s e.p e.n e.c xs w h1
set_option maxHeartbeats 1000000 in
/-- upoly.trim. -/
theorem utrim_any (K : Nat) (p : Option Addr) (n nc : Nat) (es : List Ent) (zs : List Int) (w : World) (h : PA w K p n nc es zs) (hn : n ≤ 1000000) :
    Calls Tryz.prog 83 #[.slice p n nc] w fun e w' => e = .returned (.slice p (tlen zs) (tlen zs)) ∧ Below w.heap.size w w' := by
  have hle := h.el
  go_enter Tryz.func83, Tryz.ntmps83
  go_wp2
  go_loopw [3] (fun nv wr => ∃ k : Nat, k ≤ n ∧ nv = .int .i64 k ∧ Hid ((∀ j, k ≤ j → gx zs j = 0) ∧ Below w.heap.size w wr)) (fun nv _ => (intOf nv).toNat)
  case atStart => exact ⟨n, Nat.le_refl _, by go_num, fun j hj => gx_past zs n (by rw [h.zl]; exact Nat.le_refl _) j hj, Below.refl _ _⟩
  case round =>
    obtain ⟨k, hk, rfl, H⟩ := hrel
    rcases Nat.eq_zero_or_pos k with h0 | h0
    · subst h0
      have HT : Hid (tlen zs = 0) := tlen_eq zs 0 (fun j _ => H.out.1 j (Nat.zero_le _)) (.inl rfl)
      go_wp2
      go_ret
      exact ⟨by rw [HT.out]; rfl, H.out.2⟩
    · obtain ⟨i, rfl⟩ : ∃ i, k = i + 1 := ⟨k - 1, by omega⟩
      obtain ⟨H1, H2⟩ := H.out
      have HH : Hid ((∀ j, i + 1 ≤ j → gx zs j = 0) ∧ Below w.heap.size w wr) := ⟨H1, H2⟩
      have hw := h.below H2
      obtain ⟨b, o, hp, hc⟩ := hw.pl (by omega)
      subst hp
      obtain ⟨c0, c1⟩ := hc i (by omega)
      have hv := hw.ev i (by omega)
      have hcap := h.cap
      have hbnd := h.bnd
      unfold maxLen at hbnd
      clear H H1 H2 hc
      go_wp2_with fail
      refine (Sign_ev hv).mono ?_
      rintro e w1 ⟨rfl, hb1⟩
      have hB := bnext' HH.out.2 hb1
      have hcs : Hid (gx zs i = 0 ∨ ¬ gx zs i = 0) := Classical.em _
      rcases hcs.out with hz | hz
      · rw [isgn_zero hz]
        have HZ : Hid (gx zs i = 0) := hz
        clear hz hcs c0 c1 hv
        go_wp2
        go_roundw
        case rel => exact ⟨i, by omega, by go_num, fun j hj => by
          rcases Nat.lt_or_ge i j with h | h
          · exact HH.out.1 j h
          · have : j = i := by omega
            subst this; exact HZ.out, hB⟩
        case measure => simp [intOf]
      · have HT : Hid (tlen zs = i + 1) := tlen_eq zs (i + 1) HH.out.1 (.inr hz)
        have hi : isgn (gx zs i) = 1 ∨ isgn (gx zs i) = -1 := by
          rcases (show 0 < gx zs i ∨ gx zs i < 0 by omega) with h | h
          · exact .inl (isgn_pos h)
          · exact .inr (isgn_neg h)
        clear hz hcs c0 c1 hv
        rcases hi with hi | hi
        all_goals
          rw [hi]
          clear hi
          go_wp2
          go_ret
          exact ⟨by rw [HT.out]; rfl, hB⟩
end Go.Proofs.YtcdfckjlmifjiaaGreat
/-
  Polynomials of the reference: Trim.
-/
namespace Go.Proofs.YtcdfckjlmifjiaaGreat
open Go.RowKit
set_option linter.unusedVariables false
set_option linter.unusedSimpArgs false

/-- The number of an element of the reference. -/
def RE (w : World) (N : Nat) (z : Int) (e : Ent) : Prop := RV w N z e.s e.p e.n ∧ e.c = e.n
/-- A list of the reference's numbers. -/
structure PR (w : World) (N : Nat) (p : Option Addr) (n nc : Nat) (es : List Ent) (zs : List Int) : Prop where
  el : es.length = n
  zl : zs.length = n
  cap : n ≤ nc
  bnd : nc ≤ maxLen
  pl : PL w p es
  ev : ∀ j, j < n → RE w N (gx zs j) (ge es j)
section
variable {w w' : World} {N : Nat} {z : Int} {e : Ent} {p : Option Addr} {n nc : Nat} {es : List Ent} {zs : List Int}
theorem RE.below (h : RE w N z e) (hb : Below w.heap.size w w') : RE w' N z e := ⟨h.1.below hb, h.2⟩
theorem RE.drew (h : RE w N z e) : RE w.drew N z e := ⟨h.1.drew, h.2⟩
theorem PR.below (h : PR w N p n nc es zs) (hb : Below w.heap.size w w') : PR w' N p n nc es zs := ⟨h.el, h.zl, h.cap, h.bnd, h.pl.below hb, fun j hj => (h.ev j hj).below hb⟩
theorem PR.drew (h : PR w N p n nc es zs) : PR w.drew N p n nc es zs := ⟨h.el, h.zl, h.cap, h.bnd, h.pl.drew, fun j hj => (h.ev j hj).drew⟩
theorem PR.take (h : PR w N p n nc es zs) (m c : Nat) (hm : m ≤ n) (hc : m ≤ c) (hc' : c ≤ nc) : PR w N p m c (es.take m) (zs.take m) :=
  ⟨by have := h.el; simp; omega, by have := h.zl; simp; omega, hc, Nat.le_trans hc' h.bnd, h.pl.take m, fun j hj => by rw [gx_take _ _ _ hj, ge_take _ _ _ hj]; exact h.ev j (by omega)⟩
theorem rSign_e (h : RE w N z e) : Calls Tryz.prog 64 #[.agg #[.bool e.s, .slice e.p e.n e.c]] w fun r w' => r = .returned (.int .i64 (isgn z)) ∧ Below w.heap.size w w' := by
  obtain ⟨⟨ds, h1, rfl, h3⟩, h4⟩ := h
  rw [h4]
  exact rSign_any e.s e.p e.n e.n ds w h1.u h1.nrm
end
set_option maxHeartbeats 1000000 in
/-- ashlarref3.Trim. -/
theorem rTrim_any (N : Nat) (p : Option Addr) (n nc : Nat) (es : List Ent) (zs : List Int) (w : World) (h : PR w N p n nc es zs) (hn : n ≤ 1000000) :
    Calls Tryz.prog 42 #[.slice p n nc] w fun e w' => e = .returned (.slice p (tlen zs) (tlen zs)) ∧ Below w.heap.size w w' := by
  have hle := h.el
  go_enter Tryz.func42, Tryz.ntmps42
  go_wp2
  go_loopw [3] (fun nv wr => ∃ k : Nat, k ≤ n ∧ nv = .int .i64 k ∧ Hid ((∀ j, k ≤ j → gx zs j = 0) ∧ Below w.heap.size w wr)) (fun nv _ => (intOf nv).toNat)
  case atStart => exact ⟨n, Nat.le_refl _, by go_num, fun j hj => gx_past zs n (by rw [h.zl]; exact Nat.le_refl _) j hj, Below.refl _ _⟩
  case round =>
    obtain ⟨k, hk, rfl, H⟩ := hrel
    rcases Nat.eq_zero_or_pos k with h0 | h0
    · subst h0
      have HT : Hid (tlen zs = 0) := tlen_eq zs 0 (fun j _ => H.out.1 j (Nat.zero_le _)) (.inl rfl)
      go_wp2
      go_ret
      exact ⟨by rw [HT.out]; rfl, H.out.2⟩
    · obtain ⟨i, rfl⟩ : ∃ i, k = i + 1 := ⟨k - 1, by omega⟩
      obtain ⟨H1, H2⟩ := H.out
      have HH : Hid ((∀ j, i + 1 ≤ j → gx zs j = 0) ∧ Below w.heap.size w wr) := ⟨H1, H2⟩
      have hw := h.below H2
      obtain ⟨b, o, hp, hc⟩ := hw.pl (by omega)
      subst hp
      obtain ⟨c0, c1⟩ := hc i (by omega)
      have hv := hw.ev i (by omega)
      have hcap := h.cap
      have hbnd := h.bnd
      unfold maxLen at hbnd
      clear H H1 H2 hc
      go_wp2_with fail
      refine (rSign_e hv).mono ?_
      rintro e w1 ⟨rfl, hb1⟩
      have hB := bnext' HH.out.2 hb1
      have hcs : Hid (gx zs i = 0 ∨ ¬ gx zs i = 0) := Classical.em _
      rcases hcs.out with hz | hz
      · rw [isgn_zero hz]
        have HZ : Hid (gx zs i = 0) := hz
        clear hz hcs c0 c1 hv
        go_wp2
        go_roundw
        case rel => exact ⟨i, by omega, by go_num, fun j hj => by
          rcases Nat.lt_or_ge i j with h | h
          · exact HH.out.1 j h
          · have : j = i := by omega
            subst this; exact HZ.out, hB⟩
        case measure => simp [intOf]
      · have HT : Hid (tlen zs = i + 1) := tlen_eq zs (i + 1) HH.out.1 (.inr hz)
        have hi : isgn (gx zs i) = 1 ∨ isgn (gx zs i) = -1 := by
          rcases (show 0 < gx zs i ∨ gx zs i < 0 by omega) with h | h
          · exact .inl (isgn_pos h)
          · exact .inr (isgn_neg h)
        clear hz hcs c0 c1 hv
        rcases hi with hi | hi
        all_goals
          rw [hi]
          clear hi
          go_wp2
          go_ret
          exact ⟨by rw [HT.out]; rfl, hB⟩
end Go.Proofs.YtcdfckjlmifjiaaGreat
/-
  Lists of numbers that grow by append, whatever the elements are.
-/
namespace Go.Proofs.YtcdfckjlmifjiaaGreat
open Go.RowKit
set_option linter.unusedVariables false
set_option linter.unusedSimpArgs false

/-- What is said of an element lasts while its own memory does. -/
structure Lasts (E : World → Int → Ent → Prop) : Prop where
  grown : ∀ {w w' : World} {z : Int} {e : Ent} {row : Option Nat}, E w z e → w.grownBy w' row → (0 < e.n → ∀ a, e.p = some a → some a.block ≠ row) → E w' z e
  lt : ∀ {w : World} {z : Int} {e : Ent}, E w z e → 0 < e.n → ∀ a, e.p = some a → a.block < w.heap.size
theorem Lasts.below {E : World → Int → Ent → Prop} (L : Lasts E) {w w' : World} {z : Int} {e : Ent} (h : E w z e) (hb : Below w.heap.size w w') : E w' z e := L.grown h (grownBy_below hb none) (fun _ _ _ e => by cases e)
theorem rd_grown {w w' : World} {p : Option Addr} {k : IntKind} {xs : List Int} {row : Option Nat} (h : Rd w p k xs) (hg : w.grownBy w' row) (hne : 0 < xs.length → ∀ a, p = some a → some a.block ≠ row) : Rd w' p k xs := fun hx => h.kept hg (hne hx) hx
theorem rd_lt {w : World} {p : Option Addr} {k : IntKind} {xs : List Int} (h : Rd w p k xs) (hx : 0 < xs.length) : ∀ a, p = some a → a.block < w.heap.size := fun a ha => by
  obtain ⟨b, off, hp, hlt⟩ := h.lt hx
  rw [hp] at ha
  cases ha
  exact hlt
theorem lasts_EV (K : Nat) : Lasts (fun w z e => EV w K z e) := ⟨fun h hg hne => by
    obtain ⟨xs, h1, h2⟩ := h
    exact ⟨xs, ⟨h1.len, h1.cap, h1.bnd, h1.sml, rd_grown h1.rd hg (by rw [h1.len]; exact hne), h1.u⟩, h2⟩, fun h hn => by
    obtain ⟨xs, h1, h2⟩ := h
    exact rd_lt h1.rd (by rw [h1.len]; exact hn)⟩
/-- The cells of a list. -/
def fl (es : List Ent) : List Value := es.flatMap fun e => [.bool e.s, .slice e.p e.n e.c]
theorem fl_snoc (es : List Ent) (e : Ent) : fl (es ++ [e]) = fl es ++ [.bool e.s, .slice e.p e.n e.c] := by simp [fl]
/-- A list that grows. -/
structure LG (base : Nat) (t : TypeId) (E : World → Int → Ent → Prop) (w : World) (v : Value) (es : List Ent) (zs : List Int) : Prop where
  own : w.ownsRow base t 2 v es.length (fl es)
  zl : zs.length = es.length
  ev : ∀ j, j < es.length → E w (gx zs j) (ge es j)
  off : ∀ j, j < es.length → 0 < (ge es j).n → ∀ a, (ge es j).p = some a → some a.block ≠ v.ownBlock
theorem LG.nil (base : Nat) (t : TypeId) (E : World → Int → Ent → Prop) (w : World) : LG base t E w (.slice none 0 0) [] [] := ⟨World.ownsRow_nil _ _ _ _, rfl, fun j hj => by simp at hj, fun j hj => by simp at hj⟩
theorem own_below {w w' : World} {base : Nat} {t : TypeId} {sz : Nat} {v : Value} {n : Nat} {xs : List Value} (h : w.ownsRow base t sz v n xs) (hb : Below w.heap.size w w') : w'.ownsRow base t sz v n xs :=
  h.kept (grownBy_below hb none) (Classical.em _)
theorem LG.below {base : Nat} {t : TypeId} {E : World → Int → Ent → Prop} (L : Lasts E) {w w' : World} {v : Value} {es : List Ent} {zs : List Int} (h : LG base t E w v es zs) (hb : Below w.heap.size w w') : LG base t E w' v es zs :=
  ⟨own_below h.own hb, h.zl, fun j hj => L.below (h.ev j hj) hb, h.off⟩
theorem LG.app {base : Nat} {t : TypeId} {E : World → Int → Ent → Prop} (L : Lasts E) {wr w1 w3 : World} {v : Value} {es : List Ent} {zs : List Int} {z : Int} {e : Ent} {o : Obj} {g cap k : Nat} (hk : es.length = k) (h : LG base t E wr v es zs) (hb1 : Below wr.heap.size wr w1) (hE : E w1 z e) (hF : 0 < e.n → ∀ a, e.p = some a → a.block < base ∨ wr.heap.size ≤ a.block)
    (hown : w3.ownsRow base t 2 (.slice (some ⟨g, 0, none⟩) (k + 1) cap) (k + 1) (fl es ++ [.bool e.s, .slice e.p e.n e.c])) (hgrow : (w1.alloc o).grownBy w3 v.ownBlock) (hat : v.ownBlock = some g ∨ g = (w1.alloc o).heap.size) :
    LG base t E w3 (.slice (some ⟨g, 0, none⟩) (k + 1) cap) (es ++ [e]) (zs ++ [z]) := by
  subst hk
  have hal : Below w1.heap.size w1 (w1.alloc o) := (Below.refl _ _).alloc (Nat.le_refl _) o
  have hs1 := hb1.size
  have hs2 := hal.size
  have old : ∀ j, j < es.length → E (w1.alloc o) (gx zs j) (ge es j) := fun j hj => L.below (L.below (h.ev j hj) hb1) hal
  have new : E (w1.alloc o) z e := L.below hE hal
  have noff : 0 < e.n → ∀ a, e.p = some a → some a.block ≠ v.ownBlock := fun hn a ha hq => by
    have h1 := (h.own.lt a.block hq.symm)
    have h2 := hF hn a ha
    omega
  refine ⟨by rw [List.length_append, fl_snoc]; exact hown, by simp [h.zl], fun j hj => ?_, fun j hj hn a ha hq => ?_⟩
  · rcases Nat.lt_or_ge j es.length with hlt | hge
    · rw [ge_append_left _ _ _ hlt, gx_append_left _ _ _ (by rw [h.zl]; exact hlt)]
      exact L.grown (old j hlt) hgrow (h.off j hlt)
    · have : j = es.length := by simp at hj; omega
      subst this
      have e1 : gx (zs ++ [z]) es.length = z := by rw [← h.zl, gx_append_right _ _ _ (Nat.le_refl _), Nat.sub_self]; rfl
      rw [ge_snoc, e1]
      exact L.grown new hgrow noff
  · have hq' : a.block = g := Option.some.inj hq
    rcases Nat.lt_or_ge j es.length with hlt | hge
    · rw [ge_append_left _ _ _ hlt] at hn ha
      rcases hat with h1 | h1
      · exact h.off j hlt hn a ha (by rw [h1, hq'])
      · have := L.lt (old j hlt) hn a ha
        omega
    · have : j = es.length := by simp at hj; omega
      subst this
      rw [ge_snoc] at hn ha
      rcases hat with h1 | h1
      · exact noff hn a ha (by rw [h1, hq'])
      · have := L.lt new hn a ha
        omega
theorem owns2_form {w : World} {B n : Nat} {t : TypeId} {v : Value} {xs : List Value} (h : w.ownsRow B t 2 v n xs) : ∃ q cap, v = .slice q n cap ∧ n ≤ cap ∧ cap ≤ maxLen ∧ Go.Proofs.YtcdfckjlmifjiaaGreat.From B q ∧ (q = none → cap = 0) := by
  rcases h.2 with ⟨h1, h2⟩ | ⟨g, cap, cur, h1, h2, h3, h4, h5, _⟩
  · exact ⟨none, 0, by rw [h1, h2], by omega, Nat.zero_le _, nofun, fun _ => rfl⟩
  · exact ⟨_, cap, h1, h4, h5, fun a ha => (by cases ha; exact h2), nofun⟩
theorem owns2_pl {w : World} {B cap : Nat} {t : TypeId} {q : Option Addr} {es : List Ent} (h : w.ownsRow B t 2 (.slice q es.length cap) es.length (fl es)) : PL w q es := fun hx => by
  obtain ⟨g, cap', h1, h2, _⟩ := h.form hx
  cases h1
  refine ⟨g, 0, rfl, fun j hj => ?_⟩
  obtain ⟨f0, f1⟩ := flat_get es j hj
  have e0 := h.cells (g := g) rfl (j * 2) _ f0
  have e1 := h.cells (g := g) rfl (j * 2 + 1) _ f1
  rw [Addr.add_mid] at e0 e1
  exact ⟨e0, e1⟩
theorem LG.pl {base : Nat} {t : TypeId} {E : World → Int → Ent → Prop} {w : World} {v : Value} {es : List Ent} {zs : List Int} (h : LG base t E w v es zs) : ∃ q cap, v = .slice q es.length cap ∧ es.length ≤ cap ∧ cap ≤ maxLen ∧ PL w q es ∧ Go.Proofs.YtcdfckjlmifjiaaGreat.From base q ∧ (q = none → cap = 0) := by
  obtain ⟨q, cap, h1, h2, h3, h4, h5⟩ := owns2_form h.own
  have ho := h.own
  rw [h1] at ho
  exact ⟨q, cap, h1, h2, h3, owns2_pl ho, h4, h5⟩
theorem take_snocg (xs : List Int) (k : Nat) (h : k < xs.length) : xs.take (k + 1) = xs.take k ++ [gx xs k] := by
  rw [gx_mem xs k h, List.take_succ_eq_append_getElem h]
theorem lg_app {base : Nat} {t : TypeId} {E : World → Int → Ent → Prop} (L : Lasts E) {wr w1 w3 : World} {v : Value} {es : List Ent} {zs : List Int} {z : Int} {s : Bool} {p : Option Addr} {n c k : Nat} {o : Obj} {g cap : Nat} (hk : es.length = k) (h : LG base t E wr v es zs) (hb1 : Below wr.heap.size wr w1) (hE : E w1 z ⟨s, p, n, c⟩) (hF : Go.Proofs.YtcdfckjlmifjiaaGreat.From wr.heap.size p)
    (hown : w3.ownsRow base t 2 (.slice (some ⟨g, 0, none⟩) (k + 1) cap) (k + 1) (fl es ++ [.bool s, .slice p n c])) (hgrow : (w1.alloc o).grownBy w3 v.ownBlock) (hat : v.ownBlock = some g ∨ g = (w1.alloc o).heap.size) :
    LG base t E w3 (.slice (some ⟨g, 0, none⟩) (k + 1) cap) (es ++ [⟨s, p, n, c⟩]) (zs ++ [z]) :=
  LG.app L hk h hb1 hE (fun _ a ha => .inr (hF a ha)) hown hgrow hat
end Go.Proofs.YtcdfckjlmifjiaaGreat
