/-
  Rows of slices that grow by append, whatever the slices hold.
-/
import Derived.Test.YtcdfckjlmifjiaaGreatRfRhCqRrRwNjUbVaVg
import Derived.Test.YtcdfckjlmifjiaaGreatRoUcVbDaVcDuOi
import Derived.Test.YtcdfckjlmifjiaaGreatProg
import Derived.Shelf.Small.Bits
import Derived.Test.YtcdfckjlmifjiaaGreatNiUaOwPnWk
import Derived.Test.YtcdfckjlmifjiaaGreatBeRdReRxBbCv
import Derived.StillTailTactics
import Derived.Deep.DeepFit
namespace Go.Proofs.YtcdfckjlmifjiaaGreat
open Go.RowKit
set_option linter.unusedVariables false
set_option linter.unusedSimpArgs false

/-- A slice's three words. -/
structure Hdr where
  p : Option Addr
  n : Nat
  c : Nat
instance : Inhabited Hdr := ⟨⟨none, 0, 0⟩⟩
def Hdr.val (h : Hdr) : Value := .slice h.p h.n h.c
def hdrOf : Value → Hdr
  | .slice p n c => ⟨p, n, c⟩
  | _ => default
def gh (hs : List Hdr) (j : Nat) : Hdr := hs.getD j default
/-- A row of slices, cell by cell. -/
def HL (w : World) (p : Option Addr) (hs : List Hdr) : Prop := 0 < hs.length → ∃ b o, p = some ⟨b, o, none⟩ ∧ ∀ j, j < hs.length → w.cell? ⟨b, o + j, none⟩ = some (gh hs j).val
theorem HL.below {w w' : World} {p : Option Addr} {hs : List Hdr} (h : HL w p hs) (hb : Below w.heap.size w w') : HL w' p hs := fun hp => by
  obtain ⟨b, o, e, hc⟩ := h hp
  refine ⟨b, o, e, fun j hj => ?_⟩
  have h1 := hc j hj
  rw [hb.cell (by
    rcases Nat.lt_or_ge b w.heap.size with h2 | h2
    · exact h2
    · simp [World.cell?, Array.getElem?_eq_none h2] at h1)]
  exact h1
theorem gh_append_left (a b : List Hdr) (i : Nat) (h : i < a.length) : gh (a ++ b) i = gh a i := by simp [gh, List.getElem?_append, h]
theorem gh_snoc (a : List Hdr) (e : Hdr) : gh (a ++ [e]) a.length = e := by simp [gh]
def gt {α : Type} [Inhabited α] (ts : List α) (j : Nat) : α := ts.getD j default
theorem gt_append_left {α : Type} [Inhabited α] (a b : List α) (i : Nat) (h : i < a.length) : gt (a ++ b) i = gt a i := by simp [gt, List.getElem?_append, h]
theorem gt_snoc {α : Type} [Inhabited α] (a : List α) (e : α) : gt (a ++ [e]) a.length = e := by simp [gt]
/-- What is said of an element, whose memory lies from B to T, lasts while that memory does. -/
structure LastsH {α : Type} (E : World → Nat → Nat → α → Hdr → Prop) : Prop where
  grown : ∀ {w w' : World} {B T : Nat} {z : α} {h : Hdr} {row : Option Nat}, E w B T z h → T ≤ w.heap.size → w.grownBy w' row → (∀ r, row = some r → r < B ∨ T ≤ r) → E w' B T z h
  wide : ∀ {w : World} {B T B' T' : Nat} {z : α} {h : Hdr}, E w B T z h → B' ≤ B → T ≤ T' → E w B' T' z h
theorem LastsH.below {α : Type} {E : World → Nat → Nat → α → Hdr → Prop} (L : LastsH E) {w w' : World} {B T : Nat} {z : α} {h : Hdr} (he : E w B T z h) (hT : T ≤ w.heap.size) (hb : Below w.heap.size w w') : E w' B T z h :=
  L.grown he hT (grownBy_below hb none) nofun
/-- A row of slices that is handed on. -/
structure HRow {α : Type} [Inhabited α] (D : Nat) (E : World → Nat → Nat → α → Hdr → Prop) (w : World) (B T : Nat) (ts : List α) (h : Hdr) (hs : List Hdr) : Prop where
  el : hs.length = h.n
  tl : ts.length = h.n
  cap : h.n ≤ h.c
  bnd : h.c ≤ maxLen
  pn : h.p = none → h.c = 0
  few : h.n ≤ D
  hl : HL w h.p hs
  at_ : ∀ a, h.p = some a → 0 < h.n → B ≤ a.block ∧ a.block < T
  ev : ∀ j, j < h.n → E w B T (gt ts j) (gh hs j)
def HR {α : Type} [Inhabited α] (D : Nat) (E : World → Nat → Nat → α → Hdr → Prop) (w : World) (B T : Nat) (ts : List α) (h : Hdr) : Prop := ∃ hs, HRow D E w B T ts h hs
theorem HL.same {w w' : World} {p : Option Addr} {hs : List Hdr} (h : HL w p hs) (hk : ∀ a, p = some a → 0 < hs.length → a.block < w.heap.size → w'.heap[a.block]? = w.heap[a.block]?) : HL w' p hs := fun hp => by
  obtain ⟨b, o, e, hc⟩ := h hp
  have hlt : b < w.heap.size := block_lt_of_cell (hc 0 hp)
  exact ⟨b, o, e, fun j hj => (World.cell?_of_block (a := ⟨b, o + j, none⟩) (hk ⟨b, o, none⟩ e hp hlt)).trans (hc j hj)⟩
theorem lasts_HR {α : Type} [Inhabited α] {D : Nat} {E : World → Nat → Nat → α → Hdr → Prop} (L : LastsH E) : LastsH (HR D E) := ⟨fun {w w' B T z h row} he hT hg hr => by
    obtain ⟨hs, k⟩ := he
    refine ⟨hs, k.el, k.tl, k.cap, k.bnd, k.pn, k.few, k.hl.same fun a ha hn hlt => hg.block a.block hlt fun e => ?_, k.at_, fun j hj => L.grown (k.ev j hj) hT hg hr⟩
    have h1 := k.at_ a ha (by rw [← k.el]; exact hn)
    have h2 := hr a.block e.symm
    omega, fun {w B T B' T' z h} he hB hT => by
    obtain ⟨hs, k⟩ := he
    exact ⟨hs, k.el, k.tl, k.cap, k.bnd, k.pn, k.few, k.hl, fun a ha hn => by have := k.at_ a ha hn; omega, fun j hj => L.wide (k.ev j hj) hB hT⟩⟩
/-- A row of slices that grows. -/
structure LH {α : Type} [Inhabited α] (base : Nat) (t : TypeId) (E : World → Nat → Nat → α → Hdr → Prop) (w : World) (v : Value) (hs : List Hdr) (ts : List α) : Prop where
  own : w.ownsRow base t 1 v hs.length (hs.map Hdr.val)
  tl : ts.length = hs.length
  ev : ∀ j, j < hs.length → ∃ B T, base ≤ B ∧ T ≤ w.heap.size ∧ E w B T (gt ts j) (gh hs j) ∧ ∀ r, v.ownBlock = some r → r < B ∨ T ≤ r
section
variable {α : Type} [Inhabited α] {base : Nat} {t : TypeId} {E : World → Nat → Nat → α → Hdr → Prop}
theorem LH.nil (base : Nat) (t : TypeId) (E : World → Nat → Nat → α → Hdr → Prop) (w : World) : LH base t E w (.slice none 0 0) [] [] := ⟨World.ownsRow_nil _ _ _ _, rfl, fun j hj => by simp at hj⟩
theorem LH.below (L : LastsH E) {w w' : World} {v : Value} {hs : List Hdr} {ts : List α} (h : LH base t E w v hs ts) (hb : Below w.heap.size w w') : LH base t E w' v hs ts :=
  ⟨own_below h.own hb, h.tl, fun j hj => by
    obtain ⟨B, T, h1, h2, h3, h4⟩ := h.ev j hj
    exact ⟨B, T, h1, Nat.le_trans h2 hb.size, L.below h3 h2 hb, h4⟩⟩
theorem LH.app (L : LastsH E) {wr w1 w3 : World} {v : Value} {hs : List Hdr} {ts : List α} {z : α} {h : Hdr} {o : Obj} {g cap k B T : Nat} (hk : hs.length = k) (H : LH base t E wr v hs ts) (hb1 : Below wr.heap.size wr w1) (hE : E w1 B T z h) (hB : wr.heap.size ≤ B) (hT : T ≤ w1.heap.size) (hbase : base ≤ wr.heap.size)
    (hown : w3.ownsRow base t 1 (.slice (some ⟨g, 0, none⟩) (k + 1) cap) (k + 1) (hs.map Hdr.val ++ [h.val])) (hgrow : (w1.alloc o).grownBy w3 v.ownBlock) (hat : v.ownBlock = some g ∨ g = (w1.alloc o).heap.size) :
    LH base t E w3 (.slice (some ⟨g, 0, none⟩) (k + 1) cap) (hs ++ [h]) (ts ++ [z]) := by
  subst hk
  have hal : Below w1.heap.size w1 (w1.alloc o) := (Below.refl _ _).alloc (Nat.le_refl _) o
  have hs1 := hb1.size
  have hs2 := hal.size
  have hs3 := hgrow.size
  have ob : ∀ r, (Value.slice (some ⟨g, 0, none⟩) (hs.length + 1) cap).ownBlock = some r → r = g := fun r hr => (Option.some.inj hr).symm
  refine ⟨by rw [List.length_append, List.map_append]; exact hown, by simp [H.tl], fun j hj => ?_⟩
  rcases Nat.lt_or_ge j hs.length with hlt | hge
  · rw [gh_append_left _ _ _ hlt, gt_append_left _ _ _ (by rw [H.tl]; exact hlt)]
    obtain ⟨B', T', h1, h2, h3, h4⟩ := H.ev j hlt
    have h5 := L.below (L.below h3 h2 hb1) (Nat.le_trans h2 hs1) hal
    refine ⟨B', T', h1, by omega, L.grown h5 (by omega) hgrow h4, fun r hr => ?_⟩
    obtain rfl := ob r hr
    rcases hat with h6 | h6
    · exact h4 _ h6
    · right; omega
  · have : j = hs.length := by simp at hj; omega
    subst this
    have e1 : gt (ts ++ [z]) hs.length = z := by rw [← H.tl]; exact gt_snoc ts z
    rw [gh_snoc, e1]
    have old : ∀ r, v.ownBlock = some r → r < B ∨ T ≤ r := fun r hr => by
      have := (H.own.lt r hr).2
      left; omega
    refine ⟨B, T, by omega, by omega, L.grown (L.below hE hT hal) (by omega) hgrow old, fun r hr => ?_⟩
    obtain rfl := ob r hr
    rcases hat with h6 | h6
    · exact old _ h6
    · right; omega
theorem owns1_form {w : World} {B n : Nat} {t : TypeId} {v : Value} {xs : List Value} (h : w.ownsRow B t 1 v n xs) : ∃ q cap, v = .slice q n cap ∧ n ≤ cap ∧ cap ≤ maxLen ∧ (q = none → cap = 0) ∧ ∀ a, q = some a → B ≤ a.block ∧ a.block < w.heap.size := by
  rcases h.2 with ⟨h1, h2⟩ | ⟨g, cap, cur, h1, h2, h3, h4, h5, _⟩
  · exact ⟨none, 0, by rw [h1, h2], by omega, Nat.zero_le _, fun _ => rfl, nofun⟩
  · exact ⟨_, cap, h1, h4, h5, nofun, fun a ha => by
      have h6 := h.lt g (by rw [h1]; rfl)
      cases ha
      exact ⟨h2, h6.2⟩⟩
theorem owns1_hl {w : World} {B cap : Nat} {t : TypeId} {q : Option Addr} {hs : List Hdr} (h : w.ownsRow B t 1 (.slice q hs.length cap) hs.length (hs.map Hdr.val)) : HL w q hs := fun hx => by
  obtain ⟨g, cap', h1, h2, _⟩ := h.form hx
  cases h1
  refine ⟨g, 0, rfl, fun j hj => ?_⟩
  have e0 := h.cells (g := g) rfl j (gh hs j).val (by simp [gh, hj])
  rw [Addr.add_mid] at e0
  exact e0
theorem LH.row (L : LastsH E) {w : World} {v : Value} {hs : List Hdr} {ts : List α} {D : Nat} (h : LH base t E w v hs ts) (hD : hs.length ≤ D) : ∃ q cap, v = .slice q hs.length cap ∧ HRow D E w base w.heap.size ts ⟨q, hs.length, cap⟩ hs := by
  obtain ⟨q, cap, h1, h2, h3, h4, h5⟩ := owns1_form h.own
  have ho := h.own
  rw [h1] at ho
  exact ⟨q, cap, h1, rfl, h.tl, h2, h3, h4, hD, owns1_hl ho, fun a ha _ => h5 a ha, fun j hj => by
    obtain ⟨B, T, k1, k2, k3, _⟩ := h.ev j hj
    exact L.wide k3 k1 k2⟩
end
/-- A polynomial among them. -/
def EZ (K D : Nat) (w : World) (B T : Nat) (zs : List Int) (h : Hdr) : Prop :=
  ∃ fs, PA w K h.p h.n h.c fs zs ∧ h.n ≤ D ∧ (∀ a, h.p = some a → 0 < h.n → B ≤ a.block ∧ a.block < T) ∧ ∀ j, j < h.n → 0 < (ge fs j).n → ∀ a, (ge fs j).p = some a → B ≤ a.block ∧ a.block < T
theorem lasts_EZ (K D : Nat) : LastsH (EZ K D) := ⟨fun {w w' B T z h row} he hT hg hr => by
    obtain ⟨fs, k, h1, h2, h3⟩ := he
    refine ⟨fs, ⟨k.el, k.zl, k.cap, k.bnd, k.pn, fun hx => (k.pl.same fun a ha hlt => hg.block a.block hlt fun e => ?_) hx, fun j hj => (lasts_EV K).grown (k.ev j hj) hg fun hn a ha e => ?_⟩, h1, h2, h3⟩
    · have h4 := h2 a ha (by rw [← k.el]; exact hx)
      have h5 := hr a.block e.symm
      omega
    · have h4 := h3 j hj hn a ha
      have h5 := hr a.block e.symm
      omega, fun {w B T B' T' z h} he hB hT => by
    obtain ⟨fs, k, h1, h2, h3⟩ := he
    exact ⟨fs, k, h1, fun a ha hn => by have := h2 a ha hn; omega, fun j hj hn a ha => by have := h3 j hj hn a ha; omega⟩⟩
end Go.Proofs.YtcdfckjlmifjiaaGreat
/-
  upoly.Of.
-/
namespace Go.Proofs.YtcdfckjlmifjiaaGreat
open Go.RowKit
set_option linter.unusedVariables false
set_option linter.unusedSimpArgs false

/-- The number of an element that is answered. -/
def NV (B : Nat) (w : World) (K : Nat) (z : Int) (e : Ent) : Prop := ∃ xs, NI B w e.s e.p e.n xs z ∧ e.c = e.n ∧ e.n ≤ K
/-- A polynomial that is answered: in normal form, in memory from block B on. -/
structure PN (B : Nat) (w : World) (K : Nat) (p : Option Addr) (n : Nat) (es : List Ent) (zs : List Int) : Prop where
  el : es.length = n
  zl : zs.length = n
  nrm : tlen zs = n
  pl : PL w p es
  fr : Go.Proofs.YtcdfckjlmifjiaaGreat.From B p
  ev : ∀ j, j < n → NV B w K (gx zs j) (ge es j)
section
variable {B : Nat} {w w' : World} {K : Nat} {z : Int} {e : Ent} {p : Option Addr} {n : Nat} {es : List Ent} {zs : List Int}
theorem NV.below (h : NV B w K z e) (hb : Below w.heap.size w w') : NV B w' K z e := by
  obtain ⟨xs, h1, h2⟩ := h
  exact ⟨xs, h1.below hb, h2⟩
theorem NV.mono {B' : Nat} (h : NV B w K z e) (hB : B' ≤ B) : NV B' w K z e := by
  obtain ⟨xs, h1, h2⟩ := h
  exact ⟨xs, h1.mono hB, h2⟩
theorem NV.ez (B : Nat) (w : World) (K : Nat) : NV B w K 0 ez := ⟨[], ⟨rfl, Rd.nil, fun j => by simp [gx], by decide, fun _ => rfl, fun _ => rfl, by decide, (fun a ha => by cases ha), Fz.nil _⟩, rfl, Nat.zero_le _⟩
theorem NV.set2 (h : NV B w K z e) {g o : Nat} (hg : g < B) (u v : Value) : NV B ((w.setCell ⟨g, o, none⟩ u).setCell ⟨g, o + 1, none⟩ v) K z e := by
  obtain ⟨xs, h1, h2⟩ := h
  exact ⟨xs, (h1.set (a := ⟨g, o, none⟩) hg u).set (a := ⟨g, o + 1, none⟩) hg v, h2⟩
theorem NV.ev (h : NV B w K z e) (hK : K ≤ 1000) : EV w K z e := by
  obtain ⟨xs, h1, h2, h3⟩ := h
  exact ⟨xs, by rw [h2]; exact h1.ai (by omega), h1.v, h3⟩
theorem PN.below (h : PN B w K p n es zs) (hb : Below w.heap.size w w') : PN B w' K p n es zs := ⟨h.el, h.zl, h.nrm, h.pl.below hb, h.fr, fun j hj => (h.ev j hj).below hb⟩
theorem PN.mono {B' : Nat} (h : PN B w K p n es zs) (hB : B' ≤ B) : PN B' w K p n es zs := ⟨h.el, h.zl, h.nrm, h.pl, fun a ha => Nat.le_trans hB (h.fr a ha), fun j hj => (h.ev j hj).mono hB⟩
theorem PN.pa (h : PN B w K p n es zs) (hK : K ≤ 1000) (hn : n ≤ 1000000) : PA w K p n n es zs :=
  ⟨h.el, h.zl, Nat.le_refl _, by unfold maxLen; omega, fun e => by
    rcases Nat.eq_zero_or_pos n with h0 | h0
    · exact h0
    · obtain ⟨b, o, hp, -⟩ := h.pl (by rw [h.el]; exact h0)
      rw [hp] at e
      exact absurd e (by simp), h.pl, fun j hj => (h.ev j hj).ev hK⟩
end
/-- What a function answers that gives a polynomial. -/
def PnP (zs : List Int) (K : Nat) (w : World) (e : Ending) (w' : World) : Prop :=
  ∃ p n es, e = .returned (.slice p n n) ∧ PN w.heap.size w' K p n es zs ∧ Below w.heap.size w w'
/-- Behind some rounds of Of. -/
def OfI (w W0 : World) (xs : List Int) (n k : Nat) (wr : World) : Prop :=
  ∃ es, Row2 wr w.heap.size 50 es ∧ es.length = n ∧ (∀ j, j < k → NV (w.heap.size + 1) wr 2 (gx xs j) (ge es j)) ∧ Below (w.heap.size) W0 wr
theorem below_mix {w W0 wr : World} (h : Below w.heap.size w W0) (k : Below w.heap.size W0 wr) : Below w.heap.size w wr := h.trans k
end Go.Proofs.YtcdfckjlmifjiaaGreat
/-
  math/bits.Len32, off the shelf.
-/
namespace Go.Proofs.YtcdfckjlmifjiaaGreat
open Go.Shelf

def renLen32 : Go.Shelf.Ren := ⟨fun | 128 => 69 | n => n, fun | 3 => 3 | 4 => 4 | 5 => 5 | 9 => 9 | 46 => 90 | 51 => 100 | n => n, fun n => n⟩
theorem laysLen32 : Lays.n128 Tryz.prog renLen32 :=
  { mixed := by kernel_rfl
    f128 := by kernel_rfl
    t3 := by kernel_rfl
    a3 := fun _ => by kernel_rfl
    z3 := fun _ => by kernel_rfl
    v3 := fun _ => by kernel_rfl
    t4 := by kernel_rfl
    a4 := fun _ => by kernel_rfl
    z4 := fun _ => by kernel_rfl
    v4 := fun _ => by kernel_rfl
    t5 := by kernel_rfl
    a5 := fun _ => by kernel_rfl
    z5 := fun _ => by kernel_rfl
    v5 := fun _ => by kernel_rfl
    t9 := by kernel_rfl
    a9 := fun _ => by kernel_rfl
    z9 := fun _ => by kernel_rfl
    v9 := fun _ => by kernel_rfl
    t46 := by kernel_rfl
    a46 := fun _ => by kernel_rfl
    z46 := fun _ => by kernel_rfl
    v46 := fun _ => by kernel_rfl
    t51 := by kernel_rfl
    a51 := fun _ => by kernel_rfl
    z51 := fun _ => by kernel_rfl
    v51 := fun _ => by kernel_rfl }
theorem Len32_any (x : Int) (w : World) (h0 : 0 ≤ x) (h1 : x ≤ 4294967295) :
    Calls Tryz.prog 69 #[.int .u32 x] w fun e w' => e = .returned (.int .i64 (Lib.bitLen x.toNat)) ∧ w' = w := Any.bits_Len32 laysLen32 x w h0 h1
end Go.Proofs.YtcdfckjlmifjiaaGreat
/-
  limbs.Bits.
-/
namespace Go.Proofs.YtcdfckjlmifjiaaGreat
open Go.RowKit
set_option linter.unusedVariables false
set_option linter.unusedSimpArgs false

/-- How many bits a size has, by its limbs. -/
def nbits (xs : List Int) : Int := if tlen xs = 0 then 0 else 32 * ((tlen xs : Int) - 1) + (Lib.bitLen (gx xs (tlen xs - 1)).toNat : Int)

theorem bitLenAux_le (f x : Nat) : Lib.bitLenAux f x ≤ f := by
  induction f generalizing x with
  | zero => simp [Lib.bitLenAux]
  | succ f ih => simp only [Lib.bitLenAux]; split <;> (have := ih (x / 2); omega)

set_option maxHeartbeats 1000000 in
/-- limbs.Bits. -/
theorem Bits_any (s : Bool) (p : Option Addr) (n nc : Nat) (xs : List Int) (w : World) (hA : AI w p n nc xs) :
    Calls Tryz.prog 48 #[.agg #[.bool s, .slice p n nc]] w fun e w' => e = .returned (.int .i64 (nbits xs)) ∧ Below w.heap.size w w' := by
  have tx := tlen_le xs
  have lx := hA.len
  have hs := hA.sml
  by_cases h0 : tlen xs = 0
  · rw [nbits, if_pos h0]
    go_enter Tryz.func48, Tryz.ntmps48
    go_wp2_with (go_at_call 68; refine (trim_any p n nc xs _ hA.len hA.cap hA.bnd (hA.rd.alloc _)).mono ?_; rintro e w' ⟨rfl, rfl⟩)
    go_ret
    exact ⟨rfl, (Below.refl _ _).alloc (Nat.le_refl _) _⟩
  · rw [nbits, if_neg h0]
    have h1 : (((tlen xs : Nat) : Int) == 0) = false := beq_eq_false_iff_ne.2 (by omega)
    obtain ⟨j, hj⟩ : ∃ j, tlen xs = j + 1 := ⟨tlen xs - 1, by omega⟩
    obtain ⟨b, off, rfl, hc⟩ := (hA.rd.alloc (.cells #[.bool s, .slice p n nc] 50)) (by omega)
    have hcj := hc j (by omega)
    obtain ⟨b0, b1⟩ := hA.u j
    have hbl : Lib.bitLen (gx xs j).toNat ≤ 64 := by
      exact bitLenAux_le 64 _
    clear hc
    have htr := trim_any (some ⟨b, off, none⟩) n nc xs (w.alloc (.cells #[.bool s, .slice (some ⟨b, off, none⟩) n nc] 50)) hA.len hA.cap hA.bnd (hA.rd.alloc _)
    rw [hj] at htr h1 ⊢
    have HT := htr
    go_enter Tryz.func48, Tryz.ntmps48
    go_wp2_with fail
    refine HT.mono ?_
    rintro e w' ⟨rfl, rfl⟩
    go_wp2_with fail
    refine (Len32_any _ _ b0 (by omega)).mono ?_
    rintro e w' ⟨rfl, rfl⟩
    go_wp2
    go_ret
    refine ⟨ret_int ?_, (Below.refl _ _).alloc (Nat.le_refl _) _⟩
    rw [Nat.add_sub_cancel]
    omega
end Go.Proofs.YtcdfckjlmifjiaaGreat
/-
  How many bits a number has: plain facts.
-/
namespace Go.Proofs.YtcdfckjlmifjiaaGreat
open Go.RowKit
set_option linter.unusedVariables false
set_option linter.unusedSimpArgs false

/-- x has b bits. -/
def IB (b : Nat) (x : Int) : Prop := 0 ≤ x ∧ x < 2 ^ b ∧ (b = 0 ∨ (2 : Int) ^ (b - 1) ≤ x)
theorem p2_mono {a b : Nat} (h : a ≤ b) : (2 : Int) ^ a ≤ 2 ^ b := by
  obtain ⟨c, rfl⟩ := Nat.exists_eq_add_of_le h
  rw [Int.pow_add]
  have h1 : (0 : Int) < 2 ^ a := Int.pow_pos (by decide)
  have h2 : (0 : Int) < 2 ^ c := Int.pow_pos (by decide)
  have : (2 : Int) ^ a * 1 ≤ 2 ^ a * 2 ^ c := Int.mul_le_mul_of_nonneg_left (by omega) (by omega)
  omega
theorem IB.uniq {b c : Nat} {x : Int} (h : IB b x) (k : IB c x) : b = c := by
  obtain ⟨h0, h1, h2⟩ := h
  obtain ⟨k0, k1, k2⟩ := k
  rcases Nat.lt_trichotomy b c with hb | hb | hb
  · rcases k2 with k2 | k2
    · omega
    · have := p2_mono (show b ≤ c - 1 by omega); omega
  · exact hb
  · rcases h2 with h2 | h2
    · omega
    · have := p2_mono (show c ≤ b - 1 by omega); omega
/-- The highest digit decides how many bits there are. -/
theorem IB.join {b m : Nat} {x l : Int} (h : IB b x) (hb : 0 < b) (hl0 : 0 ≤ l) (hl1 : l < 2 ^ m) : IB (m + b) (l + 2 ^ m * x) := by
  obtain ⟨h0, h1, h2⟩ := h
  have hm : (0 : Int) < 2 ^ m := Int.pow_pos (by decide)
  refine ⟨by have := Int.mul_nonneg (Int.le_of_lt hm) h0; omega, ?_, .inr ?_⟩
  · rw [Int.pow_add]
    have : (2 : Int) ^ m * x ≤ 2 ^ m * (2 ^ b - 1) := Int.mul_le_mul_of_nonneg_left (by omega) (by omega)
    rw [Int.mul_sub, Int.mul_one] at this
    omega
  · rcases h2 with h2 | h2
    · omega
    · rw [show m + b - 1 = m + (b - 1) by omega, Int.pow_add]
      have : (2 : Int) ^ m * 2 ^ (b - 1) ≤ 2 ^ m * x := Int.mul_le_mul_of_nonneg_left h2 (by omega)
      omega
theorem bitLenAux_ib (f x : Nat) (h : x < 2 ^ f) : IB (Lib.bitLenAux f x) x := by
  induction f generalizing x with
  | zero =>
    have : x = 0 := by simpa using h
    subst this
    exact ⟨by decide, by decide, .inl rfl⟩
  | succ f ih =>
    simp only [Lib.bitLenAux]
    split
    · rename_i h0; subst h0; exact ⟨by decide, by decide, .inl rfl⟩
    · rename_i h0
      have hx : x / 2 < 2 ^ f := by rw [Nat.pow_succ] at h; omega
      obtain ⟨a0, a1, a2⟩ := ih (x / 2) hx
      refine ⟨by omega, ?_, .inr ?_⟩
      · rw [Nat.add_comm, Int.pow_succ]; omega
      · rw [Nat.add_sub_cancel_left]
        rcases a2 with a2 | a2
        · rw [a2] at a1 ⊢
          have e : (2 : Int) ^ 0 = 1 := rfl
          rw [e]; omega
        · have e : (2 : Int) ^ Lib.bitLenAux f (x / 2) = 2 * 2 ^ (Lib.bitLenAux f (x / 2) - 1) := by
            rcases Nat.eq_zero_or_pos (Lib.bitLenAux f (x / 2)) with hz | hz
            · exfalso
              rw [hz] at a1 a2
              have e0 : (2 : Int) ^ 0 = 1 := rfl
              have e1 : (2 : Int) ^ (0 - 1) = 1 := rfl
              rw [e0] at a1; rw [e1] at a2; omega
            · obtain ⟨c, hc⟩ : ∃ c, Lib.bitLenAux f (x / 2) = c + 1 := ⟨Lib.bitLenAux f (x / 2) - 1, by omega⟩
              rw [hc, Int.pow_succ, Nat.add_sub_cancel]; omega
          rw [e]; omega
theorem pw_p2 (k : Nat) : pw k = 2 ^ (32 * k) := by
  unfold pw
  rw [show (4294967296 : Int) = 2 ^ 32 by decide, ← Int.pow_mul]
theorem pd_p2 (k : Nat) : pd k = 2 ^ (16 * k) := by
  unfold pd
  rw [show (65536 : Int) = 2 ^ 16 by decide, ← Int.pow_mul]
/-- limbs.Bits tells the number's bits. -/
theorem nbits_ib {xs : List Int} (h : U32 xs) : ∃ b : Nat, nbits xs = (b : Int) ∧ IB b (val xs) := by
  unfold nbits
  split
  · rename_i h0
    refine ⟨0, rfl, ?_⟩
    rw [(tlen_zero_iff h).1 h0]
    exact ⟨by decide, by decide, .inl rfl⟩
  · rename_i h0
    have ht := tlen_top xs (by omega)
    have hg := h (tlen xs - 1)
    have hl := tlen_le xs
    refine ⟨32 * (tlen xs - 1) + Lib.bitLen (gx xs (tlen xs - 1)).toNat, by omega, ?_⟩
    have hb := bitLenAux_ib 64 (gx xs (tlen xs - 1)).toNat (by omega)
    have e : ((gx xs (tlen xs - 1)).toNat : Int) = gx xs (tlen xs - 1) := by omega
    rw [e] at hb
    have hb0 : 0 < Lib.bitLen (gx xs (tlen xs - 1)).toNat := by
      rcases Nat.eq_zero_or_pos (Lib.bitLen (gx xs (tlen xs - 1)).toNat) with hz | hz
      · exfalso
        have h2 := hb.2.1
        have hz' : Lib.bitLenAux 64 (gx xs (tlen xs - 1)).toNat = 0 := hz
        rw [hz'] at h2
        have e0 : (2 : Int) ^ 0 = 1 := rfl
        rw [e0] at h2; omega
      · exact hz
    have hj := IB.join (m := 32 * (tlen xs - 1)) (l := val (xs.take (tlen xs - 1))) hb hb0 (val_nonneg (u32_take h _)) (by
      have := val_lt (u32_take h (tlen xs - 1))
      rw [List.length_take, Nat.min_eq_left (by omega), pw_p2] at this
      exact this)
    have ev : val xs = val (xs.take (tlen xs - 1)) + 2 ^ (32 * (tlen xs - 1)) * gx xs (tlen xs - 1) := by
      rw [← pw_p2, ← val_take_succ xs (tlen xs - 1) (by omega), show tlen xs - 1 + 1 = tlen xs by omega]
      exact (val_tr xs).symm
    rw [ev]
    exact hj
/-- So do the digits. -/
theorem digits_ib {ds : List Int} {k : Nat} (h : U16 ds) (hn : tlen ds = ds.length) (h0 : 0 < ds.length) (hk : IB k (gx ds (ds.length - 1))) : IB (16 * (ds.length - 1) + k) (vd ds) := by
  have ht := tlen_top ds (by omega)
  rw [hn] at ht
  have hk0 : 0 < k := by
    rcases Nat.eq_zero_or_pos k with hz | hz
    · exfalso
      have h2 := hk.2.1
      have h1 := hk.1
      rw [hz] at h2
      have e0 : (2 : Int) ^ 0 = 1 := rfl
      rw [e0] at h2; omega
    · exact hz
  have hj := IB.join (m := 16 * (ds.length - 1)) (l := vd (ds.take (ds.length - 1))) hk hk0 (vd_nonneg (u16_take h _)) (by
    have := vd_lt (u16_take h (ds.length - 1))
    rw [List.length_take, Nat.min_eq_left (by omega), pd_p2] at this
    exact this)
  have ev : vd ds = vd (ds.take (ds.length - 1)) + 2 ^ (16 * (ds.length - 1)) * gx ds (ds.length - 1) := by
    rw [← pd_p2, ← vd_take_succ ds (ds.length - 1), show ds.length - 1 + 1 = ds.length by omega, List.take_length]
  rw [ev]
  exact hj

end Go.Proofs.YtcdfckjlmifjiaaGreat
/-
  limbs.Add, Sub.
-/
namespace Go.Proofs.YtcdfckjlmifjiaaGreat
open Go.RowKit
set_option linter.unusedVariables false
set_option linter.unusedSimpArgs false

end Go.Proofs.YtcdfckjlmifjiaaGreat
/-
  upoly.bare, own.
-/
namespace Go.Proofs.YtcdfckjlmifjiaaGreat
open Go.RowKit
set_option linter.unusedVariables false
set_option linter.unusedSimpArgs false

/-- The number of an element in normal form, in whatever memory. -/
def EN (w : World) (K : Nat) (z : Int) (e : Ent) : Prop := ∃ xs, AI w e.p e.n e.c xs ∧ ival e.s xs = z ∧ tlen xs = e.n ∧ (e.n = 0 → e.s = false) ∧ e.n ≤ K
theorem EN.ev {w : World} {K : Nat} {z : Int} {e : Ent} (h : EN w K z e) : EV w K z e := by
  obtain ⟨xs, h1, h2, h3, h4, h5⟩ := h
  exact ⟨xs, h1, h2, h5⟩
theorem EN.below {w w' : World} {K : Nat} {z : Int} {e : Ent} (h : EN w K z e) (hb : Below w.heap.size w w') : EN w' K z e := by
  obtain ⟨xs, h1, h2⟩ := h
  exact ⟨xs, h1.below hb, h2⟩
theorem NV.en {B : Nat} {w : World} {K : Nat} {z : Int} {e : Ent} (h : NV B w K z e) (hK : K ≤ 1000) : EN w K z e := by
  obtain ⟨xs, h1, h2, h3⟩ := h
  exact ⟨xs, by rw [h2]; exact h1.ai (by omega), h1.v, h1.nrm, h1.sg, h3⟩
theorem nbits_len {xs : List Int} (hU : U32 xs) : (nbits xs + 31) / 32 = (tlen xs : Int) ∧ 0 ≤ nbits xs ∧ nbits xs ≤ 32 * (tlen xs : Int) := by
  unfold nbits
  split
  · rename_i h; rw [h]; decide
  · rename_i h
    have h1 := tlen_top xs (by omega)
    obtain ⟨x0, x1⟩ := hU (tlen xs - 1)
    have hb := bitLenAux_ib 64 (gx xs (tlen xs - 1)).toNat (by omega)
    have e : Lib.bitLen (gx xs (tlen xs - 1)).toNat = Lib.bitLenAux 64 (gx xs (tlen xs - 1)).toNat := rfl
    rw [e]
    generalize Lib.bitLenAux 64 (gx xs (tlen xs - 1)).toNat = b at *
    obtain ⟨b0, b1, b2⟩ := hb
    have hb0 : b ≠ 0 := fun e => by subst e; simp at b1; omega
    have hb32 : b ≤ 32 := by
      rcases b2 with h | h
      · omega
      · rcases Nat.lt_or_ge 32 b with h' | h'
        · have := p2_mono (show 32 ≤ b - 1 by omega)
          have e2 : (2 : Int) ^ 32 = 4294967296 := by decide
          omega
        · exact h'
    omega
theorem bset2d {B g : Nat} {a b : World} {u v : Value} (h : Below B a b) (hg : B ≤ g) : Below B a ((b.drew.setCell ⟨g, 0, none⟩ u).setCell ⟨g, 1, none⟩ v) := bset2 (show Below B a b.drew from ⟨h.os, h.tape, h.output, h.size, h.block⟩) hg _ _
theorem en_set {w : World} {K : Nat} {z : Int} {s' : Bool} {p : Option Addr} {n c g : Nat} {xs : List Int} {u v : Value} (h : AI w p n c xs) (hv : ival s' xs = z) (ho : 0 < tlen xs → Off g p) (hs : tlen xs = 0 → s' = false) (hK : tlen xs ≤ K) : EN ((w.drew.setCell ⟨g, 0, none⟩ u).setCell ⟨g, 1, none⟩ v) K z ⟨s', p, tlen xs, c⟩ := by
  have h1 := h.tr.drew
  refine ⟨tr xs, ?_, by rw [ival_tr]; exact hv, tlen_tr xs, hs, hK⟩
  exact ⟨h1.len, h1.cap, h1.bnd, h1.sml, fun hx => ((h1.rd.set_other ⟨g, 0, none⟩ u (ho (by rw [length_tr] at hx; exact hx))).set_other ⟨g, 1, none⟩ v (ho (by rw [length_tr] at hx; exact hx))) hx, h1.u⟩
end Go.Proofs.YtcdfckjlmifjiaaGreat
/-
  upoly.each.
-/
namespace Go.Proofs.YtcdfckjlmifjiaaGreat
open Go.RowKit
set_option linter.unusedVariables false
set_option linter.unusedSimpArgs false

/-- Behind some rounds of each. -/
def EaI (O : World → Int → Ent → Prop) (φ : Int → Int) (g n k : Nat) (zs : List Int) (W0 wr : World) : Prop :=
  ∃ es, Row2 wr g 50 es ∧ es.length = n ∧ (∀ j, j < k → O wr (φ (gx zs j)) (ge es j) ∧ (0 < (ge es j).n → Off g (ge es j).p)) ∧ Below g W0 wr
end Go.Proofs.YtcdfckjlmifjiaaGreat
/-
  upoly.read, Norm, Deg.
-/
namespace Go.Proofs.YtcdfckjlmifjiaaGreat
open Go.RowKit
set_option linter.unusedVariables false
set_option linter.unusedSimpArgs false

/-- A polynomial as read gives it. -/
structure PB (B : Nat) (w : World) (K : Nat) (p : Option Addr) (n : Nat) (es : List Ent) (zs : List Int) : Prop where
  el : es.length = n
  zl : zs.length = n
  nrm : tlen zs = n
  pl : PL w p es
  fr : Go.Proofs.YtcdfckjlmifjiaaGreat.From B p
  ev : ∀ j, j < n → EN w K (gx zs j) (ge es j)
theorem EN.set2 {w : World} {K : Nat} {z : Int} {e : Ent} {g o : Nat} {u v : Value} (h : EN w K z e) (ho : 0 < e.n → Off g e.p) : EN ((w.setCell ⟨g, o, none⟩ u).setCell ⟨g, o + 1, none⟩ v) K z e := by
  obtain ⟨xs, h1, h2⟩ := h
  refine ⟨xs, ⟨h1.len, h1.cap, h1.bnd, h1.sml, fun hx => ?_, h1.u⟩, h2⟩
  have := ho (by rw [h1.len] at hx; exact hx)
  exact ((h1.rd.set_other ⟨g, o, none⟩ u this).set_other ⟨g, o + 1, none⟩ v this) hx
theorem PB.below {B : Nat} {w w' : World} {K : Nat} {p : Option Addr} {n : Nat} {es : List Ent} {zs : List Int} (h : PB B w K p n es zs) (hb : Below w.heap.size w w') : PB B w' K p n es zs := ⟨h.el, h.zl, h.nrm, h.pl.below hb, h.fr, fun j hj => (h.ev j hj).below hb⟩
theorem PB.pa {B : Nat} {w : World} {K : Nat} {p : Option Addr} {n : Nat} {es : List Ent} {zs : List Int} (h : PB B w K p n es zs) (hn : n ≤ 1000000) : PA w K p n n es zs :=
  ⟨h.el, h.zl, Nat.le_refl _, by unfold maxLen; omega, fun e => by
    rcases Nat.eq_zero_or_pos n with h0 | h0
    · exact h0
    · obtain ⟨b, o, hp, -⟩ := h.pl (by rw [h.el]; exact h0)
      rw [hp] at e
      exact absurd e (by simp), h.pl, fun j hj => (h.ev j hj).ev⟩
def PbP (zs : List Int) (K : Nat) (w : World) (e : Ending) (w' : World) : Prop :=
  ∃ p n es, e = .returned (.slice p n n) ∧ PB w.heap.size w' K p n es zs ∧ Below w.heap.size w w'
theorem PA.trim {w : World} {K : Nat} {p : Option Addr} {n nc : Nat} {es : List Ent} {zs : List Int} (h : PA w K p n nc es zs) : PA w K p (tlen zs) (tlen zs) (es.take (tlen zs)) (tr zs) := by
  have htl := tlen_le zs
  have hz := h.zl
  have hc := h.cap
  exact (h.take (tlen zs) (by omega)).clip fun e => by have := h.pn e; omega
theorem NV.set2o {B : Nat} {w : World} {K : Nat} {z : Int} {e : Ent} {g o : Nat} {u v : Value} (h : NV B w K z e) (ho : 0 < e.n → Off g e.p) : NV B ((w.setCell ⟨g, o, none⟩ u).setCell ⟨g, o + 1, none⟩ v) K z e := by
  obtain ⟨xs, h1, h2⟩ := h
  refine ⟨xs, ⟨h1.len, fun hx => ?_, h1.u, h1.nrm, h1.sg, h1.pn, h1.v, h1.fr, (h1.fz.set _ _).set _ _⟩, h2⟩
  have := ho (by rw [h1.len] at hx; exact hx)
  exact ((h1.rd.set_other ⟨g, o, none⟩ u this).set_other ⟨g, o + 1, none⟩ v this) hx
set_option maxHeartbeats 2000000 in
/-- upoly.Deg. -/
theorem uDeg_any (K : Nat) (p : Option Addr) (n nc : Nat) (es : List Ent) (zs : List Int) (w : World) (h : PA w K p n nc es zs) (hn : n ≤ 1000000) :
    Calls Tryz.prog 66 #[.slice p n nc] w fun e w' => e = .returned (.int .i64 ((tlen zs : Int) - 1)) ∧ Below w.heap.size w w' := by
  have htl := tlen_le zs
  have hzl := h.zl
  have v : IntKind.i64.wrap ((tlen zs : Int) - 1) = (tlen zs : Int) - 1 := by rw [IntKind.wrap_i64]; omega
  go_enter Tryz.func66, Tryz.ntmps66
  go_wp2_with fail
  refine (utrim_any K p n nc es zs _ h hn).mono ?_
  rintro e w1 ⟨rfl, hb1⟩
  go_wp2
  go_ret
  exact ⟨rfl, hb1⟩
end Go.Proofs.YtcdfckjlmifjiaaGreat
/-
  Operators: where they end; ore.trim.
-/
namespace Go.Proofs.YtcdfckjlmifjiaaGreat
open Go.RowKit
set_option linter.unusedVariables false
set_option linter.unusedSimpArgs false

/-- Where an operator ends. -/
def olen (zss : List (List Int)) : Nat := tlen (zss.map fun z => (tlen z : Int))
theorem olen_le (zss : List (List Int)) : olen zss ≤ zss.length := by
  have := tlen_le (zss.map fun z => (tlen z : Int))
  rwa [List.length_map] at this
theorem gx_tlens (zss : List (List Int)) (j : Nat) : gx (zss.map fun z => (tlen z : Int)) j = (tlen (gt zss j) : Int) := by
  rcases Nat.lt_or_ge j zss.length with h | h
  · simp [gx, gt, h]
  · have h1 : gt zss j = [] := by simp [gt, h]; rfl
    rw [h1]
    simp [gx, h]
    rfl
theorem olen_zero (zss : List (List Int)) (j : Nat) (h : olen zss ≤ j) : tlen (gt zss j) = 0 := by
  have := tlen_zero _ _ h
  rw [gx_tlens] at this
  omega
theorem olen_eq (zss : List (List Int)) (k : Nat) (h1 : ∀ j, k ≤ j → tlen (gt zss j) = 0) (h2 : k = 0 ∨ ¬ tlen (gt zss (k - 1)) = 0) : olen zss = k := by
  refine tlen_eq _ k (fun j hj => by rw [gx_tlens, h1 j hj]; rfl) ?_
  rcases h2 with h | h
  · exact .inl h
  · refine .inr ?_
    rw [gx_tlens]
    omega
theorem gt_over0 (zss : List (List Int)) (j : Nat) (h : zss.length ≤ j) : gt zss j = [] := by simp [gt, h]; rfl
theorem gt_take {α : Type} [Inhabited α] (l : List α) (n j : Nat) (h : j < n) : gt (l.take n) j = gt l j := by simp [gt, List.getElem?_take, h]
theorem gh_take (l : List Hdr) (n j : Nat) (h : j < n) : gh (l.take n) j = gh l j := by simp [gh, List.getElem?_take, h]
/-- A row's beginning. -/
theorem HRow.cut {α : Type} [Inhabited α] {D : Nat} {E : World → Nat → Nat → α → Hdr → Prop} {w : World} {B T : Nat} {ts : List α} {h : Hdr} {hs : List Hdr} (k : HRow D E w B T ts h hs) (n : Nat) (hn : n ≤ h.n) : HRow D E w B T (ts.take n) ⟨h.p, n, n⟩ (hs.take n) := by
  refine ⟨by have := k.el; simp; omega, by have := k.tl; simp; omega, Nat.le_refl _, Nat.le_trans hn (Nat.le_trans k.cap k.bnd), fun e => ?_, Nat.le_trans hn k.few, fun hp => ?_, fun a ha h0 => k.at_ a ha (Nat.lt_of_lt_of_le h0 hn), fun j hj => ?_⟩
  · have h1 := k.pn e
    have h2 := k.cap
    show n = 0
    omega
  · have hl : 0 < n ∧ 0 < hs.length := by simp at hp; omega
    obtain ⟨b, o, hb, hc⟩ := k.hl hl.2
    refine ⟨b, o, hb, fun j hj => ?_⟩
    have hj' : j < n ∧ j < hs.length := by simp at hj; omega
    rw [gh_take _ _ _ hj'.1]
    exact hc j hj'.2
  · rw [gh_take _ _ _ hj, gt_take _ _ _ hj]
    exact k.ev j (Nat.lt_of_lt_of_le hj hn)
set_option maxHeartbeats 2000000 in
theorem clipO_any (q : Option Addr) (m mc : Nat) (w : World) (h : m ≤ mc) (hc : mc ≤ maxLen) (hq : q = none → mc = 0) :
    Calls Tryz.prog 82 #[.slice q m mc] w fun e w' => e = .returned (.slice q m m) ∧ w = w' := by
  unfold maxLen at hc
  go_enter Tryz.func82, Tryz.ntmps82
  go_wp2
  go_ret
  exact ⟨rfl, rfl⟩
set_option maxHeartbeats 2000000 in
set_option maxRecDepth 100000 in
/-- ore.trim. -/
theorem otrim_any {w : World} {B T K E D : Nat} {zss : List (List Int)} {h : Hdr} (H : HR D (EZ K E) w B T zss h) (hT : T ≤ w.heap.size) (hD : D ≤ 1000000) (hE : E ≤ 1000000) :
    Calls Tryz.prog 65 #[.slice h.p h.n h.c] w fun e w' => e = .returned (.slice h.p (olen zss) (olen zss)) ∧ Below w.heap.size w w' := by
  obtain ⟨hs, k⟩ := H
  have HX : Hid (HRow D (EZ K E) w B T zss h hs ∧ T ≤ w.heap.size) := ⟨k, hT⟩
  have hn : h.n ≤ D := k.few
  have hcap : h.n ≤ h.c := k.cap
  have hbnd : h.c ≤ maxLen := k.bnd
  have hpn : h.p = none → h.c = 0 := k.pn
  have HL : Hid (zss.length = h.n) := k.tl
  obtain ⟨p, n, nc⟩ := h
  simp only at hn hcap hbnd hpn HL ⊢
  have hbnd' := hbnd
  unfold maxLen at hbnd'
  clear k hT
  go_enter Tryz.func65, Tryz.ntmps65
  go_wp2
  go_loopw [3] (fun nv wr => ∃ k : Nat, k ≤ n ∧ nv = .int .i64 k ∧ Hid ((∀ j, k ≤ j → tlen (gt zss j) = 0) ∧ Below w.heap.size w wr)) (fun nv _ => (intOf nv).toNat)
  case atStart => exact ⟨n, Nat.le_refl _, by go_num, fun j hj => by rw [gt_over0 _ _ (by have := HL.out; omega)]; rfl, Below.refl _ _⟩
  case round =>
    obtain ⟨k, hk, rfl, H⟩ := hrel
    rcases Nat.eq_zero_or_pos k with h0 | h0
    · subst h0
      have HT : Hid (olen zss = 0) := olen_eq zss 0 (fun j _ => H.out.1 j (Nat.zero_le _)) (.inl rfl)
      have hcl := fun w => clipO_any p 0 nc w (Nat.zero_le _) hbnd hpn
      go_wp2_with fail
      go_fit (hcl wr)
      rintro e w1 ⟨rfl, rfl⟩
      clear hcl
      go_wp2
      go_ret
      exact ⟨by rw [HT.out]; rfl, H.out.2⟩
    · obtain ⟨i, rfl⟩ : ∃ i, k = i + 1 := ⟨k - 1, by omega⟩
      obtain ⟨H1, H2⟩ := H.out
      have HH : Hid ((∀ j, i + 1 ≤ j → tlen (gt zss j) = 0) ∧ Below w.heap.size w wr) := ⟨H1, H2⟩
      obtain ⟨b, o, hp, hc⟩ := HX.out.1.hl (by rw [HX.out.1.el]; show 0 < n; omega)
      simp only at hp
      subst hp
      have c0 := hc i (by rw [HX.out.1.el]; show i < n; omega)
      have c1 : wr.cell? ⟨b, o + i, none⟩ = some (gh hs i).val := by rw [H2.cell (block_lt_of_cell c0)]; exact c0
      have hE2 := (lasts_EZ K E).below (HX.out.1.ev i (by show i < n; omega)) HX.out.2 H2
      generalize gh hs i = hd at c1 hE2
      obtain ⟨p2, n2, nc2⟩ := hd
      simp only [Hdr.val] at c1
      obtain ⟨es2, hP2, hd3, -, -⟩ := hE2
      simp only at hP2 hd3
      have v1 : wrap64 ((i : Int) + 1 - 1) = (i : Int) := by unfold wrap64; omega
      have hlt : (i : Int) < (n : Int) := by omega
      clear H H1 H2 hc c0
      go_wp2_with fail
      go_fit (uDeg_any K p2 n2 nc2 es2 (gt zss i) wr hP2 (by omega))
      rintro e w1 ⟨rfl, hb1⟩
      have hB := bnext' HH.out.2 hb1
      have HBB : Hid (Below w.heap.size w w1) := hB
      clear c1 hP2 hb1 hB
      have hcs : Hid (tlen (gt zss i) = 0 ∨ ¬ tlen (gt zss i) = 0) := Classical.em _
      rcases hcs.out with hz | hz
      · have HZ : Hid (tlen (gt zss i) = 0) := hz
        have d1 : (tlen (gt zss i) : Int) - 1 < 0 := by omega
        clear hz hcs
        generalize (tlen (gt zss i) : Int) - 1 = t at *
        go_wp2
        go_roundw
        case rel => exact ⟨i, by omega, by go_num, fun j hj => by
          rcases Nat.lt_or_ge i j with h | h
          · exact HH.out.1 j h
          · have : j = i := by omega
            subst this; exact HZ.out, HBB.out⟩
        case measure => simp [intOf]
      · have HT : Hid (olen zss = i + 1) := olen_eq zss (i + 1) HH.out.1 (.inr hz)
        have d1 : ¬ (tlen (gt zss i) : Int) - 1 < 0 := by omega
        clear hz hcs
        generalize (tlen (gt zss i) : Int) - 1 = t at *
        have hcl := fun w => clipO_any (some ⟨b, o, none⟩) (i + 1) nc w (by omega) hbnd hpn
        go_wp2_with fail
        go_fit (hcl w1)
        rintro e w2 ⟨rfl, rfl⟩
        clear hcl
        go_wp2
        go_ret
        exact ⟨by rw [HT.out]; rfl, HBB.out⟩
end Go.Proofs.YtcdfckjlmifjiaaGreat
