/-
  A call that is known: what it answered on a small memory of its own holds wherever that memory lies. (The runner with a table.)
-/
import Derived.Test.YtkbgeggflhfleaaGreatDoorG9
namespace Go.Proofs.YtkbgeggflhfleaaGreatDoor.Ev
open Go.RowKit
structure Ent where
  args : List LV
  blks : List Blk
  v : LV
  news : List Blk
noncomputable section
def nmEq (m : List Nat) (i n : Nat) : Bool :=
  match m[i]? with
  | some k => k.beq n
  | none => false
def capEq : Cap → Cap → Bool
  | .known a, .known b => a.beq b
  | .more a, .more b => a.beq b
  | _, _ => false
def eqv1 (m : List Nat) : LV → LV → Bool
  | .bool a => fun y => match y with
    | .bool b => Bool.rec (Bool.not b) b a
    | _ => false
  | .int k a => fun y => match y with
    | .int k' b => (k == k') && eqF a b
    | _ => false
  | .ptr i o => fun y => match y with
    | .ptr n o' => nmEq m i n && o.beq o'
    | _ => false
  | .nil => fun y => match y with
    | .nil => true
    | _ => false
  | .slice i o l c => fun y => match y with
    | .slice n o' l' c' => nmEq m i n && o.beq o' && l.beq l' && capEq c c'
    | _ => false
  | .nilSlice => fun y => match y with
    | .nilSlice => true
    | _ => false
  | .nilFunc => fun y => match y with
    | .nilFunc => true
    | _ => false
  | .nilIface => fun y => match y with
    | .nilIface => true
    | _ => false
  | _ => fun _ => false
def eqvL (f : LV → LV → Bool) (as1 : List LV) : List LV → Bool :=
  List.rec (fun bs => bs.isEmpty) (fun a _ ih bs => match bs with
    | [] => false
    | b :: bs => f a b && ih bs) as1
def eqv2 (m : List Nat) : LV → LV → Bool
  | .agg as1 => fun y => match y with
    | .agg bs => eqvL (eqv1 m) as1 bs
    | _ => false
  | .func (.func f) as1 cs => fun y => match y with
    | .func (.func g) bs ds => Nat.beq f g && eqvL (eqv1 m) as1 bs && eqvL (eqv1 m) cs ds
    | _ => false
  | a => eqv1 m a
def eqv3 (m : List Nat) : LV → LV → Bool
  | .tuple as1 => fun y => match y with
    | .tuple bs => eqvL (eqv2 m) as1 bs
    | _ => false
  | .func (.func f) as1 cs => fun y => match y with
    | .func (.func g) bs ds => Nat.beq f g && eqvL (eqv2 m) as1 bs && eqvL (eqv2 m) cs ds
    | _ => false
  | a => eqv2 m a
def moreEq : Option Nat → Option Nat → Bool
  | none, none => true
  | some a, some b => a.beq b
  | _, _ => false
def eqB (m : List Nat) (a b : Blk) : Bool :=
  a.lp.isNone && b.lp.isNone && Nat.beq a.elem b.elem && moreEq a.more b.more && eqvL (eqv1 m) a.cells b.cells
/- The same value with other names. -/
def ren1 (g : Nat → Nat) : LV → LV
  | .ptr i o => .ptr (g i) o
  | .slice i o l c => .slice (g i) o l c
  | v => v
def ren2 (g : Nat → Nat) : LV → LV
  | .agg cs => .agg (cs.map (ren1 g))
  | .func f a b => .func f (a.map (ren1 g)) (b.map (ren1 g))
  | v => ren1 g v
def ren3 (g : Nat → Nat) : LV → LV
  | .tuple cs => .tuple (cs.map (ren2 g))
  | .func f a b => .func f (a.map (ren2 g)) (b.map (ren2 g))
  | v => ren2 g v
def renB (g : Nat → Nat) (b : Blk) : Blk := ⟨b.cells.map (ren1 g), b.elem, b.more, none⟩
def Same (σ ρ : Ren) (a b : LV) : Prop := ∀ x, VR σ a x ↔ VR ρ b x
end
theorem nmEq_eq {m : List Nat} {i n : Nat} (h : nmEq m i n = true) : m[i]? = some n := by
  unfold nmEq at h
  split at h
  · rename_i k hk; rw [hk, Nat.eq_of_beq_eq_true h]
  · cases h
theorem capEq_eq {a b : Cap} (h : capEq a b = true) : a = b := by
  cases a <;> cases b <;> simp only [capEq] at h <;> first | cases h | (rw [Nat.eq_of_beq_eq_true h])
theorem eqv1_ren {m : List Nat} {σ ρ : Ren} {g : Nat → Nat} (hσ : ∀ i n, m[i]? = some n → σ (g i) = ρ n) {a b : LV} (h : eqv1 m a b = true) : Same σ ρ (ren1 g a) b := by
  intro x
  cases a <;> cases b <;> simp only [eqv1] at h <;> try cases h
  case bool a b =>
    have : a = b := by cases a <;> cases b <;> first | rfl | cases h
    subst this
    constructor <;> (intro hx; cases hx; exact .bool _)
  case int k a k' b =>
    simp only [Bool.and_eq_true] at h
    have e1 := eq_of_beq h.1
    have e2 := h.2
    rw [eqF_eq] at e2
    have e2 := eq_of_beq e2
    subst e1 e2
    constructor <;> (intro hx; cases hx; exact .int _ _)
  case ptr i o n o' =>
    simp only [Bool.and_eq_true] at h
    have e1 := hσ _ _ (nmEq_eq h.1)
    have e2 := Nat.eq_of_beq_eq_true h.2
    subst e2
    constructor
    · intro hx; cases hx with | ptr hp => exact .ptr (by rw [← e1]; exact hp)
    · intro hx; cases hx with | ptr hp => exact .ptr (by rw [e1]; exact hp)
  case nil => constructor <;> (intro hx; cases hx; exact .nil)
  case slice i o l c n o' l' c' =>
    simp only [Bool.and_eq_true] at h
    obtain ⟨⟨⟨h1, h2⟩, h3⟩, h4⟩ := h
    have e1 := hσ _ _ (nmEq_eq h1)
    have e2 := Nat.eq_of_beq_eq_true h2
    have e3 := Nat.eq_of_beq_eq_true h3
    have e4 := capEq_eq h4
    subst e2 e3 e4
    constructor
    · intro hx
      cases hx with
      | known hp => exact .known (by rw [← e1]; exact hp)
      | more hp => exact .more (by rw [← e1]; exact hp)
    · intro hx
      cases hx with
      | known hp => exact .known (by rw [e1]; exact hp)
      | more hp => exact .more (by rw [e1]; exact hp)
  case nilSlice => constructor <;> (intro hx; cases hx; exact .nilSlice)
  case nilFunc => constructor <;> (intro hx; cases hx; exact .nilFunc)
  case nilIface => constructor <;> (intro hx; cases hx; exact .nilIface)
theorem eqvL_cons (f : LV → LV → Bool) (a b : LV) (as1 bs : List LV) : eqvL f (a :: as1) (b :: bs) = (f a b && eqvL f as1 bs) := rfl
theorem eqvL_ren {f : LV → LV → Bool} {r : LV → LV} {σ ρ : Ren} (hf : ∀ a b, f a b = true → Same σ ρ (r a) b) : ∀ {as1 bs : List LV}, eqvL f as1 bs = true → ∀ xs, VRs σ (as1.map r) xs ↔ VRs ρ bs xs
  | [], [], _, xs => by constructor <;> (intro hx; cases hx; exact .nil)
  | [], _ :: _, h, _ => by cases h
  | _ :: _, [], h, _ => by cases h
  | a :: as1, b :: bs, h, xs => by
    rw [eqvL_cons, Bool.and_eq_true] at h
    have ih := eqvL_ren hf h.2
    have h1 := hf a b h.1
    constructor
    · intro hx; cases hx with | cons p q => exact .cons ((h1 _).1 p) ((ih _).1 q)
    · intro hx; cases hx with | cons p q => exact .cons ((h1 _).2 p) ((ih _).2 q)
theorem eqvL_len {f : LV → LV → Bool} : ∀ {as1 bs : List LV}, eqvL f as1 bs = true → as1.length = bs.length
  | [], [], _ => rfl
  | [], _ :: _, h => by cases h
  | _ :: _, [], h => by cases h
  | a :: as1, b :: bs, h => by
    rw [eqvL_cons, Bool.and_eq_true] at h
    simp [eqvL_len h.2]
theorem eqvL_get {f : LV → LV → Bool} : ∀ {as1 bs : List LV}, eqvL f as1 bs = true → ∀ {i : Nat} {a : LV}, as1[i]? = some a → ∃ b, bs[i]? = some b ∧ f a b = true
  | [], _, _, i, a, h => by simp at h
  | _ :: _, [], h, _, _, _ => by cases h
  | a :: as1, b :: bs, h, 0, c, hi => by
    rw [eqvL_cons, Bool.and_eq_true] at h
    simp only [List.getElem?_cons_zero, Option.some.injEq] at hi
    subst hi
    exact ⟨b, rfl, h.1⟩
  | a :: as1, b :: bs, h, i + 1, c, hi => by
    rw [eqvL_cons, Bool.and_eq_true] at h
    simp only [List.getElem?_cons_succ] at hi ⊢
    exact eqvL_get h.2 hi
theorem eqvL_get' {f : LV → LV → Bool} : ∀ {as1 bs : List LV}, eqvL f as1 bs = true → ∀ {i : Nat} {b : LV}, bs[i]? = some b → ∃ a, as1[i]? = some a ∧ f a b = true
  | _, [], _, i, a, h => by simp at h
  | [], _ :: _, h, _, _, _ => by cases h
  | a :: as1, b :: bs, h, 0, c, hi => by
    rw [eqvL_cons, Bool.and_eq_true] at h
    simp only [List.getElem?_cons_zero, Option.some.injEq] at hi
    subst hi
    exact ⟨a, rfl, h.1⟩
  | a :: as1, b :: bs, h, i + 1, c, hi => by
    rw [eqvL_cons, Bool.and_eq_true] at h
    simp only [List.getElem?_cons_succ] at hi ⊢
    exact eqvL_get' h.2 hi
theorem func_ren {f : LV → LV → Bool} {r : LV → LV} {σ ρ : Ren} (hf : ∀ a b, f a b = true → Same σ ρ (r a) b) {i j : Nat} {as1 cs bs ds : List LV}
    (h : (Nat.beq i j && eqvL f as1 bs && eqvL f cs ds) = true) : Same σ ρ (.func (.func i) (as1.map r) (cs.map r)) (.func (.func j) bs ds) := by
  simp only [Bool.and_eq_true] at h
  have e := Nat.eq_of_beq_eq_true h.1.1
  subst e
  have h1 := eqvL_ren hf h.1.2
  have h2 := eqvL_ren hf h.2
  intro x
  constructor
  · intro hx; cases hx with | func p q => exact .func ((h1 _).1 p) ((h2 _).1 q)
  · intro hx; cases hx with | func p q => exact .func ((h1 _).2 p) ((h2 _).2 q)
theorem eqv2_ren {m : List Nat} {σ ρ : Ren} {g : Nat → Nat} (hσ : ∀ i n, m[i]? = some n → σ (g i) = ρ n) {a b : LV} (h : eqv2 m a b = true) : Same σ ρ (ren2 g a) b := by
  cases a
  case bool c0 => exact eqv1_ren (g := g) (a := .bool c0) hσ h
  case int c0 c1 => exact eqv1_ren (g := g) (a := .int c0 c1) hσ h
  case str c0 => exact eqv1_ren (g := g) (a := .str c0) hσ h
  case ptr c0 c1 => exact eqv1_ren (g := g) (a := .ptr c0 c1) hσ h
  case nil  => exact eqv1_ren (g := g) (a := .nil ) hσ h
  case slice c0 c1 c2 c3 => exact eqv1_ren (g := g) (a := .slice c0 c1 c2 c3) hσ h
  case nilSlice  => exact eqv1_ren (g := g) (a := .nilSlice ) hσ h
  case nilFunc  => exact eqv1_ren (g := g) (a := .nilFunc ) hσ h
  case iface c0 c1 => exact eqv1_ren (g := g) (a := .iface c0 c1) hσ h
  case nilIface  => exact eqv1_ren (g := g) (a := .nilIface ) hσ h
  case tuple c0 => exact eqv1_ren (g := g) (a := .tuple c0) hσ h
  case yield c0 => exact eqv1_ren (g := g) (a := .yield c0) hσ h
  case agg as1 =>
    cases b <;> try cases h
    case agg bs =>
      have h1 := eqvL_ren (r := ren1 g) (fun a b => eqv1_ren hσ) h
      intro x
      constructor
      · intro hx; cases hx with | agg p => exact .agg ((h1 _).1 p)
      · intro hx; cases hx with | agg p => exact .agg ((h1 _).2 p)
  case func fn u v =>
    cases fn <;> cases b <;> try cases h
    case func.func i fn bs ds =>
      cases fn <;> try cases h
      exact func_ren (r := ren1 g) (fun a b => eqv1_ren hσ) h
theorem eqv3_ren {m : List Nat} {σ ρ : Ren} {g : Nat → Nat} (hσ : ∀ i n, m[i]? = some n → σ (g i) = ρ n) {a b : LV} (h : eqv3 m a b = true) : Same σ ρ (ren3 g a) b := by
  cases a
  case bool c0 => exact eqv2_ren (g := g) (a := .bool c0) hσ h
  case int c0 c1 => exact eqv2_ren (g := g) (a := .int c0 c1) hσ h
  case str c0 => exact eqv2_ren (g := g) (a := .str c0) hσ h
  case ptr c0 c1 => exact eqv2_ren (g := g) (a := .ptr c0 c1) hσ h
  case nil  => exact eqv2_ren (g := g) (a := .nil ) hσ h
  case slice c0 c1 c2 c3 => exact eqv2_ren (g := g) (a := .slice c0 c1 c2 c3) hσ h
  case nilSlice  => exact eqv2_ren (g := g) (a := .nilSlice ) hσ h
  case nilFunc  => exact eqv2_ren (g := g) (a := .nilFunc ) hσ h
  case iface c0 c1 => exact eqv2_ren (g := g) (a := .iface c0 c1) hσ h
  case nilIface  => exact eqv2_ren (g := g) (a := .nilIface ) hσ h
  case agg c0 => exact eqv2_ren (g := g) (a := .agg c0) hσ h
  case yield c0 => exact eqv2_ren (g := g) (a := .yield c0) hσ h
  case tuple as1 =>
    cases b <;> try cases h
    case tuple bs =>
      have h1 := eqvL_ren (r := ren2 g) (fun a b => eqv2_ren hσ) h
      intro x
      constructor
      · intro hx; cases hx with | tuple p => exact .tuple ((h1 _).1 p)
      · intro hx; cases hx with | tuple p => exact .tuple ((h1 _).2 p)
  case func fn u v =>
    cases fn <;> cases b <;> try cases h
    case func.func i fn bs ds =>
      cases fn <;> try cases h
      exact func_ren (r := ren2 g) (fun a b => eqv2_ren hσ) h
theorem ren1_id (a : LV) : ren1 id a = a := by cases a <;> rfl
theorem map_ren {r : LV → LV} (h : ∀ a, r a = a) (l : List LV) : l.map r = l := by
  induction l with
  | nil => rfl
  | cons a l ih => rw [List.map_cons, ih, h]
theorem ren2_id (a : LV) : ren2 id a = a := by
  cases a <;> first | rfl | (simp only [ren2, map_ren ren1_id]; done)
theorem ren3_id (a : LV) : ren3 id a = a := by
  cases a <;> first | rfl | (simp only [ren3, map_ren ren2_id]; done) | (simp only [ren3]; exact ren2_id _)
theorem eqv1_same {m : List Nat} {σ ρ : Ren} (hσ : ∀ i n, m[i]? = some n → σ i = ρ n) {a b : LV} (h : eqv1 m a b = true) : Same σ ρ a b := by
  have := eqv1_ren (g := id) hσ h; rwa [ren1_id] at this
theorem eqv3_same {m : List Nat} {σ ρ : Ren} (hσ : ∀ i n, m[i]? = some n → σ i = ρ n) {a b : LV} (h : eqv3 m a b = true) : Same σ ρ a b := by
  have := eqv3_ren (g := id) hσ h; rwa [ren3_id] at this
theorem eqvA_same {m : List Nat} {σ ρ : Ren} (hσ : ∀ i n, m[i]? = some n → σ i = ρ n) {as1 bs : List LV} (h : eqvL (eqv3 m) as1 bs = true) (xs : List Value) : VRs σ as1 xs ↔ VRs ρ bs xs := by
  have := eqvL_ren (r := id) (σ := σ) (ρ := ρ) (fun a b => eqv3_same hσ) h xs
  rwa [List.map_id] at this
end Go.Proofs.YtkbgeggflhfleaaGreatDoor.Ev
