/-
  Packing polynomials into numbers (Kronecker): plain.
-/
import Derived.Test.YtejnhpjejcpekaaGreatDoorCyViVuWxUpUqRmRpDkDlDbRiRjRgRkVqDcUmUoDmDvPmHuVsVtVy
import Derived.Test.YtejnhpjejcpekaaGreatDoorUaWhPnWk
import Derived.Test.YtejnhpjejcpekaaGreatDoorMmNaWaWbWc
import Derived.Test.YtejnhpjejcpekaaGreatDoorByDqUxUtUvUwUyUzUrUsHaHbHcWvUhHeVvCu
import Derived.Deep.RegionHeld3
import Derived.Deep.CutRange
namespace Go.Proofs.YtejnhpjejcpekaaGreatDoor
open Go.RowKit
set_option linter.unusedVariables false
set_option linter.unusedSimpArgs false
set_option maxHeartbeats 8000000
theorem val_midz {A xs : List Int} {o : Nat} (h : o + xs.length ≤ A.length) (hz : ∀ j, o ≤ j → gx A j = 0) : val (mid A o xs) = val A + pw o * val xs := by
  have hl : (A.take o).length = o := by simp; omega
  have z1 : val (A.drop (o + xs.length)) = 0 := val_zeros _ fun j => by rw [gx_drop]; exact hz _ (by omega)
  have z2 : val (A.drop o) = 0 := val_zeros _ fun j => by rw [gx_drop]; exact hz _ (by omega)
  have e := val_drop_take A o (by omega)
  rw [z2, Int.mul_zero, Int.add_zero] at e
  rw [mid, val_append, val_append, z1, hl, e]
  simp
theorem gx_midz {A xs : List Int} {o : Nat} (h : o + xs.length ≤ A.length) (hz : ∀ j, o ≤ j → gx A j = 0) (j : Nat) (hj : o + xs.length ≤ j) : gx (mid A o xs) j = 0 := by
  rw [mid, row_gx A xs o j h hj]
  exact hz j (by omega)
theorem u32_midz {A xs : List Int} {o : Nat} (hA : U32 A) (hx : U32 xs) : U32 (mid A o xs) := u32_append (u32_append (u32_take hA o) hx) (u32_drop hA _)
def pkf (W : Nat) (f : Nat → Int) : Nat → Int
  | 0 => 0
  | k + 1 => pkf W f k + f k * pw (W * k)
theorem pkf_congr (W : Nat) {f g : Nat → Int} : ∀ k, (∀ j, j < k → f j = g j) → pkf W f k = pkf W g k
  | 0, _ => rfl
  | k + 1, h => by rw [pkf, pkf, pkf_congr W k fun j hj => h j (by omega), h k (by omega)]
theorem pkf_zero (W : Nat) : ∀ k, pkf W (fun _ => 0) k = 0
  | 0 => rfl
  | k + 1 => by rw [pkf, pkf_zero W k]; simp
theorem pkf_add (W : Nat) (f g : Nat → Int) : ∀ k, pkf W (fun j => f j + g j) k = pkf W f k + pkf W g k
  | 0 => rfl
  | k + 1 => by
    rw [pkf, pkf, pkf, pkf_add W f g k, Int.add_mul]
    omega
theorem pkf_more (W : Nat) (f : Nat → Int) (k : Nat) (h : ∀ j, k ≤ j → f j = 0) : ∀ m, pkf W f (k + m) = pkf W f k
  | 0 => rfl
  | m + 1 => by rw [← Nat.add_assoc, pkf, pkf_more W f k h m, h (k + m) (by omega)]; simp
theorem pkf_shift (W : Nat) (z : Int) (f : Nat → Int) (i : Nat) : ∀ k, pkf W (fun t => if i ≤ t then z * f (t - i) else 0) (i + k) = z * pw (W * i) * pkf W f k
  | 0 => by
    have h : ∀ j, j < i + 0 → (fun t => if i ≤ t then z * f (t - i) else 0) j = (fun _ => 0) j := fun j hj => by simp; omega
    rw [pkf_congr W _ h, pkf_zero, pkf, Int.mul_zero]
  | k + 1 => by
    rw [← Nat.add_assoc, pkf, pkf_shift W z f i k, pkf]
    simp only [Nat.le_add_right, if_true, Nat.add_sub_cancel_left]
    rw [Nat.mul_add, pw_add, Int.mul_add]
    congr 1
    rw [Int.mul_assoc, Int.mul_assoc, ← Int.mul_assoc (f k), Int.mul_comm (f k), Int.mul_assoc (pw (W * i))]
theorem pkf_mul (W : Nat) (zs ys : List Int) (T : Nat) : ∀ i, i + ys.length ≤ T + 1 → pkf W (ps zs ys i) T = pkf W (gx zs) i * pkf W (gx ys) ys.length
  | 0, _ => by
    show pkf W (fun _ => 0) T = _
    rw [pkf_zero, pkf, Int.zero_mul]
  | i + 1, h => by
    have h1 : ∀ j, j < T → ps zs ys (i + 1) j = (fun t => ps zs ys i t + (if i ≤ t then gx zs i * gx ys (t - i) else 0)) j := fun j _ => rfl
    have hT : T = i + (T - i) := by omega
    have hk : pkf W (gx ys) (T - i) = pkf W (gx ys) ys.length := by
      have := pkf_more W (gx ys) ys.length (fun j hj => gx_past ys _ (Nat.le_refl _) j hj) (T - i - ys.length)
      rwa [show ys.length + (T - i - ys.length) = T - i by omega] at this
    have hs := pkf_shift W (gx zs i) (gx ys) i (T - i)
    rw [← hT, hk] at hs
    rw [pkf_congr W T h1, pkf_add, pkf_mul W zs ys T i (by omega), hs, pkf, Int.add_mul]
def tlf (W : Nat) (d : Nat → Int) : Nat → Nat → Int
  | 0, _ => 0
  | k + 1, i => d i + pw W * tlf W d k (i + 1)
theorem tlf_pkf (W : Nat) (d : Nat → Int) : ∀ k i, pkf W d i + pw (W * i) * tlf W d k i = pkf W d (i + k)
  | 0, i => by simp [tlf]
  | k + 1, i => by
    have h := tlf_pkf W d k (i + 1)
    rw [show i + (k + 1) = i + 1 + k by omega, ← h, tlf, pkf, Nat.mul_add, Nat.mul_one, pw_add, Int.mul_add]
    have e : pw (W * i) * d i = d i * pw (W * i) := Int.mul_comm _ _
    have e2 : pw (W * i) * (pw W * tlf W d k (i + 1)) = pw (W * i) * pw W * tlf W d k (i + 1) := (Int.mul_assoc _ _ _).symm
    omega
theorem tlf_all (W : Nat) (d : Nat → Int) (n : Nat) : tlf W d n 0 = pkf W d n := by
  have := tlf_pkf W d n 0
  rw [Nat.zero_add, Nat.mul_zero, pw_zero, Int.one_mul, pkf, Int.zero_add] at this
  exact this
theorem digit_step {Q c d R X : Int} (hc : c = 0 ∨ c = 1) (hX : 0 < X) (h : Q + c = d + X * R) (hd : 2 * (d.natAbs : Int) < X) :
    (X ≤ 2 * (Q % X + c) → Q % X + c - X = d ∧ Q / X + 1 = R) ∧ (¬ X ≤ 2 * (Q % X + c) → Q % X + c = d ∧ Q / X = R) := by
  have h1 := Int.mul_ediv_add_emod Q X
  have h2 := Int.emod_nonneg Q (show X ≠ 0 by omega)
  have h3 := Int.emod_lt_of_pos Q hX
  have hk : Q % X + c = d + X * (R - Q / X) := by rw [Int.mul_sub]; omega
  obtain ⟨k, hkk⟩ : ∃ k, k = R - Q / X := ⟨_, rfl⟩
  rw [← hkk] at hk
  have k0 : 0 ≤ k := by
    rcases Int.lt_or_le k 0 with hn | hn
    · have := Int.mul_le_mul_of_nonneg_left (show k ≤ -1 by omega) (Int.le_of_lt hX)
      omega
    · exact hn
  have k1 : k ≤ 1 := by
    rcases Int.lt_or_le 1 k with hn | hn
    · have := Int.mul_le_mul_of_nonneg_left (show 2 ≤ k by omega) (Int.le_of_lt hX)
      omega
    · exact hn
  rcases (show k = 0 ∨ k = 1 by omega) with e | e
  · rw [e, Int.mul_zero] at hk
    exact ⟨fun h => by omega, fun h => ⟨by omega, by omega⟩⟩
  · rw [e, Int.mul_one] at hk
    exact ⟨fun h => ⟨by omega, by omega⟩, fun h => by omega⟩
theorem val_digit {L : List Int} (h : U32 L) (k W : Nat) : val ((L.drop k).take W) = (val L / pw k) % pw W := by
  rcases Nat.lt_or_ge L.length k with hk | hk
  · have e : L.drop k = [] := List.drop_eq_nil_of_le (by omega)
    have h1 := val_lt h
    have h2 := val_nonneg h
    have h3 := pw_mono (Nat.le_of_lt hk)
    rw [e, List.take_nil, Int.ediv_eq_zero_of_lt h2 (by omega)]
    simp [val]
  · have e := val_drop_take L k hk
    have hl : (L.take k).length = k := by simp; omega
    have h1 := val_lt (u32_take h k)
    have h2 := val_nonneg (u32_take h k)
    rw [hl] at h1
    have e1 : val L / pw k = val (L.drop k) := by
      rw [e, Int.add_mul_ediv_left _ _ (by have := pw_pos k; omega), Int.ediv_eq_zero_of_lt h2 h1, Int.zero_add]
    rw [e1]
    have hD := u32_drop h k
    generalize L.drop k = D at *
    rcases Nat.lt_or_ge D.length W with hw | hw
    · rw [List.take_of_length_le (by omega), Int.emod_eq_of_lt (val_nonneg hD)]
      have := val_lt hD
      have := pw_mono (Nat.le_of_lt hw)
      omega
    · have e2 := val_drop_take D W hw
      have hl2 : (D.take W).length = W := by simp; omega
      have h3 := val_lt (u32_take hD W)
      rw [hl2] at h3
      rw [e2, Int.add_mul_emod_self_left, Int.emod_eq_of_lt (val_nonneg (u32_take hD W)) h3]
theorem pw_div (A : Int) (i W : Nat) : A / pw (W * (i + 1)) = A / pw (W * i) / pw W := by
  rw [Nat.mul_add, Nat.mul_one, pw_add, Int.ediv_ediv_of_nonneg (Int.le_of_lt (pw_pos _))]
theorem pw_twoP (W : Nat) : pw W = 2 ^ (32 * W) := by
  unfold pw
  rw [Int.pow_mul]
  rfl
theorem zb_half {c : Int} {W : Nat} (h0 : 0 ≤ c) (hW : 1 ≤ W) : 32 * W ≤ zb c ↔ pw W ≤ 2 * c := by
  obtain ⟨a, b, d⟩ := zb_ib c
  have e : (c.natAbs : Int) = c := by omega
  rw [e] at b d
  rw [pw_twoP, show 32 * W = 32 * W - 1 + 1 by omega, Int.pow_succ]
  constructor
  · intro h
    rcases d with d | d
    · omega
    · have := p2_mono (show 32 * W - 1 ≤ zb c - 1 by omega)
      omega
  · intro h
    rcases Nat.lt_or_ge (zb c) (32 * W - 1 + 1) with h1 | h1
    · have := p2_mono (show zb c ≤ 32 * W - 1 by omega)
      omega
    · omega
theorem copy_into (ty : TypeId) (w : World) (g off dl dc : Nat) (q : Option Addr) (m mc : Nat) (Z xs : List Int) (hg : Row w g 88 .u32 Z) (hX : Rd w q .u32 xs) (hl : xs.length = m) (hm : m ≤ dl) (hfit : off + m ≤ Z.length) :
    ∃ W', (Builtin.copy_ #[24, 24] ty #[.slice (some ⟨g, off, none⟩) dl dc, .slice q m mc]).run Tryz.prog w = .ok (.int .i64 m) W' ∧ Row W' g 88 .u32 (mid Z off xs) ∧ w.grownBy W' (some g) := by
  rcases Nat.eq_zero_or_pos m with h0 | h0
  · subst h0
    have : xs = [] := List.eq_nil_of_length_eq_zero hl
    subst this
    refine ⟨w, run_copy_none (P := Tryz.prog) _ 24 24 ty 88 _ _ dl dc 0 mc Tryz.underlying24 (by kernel_rfl) (by simp), ?_, grownBy_refl _ _⟩
    rw [mid]
    simpa using hg
  · obtain ⟨b, o, rfl, hc⟩ := hX (by omega)
    have hr := run_copy_row (P := Tryz.prog) w 24 24 ty 88 g off dl dc ⟨b, o, none⟩ m mc _ 88 (xs.map (Value.int .u32)) Tryz.underlying24 (by kernel_rfl) hg (by rw [List.length_map, hl]; exact (Nat.min_eq_left hm).symm) (Rd.src hc) (by rw [List.length_map, size_ca]; omega) (oneCell_ca _ _)
    rw [List.length_map, hl] at hr
    refine ⟨w.setRow g _, hr, ?_, ⟨rfl, rfl, rfl, by simp, fun k _ hk => setRow_other w g k _ (fun e => hk (by rw [e]))⟩⟩
    have e : (List.take off (ca .u32 Z).toList ++ xs.map (Value.int .u32) ++ List.drop (off + m) (ca .u32 Z).toList).toArray = ca .u32 (mid Z off xs) := by
      unfold ca mid
      rw [List.map_append, List.map_append, List.map_take, List.map_drop, hl]
    rw [e]
    exact setRow_heap w g _ _ _ _ hg
theorem step_copy_g {ops : Array Oper} {o : Oper} {a : Act} {w : World} {K : Act → World → Prop} {Q : Exit → Act → World → Prop} {E : Prop} (hgd : o.guard = none) (d s : Operand)
    (ho : o.op = .call { callee := .builtin .copy, args := #[d, s], argTypes := #[24, 24] }) (g off dl dc : Nat) (q : Option Addr) (m mc : Nat) (hd : a.eval d = .slice (some ⟨g, off, none⟩) dl dc) (hs : a.eval s = .slice q m mc)
    (Z xs : List Int) (hg : Row w g 88 .u32 Z) (hX : Rd w q .u32 xs) (hl : xs.length = m) (hm : m ≤ dl) (hfit : off + m ≤ Z.length)
    (h : ∀ w', Row w' g 88 .u32 (mid Z off xs) → w.grownBy w' (some g) → K (a.put o.dst (.int .i64 m)) w') :
    if Region.wanted o (yielded ops a.tmps) = true then Oper.wp Tryz.prog o a w K Q else E := by
  obtain ⟨W', e, h1, h2⟩ := copy_into o.type w g off dl dc q m mc Z xs hg hX hl hm hfit
  have hk := h W' h1 h2
  rw [if_pos (by simp [Region.wanted, hgd]), Oper.wp]
  simp [e, hd, hs, ho, builtin, invoke, resolve, execOp, Result.andThen]
  exact hk
structure PK (w wr : World) (ga gb W n k : Nat) (zs A Bl : List Int) : Prop where
  ra : Row wr ga 88 .u32 A
  rb : Row wr gb 88 .u32 Bl
  la : A.length = W * n
  lb : Bl.length = W * n
  ua : U32 A
  ub : U32 Bl
  za : ∀ j, W * k ≤ j → gx A j = 0
  zb : ∀ j, W * k ≤ j → gx Bl j = 0
  v : val A - val Bl = pkf W (gx zs) k
  ne : ga ≠ gb
  fa : w.heap.size < ga
  fb : w.heap.size < gb
  rx : Bx wr w.heap.size (.bool false) (.slice none 0 0)
  bw : Below w.heap.size w wr
theorem en_parts {w : World} {K : Nat} {z : Int} {e : Ent} (h : EN w K z e) : ∃ xs, Rd w e.p .u32 xs ∧ xs.length = e.n ∧ U32 xs ∧ ((e.s = false ∧ val xs = z) ∨ (e.s = true ∧ val xs = -z)) := by
  obtain ⟨xs, h1, h2, h3, h4, h5⟩ := h
  refine ⟨xs, h1.rd, h1.len, h1.u, ?_⟩
  cases hs : e.s <;> rw [hs] at h2 <;> simp [ival] at h2
  · exact .inl ⟨rfl, h2⟩
  · exact .inr ⟨rfl, by omega⟩
theorem PK.above {w wr v w' : World} {ga gb W n k : Nat} {zs A Bl xs : List Int} (h : PK w wr ga gb W n k zs A Bl) (hb : Below wr.heap.size wr v) (hu : U32 xs) (hv : val xs = gx zs k) (hl : xs.length ≤ W) (hk : k < n) (hr : Row w' ga 88 .u32 (mid A (W * k) xs)) (hg : v.grownBy w' (some ga)) : PK w w' ga gb W n (k + 1) zs (mid A (W * k) xs) Bl := by
  have h1 : W * (k + 1) ≤ W * n := Nat.mul_le_mul_left _ hk
  have h2 : W * (k + 1) = W * k + W := by rw [Nat.mul_add, Nat.mul_one]
  have hfit : W * k + xs.length ≤ A.length := by rw [h.la]; omega
  have hne := h.ne
  have hfa := h.fa
  refine ⟨hr, (h.rb.below hb h.rb.lt).kept hg (by simp; omega), by rw [mid_length _ _ _ hfit]; exact h.la, h.lb, u32_midz h.ua hu, h.ub, fun j hj => gx_midz hfit h.za j (by omega), fun j hj => h.zb j (by omega), ?_, h.ne, h.fa, h.fb, Bx.kept (h.rx.later hb) hg (by simp; omega), below_grown (bnext' h.bw hb) hg (by have := h.bw.size; have := hb.size; omega) (by omega)⟩
  rw [val_midz hfit h.za, pkf, ← h.v, hv, Int.mul_comm]
  omega
theorem PK.under {w wr v w' : World} {ga gb W n k : Nat} {zs A Bl xs : List Int} (h : PK w wr ga gb W n k zs A Bl) (hb : Below wr.heap.size wr v) (hu : U32 xs) (hv : val xs = -gx zs k) (hl : xs.length ≤ W) (hk : k < n) (hr : Row w' gb 88 .u32 (mid Bl (W * k) xs)) (hg : v.grownBy w' (some gb)) : PK w w' ga gb W n (k + 1) zs A (mid Bl (W * k) xs) := by
  have h1 : W * (k + 1) ≤ W * n := Nat.mul_le_mul_left _ hk
  have h2 : W * (k + 1) = W * k + W := by rw [Nat.mul_add, Nat.mul_one]
  have hfit : W * k + xs.length ≤ Bl.length := by rw [h.lb]; omega
  have hne := h.ne
  have hfb := h.fb
  refine ⟨(h.ra.below hb h.ra.lt).kept hg (by simp; omega), hr, h.la, by rw [mid_length _ _ _ hfit]; exact h.lb, h.ua, u32_midz h.ub hu, fun j hj => h.za j (by omega), fun j hj => gx_midz hfit h.zb j (by omega), ?_, h.ne, h.fa, h.fb, Bx.kept (h.rx.later hb) hg (by simp; omega), below_grown (bnext' h.bw hb) hg (by have := h.bw.size; have := hb.size; omega) (by omega)⟩
  rw [val_midz hfit h.zb, pkf, ← h.v, hv, Int.mul_neg, Int.mul_comm]
  omega
theorem pkf_neg (W : Nat) (d : Nat → Int) : ∀ k, pkf W (fun j => -d j) k = -pkf W d k
  | 0 => rfl
  | k + 1 => by rw [pkf, pkf, pkf_neg W d k, Int.neg_mul]; omega
def sgd (s : Bool) (d : Nat → Int) (j : Nat) : Int := if s then -d j else d j
theorem sgd_abs (s : Bool) (d : Nat → Int) (j : Nat) : (sgd s d j).natAbs = (d j).natAbs := by cases s <;> simp [sgd]
theorem pkf_sgd (W : Nat) (s : Bool) (d : Nat → Int) (k : Nat) : pkf W (sgd s d) k = if s then -pkf W d k else pkf W d k := by
  cases s
  · rfl
  · exact pkf_neg W d k
def Sf (g7 g10 : Nat) (e : Ent) : Prop := 0 < e.n → Off g7 e.p ∧ Off g10 e.p
structure UN (w wr : World) (g3 g7 g8 g9 g10 W n i M : Nat) (u one base cr : Ent) (xs : List Int) (d : Nat → Int) (us : List Ent) (c : Int) : Prop where
  b3 : Bx wr g3 (.bool u.s) (.slice u.p u.n u.c)
  a3 : AI wr u.p u.n u.c xs
  r7 : Row2 wr g7 26 us
  l7 : us.length = n
  b8 : Bx wr g8 (.bool one.s) (.slice one.p one.n one.c)
  v8 : EV wr 2 1 one
  b9 : Bx wr g9 (.bool base.s) (.slice base.p base.n base.c)
  v9 : EV wr (W + 1) (pw W) base
  b10 : Bx wr g10 (.bool cr.s) (.slice cr.p cr.n cr.c)
  v10 : EV wr 2 c cr
  c01 : c = 0 ∨ c = 1
  s3 : Sf g7 g10 u
  s8 : Sf g7 g10 one
  s9 : Sf g7 g10 base
  s10 : Sf g7 g10 cr
  q : ∀ j, j < i → NV w.heap.size wr M (d j) (ge us j) ∧ Sf g7 g10 (ge us j)
  gs : w.heap.size ≤ g3 ∧ w.heap.size ≤ g7 ∧ g7 < wr.heap.size ∧ g10 < wr.heap.size ∧ w.heap.size ≤ g10 ∧ g3 ≠ g7 ∧ g3 ≠ g10 ∧ g7 ≠ g10 ∧ g8 ≠ g7 ∧ g8 ≠ g10 ∧ g9 ≠ g7 ∧ g9 ≠ g10
  bw : Below w.heap.size w wr
theorem bset2o {B g o : Nat} {a b : World} (h : Below B a b) (hg : B ≤ g) (u v : Value) : Below B a ((b.setCell ⟨g, o, none⟩ u).setCell ⟨g, o + 1, none⟩ v) := (h.setCell (p := ⟨g, o, none⟩) hg u).setCell (p := ⟨g, o + 1, none⟩) hg v
theorem Sf.off {g7 g10 : Nat} {e : Ent} (h : Sf g7 g10 e) : 0 < e.n → Off g10 e.p := fun h0 => (h h0).2
theorem Sf.fresh {g7 g10 B : Nat} {e : Ent} (h : Go.Proofs.YtejnhpjejcpekaaGreatDoor.From B e.p) (h7 : g7 < B) (h10 : g10 < B) : Sf g7 g10 e := fun _ => ⟨off_from h h7, off_from h h10⟩
section
variable {w wr w' : World} {g3 g7 g8 g9 g10 W n i M : Nat} {u one base cr : Ent} {xs : List Int} {d : Nat → Int} {us : List Ent} {c : Int}
theorem UN.below (h : UN w wr g3 g7 g8 g9 g10 W n i M u one base cr xs d us c) (hb : Below wr.heap.size wr w') : UN w w' g3 g7 g8 g9 g10 W n i M u one base cr xs d us c :=
  ⟨h.b3.later hb, h.a3.below hb, h.r7.below hb h.r7.lt, h.l7, h.b8.later hb, h.v8.below hb, h.b9.later hb, h.v9.below hb, h.b10.later hb, h.v10.below hb, h.c01, h.s3, h.s8, h.s9, h.s10, fun j hj => ⟨(h.q j hj).1.below hb, (h.q j hj).2⟩, by have := h.gs; have := hb.size; omega, bnext' h.bw hb⟩
theorem UN.carry (h : UN w wr g3 g7 g8 g9 g10 W n i M u one base cr xs d us c) {cr' : Ent} {c' : Int} (hv : EV wr 2 c' cr') (hs : Sf g7 g10 cr') (hc : c' = 0 ∨ c' = 1) :
    UN w ((wr.setCell ⟨g10, 0, none⟩ (.bool cr'.s)).setCell ⟨g10, 1, none⟩ (.slice cr'.p cr'.n cr'.c)) g3 g7 g8 g9 g10 W n i M u one base cr' xs d us c' := by
  have g := h.gs
  refine ⟨Bx_oth h.b3 (by omega), ?_, (h.r7.set_other _ _ (by simp; omega)).set_other _ _ (by simp; omega), h.l7, Bx_oth h.b8 (by omega), h.v8.set2 (o := 0) h.s8.off, Bx_oth h.b9 (by omega), h.v9.set2 (o := 0) h.s9.off, Bx_set h.b10, hv.set2 (o := 0) hs.off, hc, h.s3, h.s8, h.s9, hs, fun j hj => ⟨(h.q j hj).1.set2o (o := 0) (h.q j hj).2.off, (h.q j hj).2⟩, by simp; omega, bset2 h.bw (by omega) _ _⟩
  exact ⟨h.a3.len, h.a3.cap, h.a3.bnd, h.a3.sml, fun hx => by
    have ho := h.s3.off (by rw [h.a3.len] at hx; exact hx)
    exact ((h.a3.rd.set_other ⟨g10, 0, none⟩ _ ho).set_other ⟨g10, 1, none⟩ _ ho) hx, h.a3.u⟩
theorem UN.entry (h : UN w wr g3 g7 g8 g9 g10 W n i M u one base cr xs d us c) {e : Ent} (hi : i < n) (hv : NV w.heap.size wr M (d i) e) (hs : Sf g7 g10 e) :
    UN w ((wr.setCell ⟨g7, i * 2, none⟩ (.bool e.s)).setCell ⟨g7, i * 2 + 1, none⟩ (.slice e.p e.n e.c)) g3 g7 g8 g9 g10 W n (i + 1) M u one base cr xs d (us.set i e) c := by
  have g := h.gs
  refine ⟨Bx_any h.b3 (by omega), ?_, h.r7.set i e (by rw [h.l7]; exact hi), by rw [List.length_set]; exact h.l7, Bx_any h.b8 (by omega), h.v8.set2 fun h0 => (h.s8 h0).1, Bx_any h.b9 (by omega), h.v9.set2 fun h0 => (h.s9 h0).1, Bx_any h.b10 (by omega), h.v10.set2 fun h0 => (h.s10 h0).1, h.c01, h.s3, h.s8, h.s9, h.s10, fun j hj => ?_, by simp; omega, bset2o h.bw (by omega) _ _⟩
  · exact ⟨h.a3.len, h.a3.cap, h.a3.bnd, h.a3.sml, fun hx => by
      have ho := (h.s3 (by rw [h.a3.len] at hx; exact hx)).1
      exact ((h.a3.rd.set_other ⟨g7, i * 2, none⟩ _ ho).set_other ⟨g7, i * 2 + 1, none⟩ _ ho) hx, h.a3.u⟩
  · rcases Nat.lt_or_ge j i with hlt | hge
    · rw [ge_set_other _ _ _ _ (by omega)]
      exact ⟨(h.q j hlt).1.set2o fun h0 => ((h.q j hlt).2 h0).1, (h.q j hlt).2⟩
    · obtain rfl : j = i := by omega
      rw [ge_set_same _ _ _ (by rw [h.l7]; exact hi)]
      exact ⟨hv.set2o fun h0 => (hs h0).1, hs⟩
end
theorem ai_cut {w : World} {b o n : Nat} {xs : List Int} (h : AI w (some ⟨b, o, none⟩) n n xs) (f t : Nat) (hf : f ≤ t) (ht : t ≤ n) : AI w (some ⟨b, o + f, none⟩) (t - f) (n - f) ((xs.drop f).take (t - f)) := by
  refine ⟨by have := h.len; simp; omega, by omega, by have := h.bnd; omega, by have := h.sml; omega, fun hx => ?_, u32_take (u32_drop h.u f) _⟩
  have hl := h.len
  obtain ⟨b', o', hb, hc⟩ := h.rd (by simp at hx; omega)
  cases hb
  refine ⟨b, o + f, rfl, fun j hj => ?_⟩
  have hj' : j < t - f := by simp at hj; omega
  rw [gx_take _ _ _ hj', gx_drop, Nat.add_assoc]
  exact hc (f + j) (by omega)
theorem dig_list (xs : List Int) (k W f t : Nat) (hf : f = min k xs.length) (ht : t = min (f + W) xs.length) : (xs.drop f).take (t - f) = (xs.drop k).take W := by
  rcases Nat.lt_or_ge xs.length k with h | h
  · have : f = xs.length := by omega
    rw [this, List.drop_length, List.drop_eq_nil_of_le (Nat.le_of_lt h)]
    simp
  · have : f = k := by omega
    subst this
    rcases Nat.lt_or_ge xs.length (f + W) with h2 | h2
    · rw [List.take_of_length_le (by simp; omega), List.take_of_length_le (by simp; omega)]
    · have : t - f = W := by omega
      rw [this]
structure DG (wr wc : World) (g13 W : Nat) (v : Int) (e : Ent) : Prop where
  b : Bx wc g13 (.bool e.s) (.slice e.p e.n e.c)
  v : EV wc W v e
  bw : Below wr.heap.size wr wc
structure OA (g i : Nat) (u one base cr : Ent) (us : List Ent) : Prop where
  u : 0 < u.n → Off g u.p
  one : 0 < one.n → Off g one.p
  base : 0 < base.n → Off g base.p
  cr : 0 < cr.n → Off g cr.p
  q : ∀ j, j < i → 0 < (ge us j).n → Off g (ge us j).p
theorem ev_off {w : World} {K g : Nat} {z : Int} {e : Ent} (h : EV w K z e) (hg : w.heap.size ≤ g) : 0 < e.n → Off g e.p := fun h0 => by
  obtain ⟨xs, h1, -⟩ := h
  exact h1.rd.off hg (by rw [h1.len]; exact h0)
theorem UN.offs {w wc : World} {g g3 g7 g8 g9 g10 W n i M : Nat} {u one base cr : Ent} {xs : List Int} {d : Nat → Int} {us : List Ent} {c : Int} (h : UN w wc g3 g7 g8 g9 g10 W n i M u one base cr xs d us c) (hg : wc.heap.size ≤ g) (hM : M ≤ 1000) : OA g i u one base cr us :=
  ⟨fun h0 => h.a3.rd.off hg (by rw [h.a3.len]; exact h0), ev_off h.v8 hg, ev_off h.v9 hg, ev_off h.v10 hg, fun j hj => ev_off ((h.q j hj).1.ev hM) hg⟩
theorem UN.box {w wx : World} {g g3 g7 g8 g9 g10 W n i M : Nat} {u one base cr : Ent} {xs : List Int} {d : Nat → Int} {us : List Ent} {c : Int} (h : UN w wx g3 g7 g8 g9 g10 W n i M u one base cr xs d us c) (ho : OA g i u one base cr us) (hne : g ≠ g3 ∧ g ≠ g7 ∧ g ≠ g8 ∧ g ≠ g9 ∧ g ≠ g10 ∧ w.heap.size ≤ g) (x y : Value) :
    UN w ((wx.setCell ⟨g, 0, none⟩ x).setCell ⟨g, 1, none⟩ y) g3 g7 g8 g9 g10 W n i M u one base cr xs d us c := by
  obtain ⟨n3, n7, n8, n9, n10, nw⟩ := hne
  have hgs := h.gs
  refine ⟨Bx_oth h.b3 (Ne.symm n3), ?_, (h.r7.set_other _ _ (by simp; omega)).set_other _ _ (by simp; omega), h.l7, Bx_oth h.b8 (Ne.symm n8), h.v8.set2 (o := 0) ho.one, Bx_oth h.b9 (Ne.symm n9), h.v9.set2 (o := 0) ho.base, Bx_oth h.b10 (Ne.symm n10), h.v10.set2 (o := 0) ho.cr, h.c01, h.s3, h.s8, h.s9, h.s10, fun j hj => ⟨(h.q j hj).1.set2o (o := 0) (ho.q j hj), (h.q j hj).2⟩, by simp; omega, bset2 h.bw nw _ _⟩
  exact ⟨h.a3.len, h.a3.cap, h.a3.bnd, h.a3.sml, fun hx => by
    have ho' := ho.u (by rw [h.a3.len] at hx; exact hx)
    exact ((h.a3.rd.set_other ⟨g, 0, none⟩ _ ho').set_other ⟨g, 1, none⟩ _ ho') hx, h.a3.u⟩
structure CE (w wx : World) (g14 : Nat) (g3 g7 g8 g9 g10 W n i : Nat) (u one base cr : Ent) (xs : List Int) (d : Nat → Int) (us : List Ent) (c v : Int) (ce : Ent) : Prop where
  un : UN w wx g3 g7 g8 g9 g10 W n i W u one base cr xs d us c
  b : Bx wx g14 (.bool ce.s) (.slice ce.p ce.n ce.c)
  v : NV w.heap.size wx W v ce
  s : Sf g7 g10 ce
  o : 0 < ce.n → Off g14 ce.p
  ne : g14 ≠ g3 ∧ g14 ≠ g7 ∧ g14 ≠ g8 ∧ g14 ≠ g9 ∧ g14 ≠ g10 ∧ w.heap.size ≤ g14
  oa : OA g14 i u one base cr us
theorem CE.below {w wx w' : World} {g14 g3 g7 g8 g9 g10 W n i : Nat} {u one base cr ce : Ent} {xs : List Int} {d : Nat → Int} {us : List Ent} {c v : Int} (h : CE w wx g14 g3 g7 g8 g9 g10 W n i u one base cr xs d us c v ce) (hb : Below wx.heap.size wx w') : CE w w' g14 g3 g7 g8 g9 g10 W n i u one base cr xs d us c v ce :=
  ⟨h.un.below hb, h.b.later hb, h.v.below hb, h.s, h.o, h.ne, h.oa⟩
end Go.Proofs.YtejnhpjejcpekaaGreatDoor
