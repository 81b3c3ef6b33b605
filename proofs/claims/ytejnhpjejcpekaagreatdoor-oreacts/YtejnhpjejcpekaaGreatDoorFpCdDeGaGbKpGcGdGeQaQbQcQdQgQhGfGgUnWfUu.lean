/-
  ashlarref3.Compose with [0, a]: p(a x).
-/
import Derived.Test.YtejnhpjejcpekaaGreatDoorCyViVuWxUpUqRmRpDkDlDbRiRjRgRkVqDcUmUoDmDvPmHuVsVtVy
import Derived.Deep.DeepFit
import Derived.Test.YtejnhpjejcpekaaGreatDoorLnWrIbWg
import Derived.Test.YtejnhpjejcpekaaGreatDoorFyUjBsLeUk
import Derived.Test.YtejnhpjejcpekaaGreatDoorRhCqRrRwVaVg
import Derived.Test.YtejnhpjejcpekaaGreatDoorWlBxBbCvNjUbUcUdOwRaWmBeRd
import Derived.Test.YtejnhpjejcpekaaGreatDoorPl
import Derived.Test.YtejnhpjejcpekaaGreatDoorUaWhPnWk
import Derived.Lib.EndianBits
import Derived.Test.YtejnhpjejcpekaaGreatDoorMmNaWaWbWc
import Derived.Deep.DeepCutAuto
import Derived.Test.YtejnhpjejcpekaaGreatDoorWdWeNi
import Derived.Test.YtejnhpjejcpekaaGreatDoorUlDdReRxRf
namespace Go.Proofs.YtejnhpjejcpekaaGreatDoor
open Go.RowKit
set_option linter.unusedVariables false
set_option linter.unusedSimpArgs false
set_option maxHeartbeats 8000000
def dl (a : Int) : List Int → Nat → Int
  | [], _ => 0
  | c :: _, 0 => c
  | _ :: cs, t + 1 => a * dl a cs t
theorem dl_past (a : Int) : ∀ (zs : List Int) (t : Nat), zs.length ≤ t → dl a zs t = 0
  | [], _, _ => rfl
  | c :: cs, 0, h => by simp at h
  | c :: cs, t + 1, h => by
    rw [dl, dl_past a cs t (by simpa using h), Int.mul_zero]
theorem dl_pow (a : Int) : ∀ (zs : List Int) (t : Nat), dl a zs t = gx zs t * a ^ t
  | [], t => by simp [dl, gx]
  | c :: cs, 0 => by rw [dl, gx_cons_zero, Int.pow_zero, Int.mul_one]
  | c :: cs, t + 1 => by
    rw [dl, dl_pow a cs t, gx_cons_succ, Int.pow_succ]
    grind
def dlz (a : Int) (zs : List Int) : List Int := tr ((List.range zs.length).map (dl a zs))
theorem gx_dlz (a : Int) (zs : List Int) (t : Nat) : gx (dlz a zs) t = dl a zs t := by
  rw [dlz, gx_tr]
  rcases Nat.lt_or_ge t zs.length with h | h
  · rw [gx_mem _ _ (by simpa using h)]
    simp
  · rw [gx_past _ zs.length (by simp) t h, dl_past a zs t h]
theorem dlz_nrm (a : Int) (zs : List Int) : tlen (dlz a zs) = (dlz a zs).length := by rw [dlz, tlen_tr, length_tr]
theorem length_dlz (a : Int) (zs : List Int) : (dlz a zs).length ≤ zs.length := by
  rw [dlz, length_tr]
  refine Nat.le_trans (tlen_le _) ?_
  simp
theorem dl_lt {a : Int} {K L : Nat} (ha : (a.natAbs : Int) < pw L) : ∀ (zs : List Int), (∀ t, ((gx zs t).natAbs : Int) < pw K) → ∀ t, ((dl a zs t).natAbs : Int) < pw (K + zs.length * (L + 1))
  | [], _, t => by simpa [dl] using pw_pos _
  | c :: cs, h, 0 => by
    have h2 := h 0
    rw [gx_cons_zero] at h2
    rw [dl]
    exact Int.lt_of_lt_of_le h2 (pw_mono (by omega))
  | c :: cs, h, t + 1 => by
    have ih := dl_lt ha cs (fun j => by have := h (j + 1); rwa [gx_cons_succ] at this) t
    have e : K + (c :: cs).length * (L + 1) = L + (K + cs.length * (L + 1)) + 1 := by
      simp only [List.length_cons]
      rw [Nat.succ_mul]
      omega
    rw [e, dl, Int.natAbs_mul]
    generalize K + cs.length * (L + 1) = B at *
    push_cast
    have h1 : (a.natAbs : Int) * ((dl a cs t).natAbs : Int) ≤ pw L * pw B := Int.mul_le_mul (Int.le_of_lt ha) (Int.le_of_lt ih) (by omega) (Int.le_of_lt (pw_pos _))
    rw [← pw_add] at h1
    have h2 := pw_pos (L + B)
    rw [pw_succ]
    omega
open Go.Shelf
theorem and1_i64 (i : Nat) (hi : i < 9223372036854775808) : bits BinOp.and IntKind.i64 (i : Int) 1 = ((i % 2 : Nat) : Int) := by
  have h2 : (2 : Int) ^ 63 = 9223372036854775808 := by decide
  have h := bits_mask .i64 63 (by decide) (fun n h0 h1 => by rw [h2] at h1; rw [IntKind.wrap_i64]; omega) 1 (by decide) (i : Int) (by omega) (by rw [h2]; omega)
  rw [show ((2 : Int) ^ 1 - 1) = 1 by decide] at h
  rw [h]
  omega
theorem bit_of (e t : Nat) (he : e ≤ 1048576) : bits BinOp.and IntKind.i64 ((e : Int) / 2 ^ t) 1 = ((e / 2 ^ t % 2 : Nat) : Int) := by
  rw [← and1_i64 _ (by have := Nat.div_le_self e (2 ^ t); omega)]
  simp
theorem bit_step (e j : Nat) : e / 2 ^ j = 2 * (e / 2 ^ (j + 1)) + e / 2 ^ j % 2 := by
  rw [Nat.pow_succ, ← Nat.div_div_eq_div_mul]; omega
theorem lasts_NV (B K : Nat) : Lasts (fun w z e => NV B w K z e) := ⟨fun h hg hne => by
    obtain ⟨xs, h1, h2⟩ := h
    exact ⟨xs, ⟨h1.len, rd_grown h1.rd hg (by rw [h1.len]; exact hne), h1.u, h1.nrm, h1.sg, h1.pn, h1.v, h1.fr, h1.fz.kept hg (fun a ha => hne (Nat.pos_of_ne_zero fun h0 => by rw [h1.pn h0] at ha; cases ha) a ha)⟩, h2⟩, fun h hn => by
    obtain ⟨xs, h1, h2⟩ := h
    exact rd_lt h1.rd (by rw [h1.len]; exact hn)⟩
theorem Of_e (a : Int) (w : World) (h0 : -9223372036854775808 ≤ a) (h1 : a ≤ 9223372036854775807) : Calls Tryz.prog 136 #[.int .i64 a] w fun r w' => ∃ u : Ent, r = .returned (.agg #[.bool u.s, .slice u.p u.n u.c]) ∧ NV w.heap.size w' 2 a u ∧ Below w.heap.size w w' := by
  refine (Of_any a w h0 h1).mono ?_
  rintro e w' ⟨s', p', n', zs, rfl, g1, g2, g3⟩
  exact ⟨⟨s', p', n', n'⟩, rfl, ⟨zs, g1, rfl, g2⟩, g3⟩
theorem val_cut (xs : List Int) (i : Nat) : val xs = val (xs.take i) + pw i * val (xs.drop i) := by
  by_cases h : i ≤ xs.length
  · exact val_drop_take xs i h
  · rw [List.take_of_length_le (by omega), List.drop_of_length_le (by omega)]; simp [val]
structure Kp (g h : Nat) (w w' : World) : Prop where
  block : ∀ k, k < w.heap.size → k ≠ g → k ≠ h → w'.heap[k]? = w.heap[k]?
  os : w'.os = w.os
  tape : w'.tape = w.tape
  output : w'.output = w.output
  size : w.heap.size ≤ w'.heap.size
def Good (a b aa ab ba bb : Int) : Prop :=
  -1073741824 < aa ∧ aa < 1073741824 ∧ -1073741824 < ab ∧ ab < 1073741824 ∧ -1073741824 < ba ∧ ba < 1073741824 ∧ -1073741824 < bb ∧ bb < 1073741824 ∧ 0 ≤ ba * a + bb * b ∧ ba * a + bb * b < aa * a + ab * b ∧ aa * a + ab * b ≤ b ∧ Int.gcd (aa * a + ab * b) (ba * a + bb * b) = Int.gcd a b
theorem bitLen_bd {x : Int} (h0 : 0 < x) (h1 : x < 4294967296) : 1 ≤ Lib.bitLen x.toNat ∧ Lib.bitLen x.toNat ≤ 32 ∧ IB (Lib.bitLen x.toNat) x := by
  have hib := bitLenAux_ib 64 x.toNat (by omega)
  have e : ((x.toNat : Nat) : Int) = x := by omega
  rw [e] at hib
  have hb : IB (Lib.bitLen x.toNat) x := hib
  refine ⟨?_, ?_, hb⟩
  · rcases Nat.eq_zero_or_pos (Lib.bitLen x.toNat) with hz | hz
    · have h2 := hb.2.1
      rw [hz] at h2
      have e0 : (2 : Int) ^ 0 = 1 := rfl
      rw [e0] at h2; omega
    · exact hz
  · rcases Nat.lt_or_ge 32 (Lib.bitLen x.toNat) with hz | hz
    · exfalso
      rcases hb.2.2 with h2 | h2
      · omega
      · have h3 := p2_mono (show 32 ≤ Lib.bitLen x.toNat - 1 by omega)
        have e0 : (2 : Int) ^ 32 = 4294967296 := rfl
        omega
    · exact hz
structure Hd (P lu lv u0 u1 u2 nx hd U V : Int) : Prop where
  p : 0 < P
  lu0 : 0 ≤ lu
  lu1 : lu < P
  lv0 : 0 ≤ lv
  lv1 : lv < P
  a0 : 0 ≤ u0 ∧ u0 < 4294967296
  a1 : 0 ≤ u1 ∧ u1 < 4294967296
  a2 : 0 ≤ u2 ∧ u2 < 4294967296
  b0 : 0 ≤ nx ∧ nx < 4294967296
  b1 : 1 ≤ hd ∧ hd < 4294967296
  u : U = lu + P * (u0 + 4294967296 * (u1 + 4294967296 * u2))
  v : V = lv + P * (nx + 4294967296 * hd)
theorem NV.fit {B : Nat} {w : World} {K M : Nat} {z : Int} {e : Ent} (h : NV B w K z e) (hz : (z.natAbs : Int) < pw M) : NV B w M z e := by
  obtain ⟨xs, h1, h2, h3⟩ := h
  exact ⟨xs, h1, h2, h1.le hz⟩
theorem Neg_any (s : Bool) (p : Option Addr) (n nc : Nat) (xs : List Int) (w : World) (hA : AI w p n nc xs) :
    Calls Tryz.prog 234 #[.agg #[.bool s, .slice p n nc]] w fun e w' => ∃ s' p' n' ys, e = .returned (.agg #[.bool s', .slice p' n' n']) ∧ NI w.heap.size w' s' p' n' ys (ival (!s) xs) ∧ n' ≤ n ∧ Below w.heap.size w w' := by
  have ht := tlen_le xs
  have hl := hA.len
  have hs := hA.sml
  go_enter Tryz.func234, Tryz.ntmps234
  go_wp2
  go_region_held3 (fun w' => w'.cell? ⟨w.heap.size, 0, none⟩ = some (.bool s) ∧ w'.cell? ⟨w.heap.size, 1, none⟩ = some (.slice p n nc)) (first | (simp [go_sem, *, World.cell?_alloc_past]; done) | exact keepc2 (by assumption) (by assumption))
    (first
      | (go_at_call 131; refine (trim_any p n nc xs _ hA.len hA.cap hA.bnd ?_).mono ?_; exact ((hA.rd.alloc _).alloc _).drew; rintro e w' ⟨rfl, rfl⟩)
      | (go_at_call 284; refine (clone_any p (tlen xs) nc (tr xs) _ (length_tr xs) (by omega) ?_).mono ?_; exact ((hA.rd.tr.alloc _).alloc _).drew; rintro e w' ⟨rfl, rfl⟩)
      | (go_at_call 196; refine (number_any (!s) (some ⟨w.heap.size + 1 + 1, 0, none⟩) (tlen xs) (tlen xs) (tr xs) _ (length_tr xs) (Nat.le_refl _) (by unfold maxLen; omega) ?_).mono ?_; exact (Row.new2 w _ _ _ _ _).drew.rd_all; rintro e w1 ⟨rfl, hb⟩; obtain ⟨c0, c1, f0, f1⟩ := resbox (r := w.heap.size + 1) (u := .bool false) (v := .slice none 0 0) hb (by simp [go_sem, World.cell?_alloc_past]) (by simp [go_sem, World.cell?_alloc_past]) (by simp [go_sem]) (by simp [go_sem])))
  go_wp2
  refine bodyPost_ret (v := .agg #[.bool (nsg (!s) (tr xs)), .slice (nad (some ⟨w.heap.size + 1 + 1, 0, none⟩) (tr xs)) (tlen (tr xs)) (tlen (tr xs))]) (by simp [results, Tryz.results234, go_sem, c0, c1]) rfl ⟨_, _, _, tr (tr xs), rfl, ?_, ?_, ?_⟩
  · rw [← ival_tr (!s) xs]
    exact ((((ni_number (B := w.heap.size + 1 + 1) (!s) (Row.new2 w _ _ _ _ _).drew.rd_all (u32_tr hA.u) (from_new (Nat.le_refl _)) ((Row.new2 w _ _ _ _ _).drew.fz 0)).below hb).set (by simp) _).set (by simp) _).mono (by omega)
  · rw [tlen_tr]; omega
  · exact ((((((Below.refl _ _).alloc (Nat.le_refl _) _).alloc (by simp) _).alloc (by simp; omega) _).drew.trans (hb.mono (by simp; omega))).setCell (by simp) _).setCell (by simp) _
theorem EV.bd {w : World} {K : Nat} {z : Int} {e : Ent} (h : EV w K z e) : (z.natAbs : Int) < pw K := by
  obtain ⟨xs, h1, h2, h3⟩ := h
  have h4 := h1.lt e.s
  rw [h2] at h4
  have := pw_mono h3
  omega
end Go.Proofs.YtejnhpjejcpekaaGreatDoor
