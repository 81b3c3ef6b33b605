/-
  ashlarref1.Power of small numbers with great exponents; ashlarref4.Natural.
-/
import Derived.Test.YtfnkomoickanfaaGreatDoorD4PcRtVe
import Derived.Test.YtfnkomoickanfaaGreatDoorD0BsReRxRfRhCqRrRwVaVg
import Derived.Test.YtfnkomoickanfaaGreatDoorUgUjLeUkUiWiWjUlDd
import Derived.Deep.DeepFit
import Derived.Test.YtfnkomoickanfaaGreatDoorCvNjUbUcUdOwRaWmBeRd
namespace Go.Proofs.YtfnkomoickanfaaGreatDoor
open Go.RowKit
set_option linter.unusedVariables false
set_option linter.unusedSimpArgs false
set_option maxHeartbeats 8000000
set_option maxRecDepth 100000 in
theorem rPower_gen (s : Bool) (p : Option Addr) (n k : Nat) (ds : List Int) (w : World) (hA : RN w s p n ds) (hn : 4 + (n + 1) * k ≤ 1000) (hn1 : n ≤ 1000) (hk : k ≤ 1000) :
    Calls Tryz.prog 116 #[.agg #[.bool s, .slice p n n], .int .i64 k] w (RAns 1000 (rval s ds ^ k) w) := by
  have hpl := hA.lt
  have HN : Hid (∀ j, j ≤ k → 4 + (n + 1) * j ≤ 1000 ∧ (n + 1) * (j + 1) = (n + 1) * j + n + 1) := fun j hj => ⟨by have := Nat.mul_le_mul_left (n + 1) hj; omega, by rw [Nat.mul_succ]; omega⟩
  clear hn
  have b1 : Bx ((w.alloc (.cells #[.bool s, .slice p n n] 43)).alloc (.cells #[.bool false, .slice none 0 0] 43)) w.heap.size (.bool s) (.slice p n n) := (Bx.new _ _ _ rfl).alloc _
  have b2 : Bx ((w.alloc (.cells #[.bool s, .slice p n n] 43)).alloc (.cells #[.bool false, .slice none 0 0] 43)) (w.heap.size + 1) (.bool false) (.slice none 0 0) := Bx.new _ _ _ (by rw [World.size_alloc])
  have hbw : Below w.heap.size w ((w.alloc (.cells #[.bool s, .slice p n n] 43)).alloc (.cells #[.bool false, .slice none 0 0] 43)) := bel_al (bel_al (Below.refl _ _))
  have hsz : w.heap.size + 2 ≤ ((w.alloc (.cells #[.bool s, .slice p n n] 43)).alloc (.cells #[.bool false, .slice none 0 0] 43)).heap.size := by simp
  go_enter Tryz.func116, Tryz.ntmps116
  go_wp2_with fail
  generalize ((w.alloc (.cells #[.bool s, .slice p n n] 43)).alloc (.cells #[.bool false, .slice none 0 0] 43)) = wc at *
  have hA1 := hA.below hbw
  refine (rOf_any 1 _ (by decide) (by decide)).mono ?_
  rintro e w4 ⟨s4, p4, n4, d4, rfl, hR4, hv4, hn4, hF4, hb4⟩
  have HP : Hid (Pv w (w4.alloc (.cells #[.bool s4, .slice p4 n4 n4] 43)) w4.heap.size s p n ds s4 p4 n4 d4 ∧ rval s4 d4 = rval s ds ^ 0 ∧ n4 ≤ 4) :=
    ⟨⟨(b1.later hb4).alloc _, (b2.later hb4).alloc _, Bx.new _ _ _ rfl, (hA1.below hb4).alloc _, hR4.alloc _, Nat.le_trans hsz hb4.size, hF4.mono hsz, (bnext hbw (Nat.le_refl _) hb4).alloc (Nat.le_trans hbw.size hb4.size) _⟩, by rw [hv4, Int.pow_zero], hn4⟩
  have HO : Hid (0 < n → ∀ x, p = some x → x.block < w.heap.size) := hpl
  clear hv4 hR4 hF4 hb4 b1 b2 hA1 hbw hpl hsz hn4
  go_wp2
  generalize w4.alloc (.cells #[.bool s4, .slice p4 n4 n4] 43) = wd at *
  generalize w4.heap.size = g at *
  go_loopw [6] (fun kv wr => ∃ (j : Nat) (s1 : Bool) (p1 : Option Addr) (n1 : Nat) (d1 : List Int), kv = .int .i64 j ∧ j ≤ k ∧ n1 ≤ 4 + (n + 1) * j ∧ Hid (Pv w wr g s p n ds s1 p1 n1 d1 ∧ rval s1 d1 = rval s ds ^ j)) (fun kv _ => (k - intOf kv).toNat)
  case atStart => exact ⟨0, s4, p4, n4, d4, rfl, Nat.zero_le _, by have := HP.out.2.2; omega, HP.out.1, HP.out.2.1⟩
  case round =>
    obtain ⟨j, s1, p1, n1, d1, rfl, hj, hn1, H⟩ := hrel
    have c0 := H.out.1.bp.c0
    have c1 := H.out.1.bp.c1
    by_cases hjk : j = k
    · subst hjk
      have z0 := H.out.1.br.c0
      have z1 := H.out.1.br.c1
      have f0 := H.out.1.br.f0
      have f1 := H.out.1.br.f1
      go_wp2
      refine bodyPost_ret (v := .agg #[.bool s1, .slice p1 n1 n1]) (by simp [results, Tryz.results116, go_sem, c0, c1, z0, z1]) rfl ⟨_, _, _, d1, rfl, ?_, H.out.2, by have := HN.out j hj; omega, ?_, ?_⟩
      · exact RN_st3 H.out.1.f1 (Nat.lt_succ_self _) (RN_st3 H.out.1.f1 (Nat.lt_succ_self _) H.out.1.r1)
      · exact H.out.1.f1.mono (by omega)
      · exact bset2 H.out.1.bel (by omega) _ _
    · have hlt : j < k := by omega
      have a0 := H.out.1.ba.c0
      have a1 := H.out.1.ba.c1
      have hml := rMul_rn H.out.1.r1 H.out.1.ra (by have := HN.out j hj; omega) (by omega)
      go_wp2_with fail
      refine hml.mono ?_
      rintro e w1 ⟨s2, p2, n2, d2, rfl, hR2, hv2, hn2, hF2, hb2⟩
      have HQ : Hid (Pv w ((w1.setCell ⟨g, 0, none⟩ (.bool s2)).setCell ⟨g, 1, none⟩ (.slice p2 n2 n2)) g s p n ds s2 p2 n2 d2 ∧ rval s2 d2 = rval s ds ^ (j + 1)) :=
        ⟨H.out.1.put hb2 HO.out hR2 hF2, by rw [hv2, H.out.2, Int.pow_succ]⟩
      have hV1 := H.out.1.later hb2
      obtain ⟨x0, x1, x2, x3⟩ := hV1.bp
      clear c0 c1 a0 a1 hml hv2 hV1
      go_wp2
      refine ⟨⟨j + 1, s2, p2, n2, d2, by go_num, by omega, by have := HN.out j hj; omega, HQ.out⟩, by simp [intOf]; omega⟩
theorem rPower_two {w : World} {k : Nat} {e : Ent} (h : RE w 4 2 e) (hk : k ≤ 190) :
    Calls Tryz.prog 116 #[.agg #[.bool e.s, .slice e.p e.n e.c], .int .i64 k] w fun r w' => ∃ u : Ent, r = .returned (.agg #[.bool u.s, .slice u.p u.n u.c]) ∧ RE w' 1000 (2 ^ k) u ∧ Go.Proofs.YtfnkomoickanfaaGreatDoor.From w.heap.size u.p ∧ Below w.heap.size w w' := by
  obtain ⟨⟨ds, h1, h2, h3⟩, h4⟩ := h
  rw [h4]
  have hm := Nat.mul_le_mul (show e.n + 1 ≤ 5 by omega) hk
  refine (rPower_gen e.s e.p e.n k ds w h1 (by omega) (by omega) (by omega)).mono ?_
  rintro r w1 ⟨s, p, n, d, rfl, g1, g2, g3, g4, g5⟩
  rw [h2] at g2
  exact ⟨⟨s, p, n, n⟩, rfl, ⟨⟨d, g1, g2, g3⟩, rfl⟩, g4, g5⟩
def NaP (zs : List Int) (M : Nat) (w : World) (r : Ending) (w' : World) : Prop :=
  ∃ v es, r = .returned v ∧ LR w.heap.size w' M v es (rts zs 0 ((2 : Int) ^ (pb zs + 1) + 1 - 0).toNat) ∧ (es = [] → v = .slice none 0 0) ∧ Below w.heap.size w w'
theorem two_lt {k : Nat} (hk : k ≤ 39) : (2 : Int) ^ k < 1099511627776 := by
  have h1 : (2 : Nat) ^ k ≤ 2 ^ 39 := Nat.pow_le_pow_right (by decide) hk
  have h2 : (2 : Nat) ^ 39 = 549755813888 := by decide
  have h3 : ((2 ^ k : Nat) : Int) = (2 : Int) ^ k := by push_cast; rfl
  omega
set_option maxRecDepth 100000 in
theorem natural_any {w : World} {N K L n nc : Nat} {p : Option Addr} {es : List Ent} {zs : List Int} (h : PR w N p n nc es zs) (nz : ∃ t, gx zs t ≠ 0) (n30 : n ≤ 30) (nN : N ≤ 60) (N4 : 4 ≤ N) (L9 : L ≤ 40) (K2 : 2 ≤ K) (bd : ∀ i, ((gx zs i).natAbs : Int) < pw K) (sz : K + 1 + n * (L + 1) + L ≤ 40) (hB : pb zs ≤ 38) (hL : (2 : Int) ^ (pb zs + 1) + 1 < pw L) :
    Calls Tryz.prog 78 #[.slice p n nc] w (NaP zs (2 * L) w) := by
  have L1 : 1 ≤ L := by
    have h8 : (0 : Int) < (2 : Int) ^ (pb zs + 1) := Int.pow_pos (by decide)
    rcases Nat.eq_zero_or_pos L with h9 | h9
    · subst h9
      have h7 : pw 0 = 1 := rfl
      omega
    · exact h9
  have HX : Hid (PR w N p n nc es zs ∧ (∃ t, gx zs t ≠ 0) ∧ (∀ i, ((gx zs i).natAbs : Int) < pw K) ∧ (2 : Int) ^ (pb zs + 1) + 1 < pw L ∧ (2 : Int) ^ (pb zs + 1) < 1099511627776 ∧ (0 : Int) < (2 : Int) ^ (pb zs + 1) ∧ K + 1 + n * (L + 1) + L ≤ 40) := ⟨h, nz, bd, hL, two_lt (by omega), Int.pow_pos (by decide), sz⟩
  clear h nz bd hL sz
  unfold NaP
  generalize hP : pb zs = B at *
  go_enter Tryz.func78, Tryz.ntmps78
  go_wp2_with fail
  refine (rOf_n 2 _ (by decide) (by decide)).mono ?_
  rintro r w1 ⟨u, rfl, hu, -, hb1⟩
  have hbi := rpBits_any (HX.out.1.below hb1) (by omega) (by omega)
  rw [hP] at hbi
  go_wp2_with fail
  refine hbi.mono ?_
  rintro r w2 ⟨rfl, hb2⟩
  have hpw := rPower_two (k := B + 1) (hu.below hb2) (by omega)
  rw [show ((B + 1 : Nat) : Int) = (B : Int) + 1 by push_cast; rfl] at hpw
  clear hbi
  go_wp2_with fail
  refine hpw.mono ?_
  rintro r w3 ⟨v, rfl, hv, -, hb3⟩
  have hal := bel_al (o := .cells #[.bool v.s, .slice v.p v.n v.c] 43) (Below.refl w3.heap.size w3)
  have hX0 : Bx (w3.alloc (.cells #[.bool v.s, .slice v.p v.n v.c] 43)) w3.heap.size (.bool v.s) (.slice v.p v.n v.c) := Bx.new _ _ _ rfl
  have hv1 := (hv.below hal).tight (K := L) (by have := HX.out.2.2.2.1; have := HX.out.2.2.2.2.2.1; omega)
  have hB3 := bnext' (bnext' (bnext' hb1 hb2) hb3) hal
  have hP3 := HX.out.1.below hB3
  go_upto_region 2 with fail
  clear hu hb1 hb2 hpw hv hb3 hal
  generalize w3.alloc (.cells #[.bool v.s, .slice v.p v.n v.c] 43) = W at *
  generalize w3.heap.size = g at *
  have k0 := hX0.c0
  have k1 := hX0.c1
  clear hX0
  go_region_held3 (fun w' => w'.cell? ⟨g, 0, none⟩ = some (.bool v.s) ∧ w'.cell? ⟨g, 1, none⟩ = some (.slice v.p v.n v.c)) (first | with_reducible exact ⟨k0, k1⟩ | with_reducible exact ⟨a0, a1⟩ | with_reducible exact ⟨b0, b1⟩ | (simp [go_sem, *]; done))
    (first
      | (go_at_call 21; go_fit (rOf_n 0 _ (by decide) (by decide)); rintro r v1 ⟨y, rfl, hy, hFy, hb1⟩; have hB1 := undrew hb1; have a0 := cell_later hB1 k0; have a1 := cell_later hB1 k1)
      | (go_at_call 118; go_fit (within_any N K L n nc p es zs _ (Nat.le_refl _) (show WiI _ N K L n nc p es zs 0 ((2 : Int) ^ (B + 1)) y v from ⟨hP3.below hB1, HX.out.2.1, hy.tight (K := L) (by show (0 : Int) < pw L; exact pw_pos _), hv1.below hB1, Int.le_refl _, by have := HX.out.2.2.2.2.2.1; omega, by have := HX.out.2.2.2.2.2.1; omega, HX.out.2.2.2.1, HX.out.2.2.2.2.1, n30, nN, N4, L1, L9, K2, HX.out.2.2.1, HX.out.2.2.2.2.2.2⟩)); rintro r v2 ⟨rv, es1, rfl, hLR, hnil, -, hB2⟩; have b0 := cell_later hB2 a0; have b1 := cell_later hB2 a1))
  all_goals
    have HF : Hid (LR w.heap.size v2 (2 * L) rv es1 (rts zs 0 ((2 : Int) ^ (B + 1) + 1 - 0).toNat) ∧ (es1 = [] → rv = .slice none 0 0) ∧ Below w.heap.size w v2) := ⟨hLR.low (by have := hB3.size; have := hB1.size; omega), hnil, bnext' (bnext' hB3 hB1) hB2⟩
    clear k0 k1 a0 a1 b0 b1 hLR hnil hB1 hB2 hB3 hP3 hv1 hy hFy hb1
    go_wp2
    go_ret
    exact ⟨rv, es1, rfl, HF.out⟩
structure Hdr where
  p : Option Addr
  n : Nat
  c : Nat
instance : Inhabited Hdr := ⟨⟨none, 0, 0⟩⟩
def Hdr.val (h : Hdr) : Value := .slice h.p h.n h.c
def gh (hs : List Hdr) (j : Nat) : Hdr := hs.getD j default
def HL (w : World) (p : Option Addr) (hs : List Hdr) : Prop := 0 < hs.length → ∃ b o, p = some ⟨b, o, none⟩ ∧ ∀ j, j < hs.length → w.cell? ⟨b, o + j, none⟩ = some (gh hs j).val
theorem HL.below {w w' : World} {p : Option Addr} {hs : List Hdr} (h : HL w p hs) (hb : Below w.heap.size w w') : HL w' p hs := fun hp => by
  obtain ⟨b, o, e, hc⟩ := h hp
  refine ⟨b, o, e, fun j hj => ?_⟩
  have h1 := hc j hj
  rw [hb.cell (by
    rcases Nat.lt_or_ge b w.heap.size with h2 | h2
    · exact h2
    · simp [World.cell?, Array.getElem?_eq_none h2] at h1)]
  exact h1
theorem gh_append_left (a b : List Hdr) (i : Nat) (h : i < a.length) : gh (a ++ b) i = gh a i := by simp [gh, List.getElem?_append, h]
theorem gh_snoc (a : List Hdr) (e : Hdr) : gh (a ++ [e]) a.length = e := by simp [gh]
def gt {α : Type} [Inhabited α] (ts : List α) (j : Nat) : α := ts.getD j default
theorem gt_append_left {α : Type} [Inhabited α] (a b : List α) (i : Nat) (h : i < a.length) : gt (a ++ b) i = gt a i := by simp [gt, List.getElem?_append, h]
theorem gt_snoc {α : Type} [Inhabited α] (a : List α) (e : α) : gt (a ++ [e]) a.length = e := by simp [gt]
structure LastsH {α : Type} (E : World → Nat → Nat → α → Hdr → Prop) : Prop where
  grown : ∀ {w w' : World} {B T : Nat} {z : α} {h : Hdr} {row : Option Nat}, E w B T z h → T ≤ w.heap.size → w.grownBy w' row → (∀ r, row = some r → r < B ∨ T ≤ r) → E w' B T z h
  wide : ∀ {w : World} {B T B' T' : Nat} {z : α} {h : Hdr}, E w B T z h → B' ≤ B → T ≤ T' → E w B' T' z h
theorem LastsH.below {α : Type} {E : World → Nat → Nat → α → Hdr → Prop} (L : LastsH E) {w w' : World} {B T : Nat} {z : α} {h : Hdr} (he : E w B T z h) (hT : T ≤ w.heap.size) (hb : Below w.heap.size w w') : E w' B T z h :=
  L.grown he hT (grownBy_below hb none) nofun
structure HRow {α : Type} [Inhabited α] (D : Nat) (E : World → Nat → Nat → α → Hdr → Prop) (w : World) (B T : Nat) (ts : List α) (h : Hdr) (hs : List Hdr) : Prop where
  el : hs.length = h.n
  tl : ts.length = h.n
  cap : h.n ≤ h.c
  bnd : h.c ≤ maxLen
  pn : h.p = none → h.c = 0
  few : h.n ≤ D
  hl : HL w h.p hs
  at_ : ∀ a, h.p = some a → 0 < h.n → B ≤ a.block ∧ a.block < T
  ev : ∀ j, j < h.n → E w B T (gt ts j) (gh hs j)
def HR {α : Type} [Inhabited α] (D : Nat) (E : World → Nat → Nat → α → Hdr → Prop) (w : World) (B T : Nat) (ts : List α) (h : Hdr) : Prop := ∃ hs, HRow D E w B T ts h hs
theorem HL.same {w w' : World} {p : Option Addr} {hs : List Hdr} (h : HL w p hs) (hk : ∀ a, p = some a → 0 < hs.length → a.block < w.heap.size → w'.heap[a.block]? = w.heap[a.block]?) : HL w' p hs := fun hp => by
  obtain ⟨b, o, e, hc⟩ := h hp
  have hlt : b < w.heap.size := block_lt_of_cell (hc 0 hp)
  exact ⟨b, o, e, fun j hj => (World.cell?_of_block (a := ⟨b, o + j, none⟩) (hk ⟨b, o, none⟩ e hp hlt)).trans (hc j hj)⟩
theorem lasts_HR {α : Type} [Inhabited α] {D : Nat} {E : World → Nat → Nat → α → Hdr → Prop} (L : LastsH E) : LastsH (HR D E) := ⟨fun {w w' B T z h row} he hT hg hr => by
    obtain ⟨hs, k⟩ := he
    refine ⟨hs, k.el, k.tl, k.cap, k.bnd, k.pn, k.few, k.hl.same fun a ha hn hlt => hg.block a.block hlt fun e => ?_, k.at_, fun j hj => L.grown (k.ev j hj) hT hg hr⟩
    have h1 := k.at_ a ha (by rw [← k.el]; exact hn)
    have h2 := hr a.block e.symm
    omega, fun {w B T B' T' z h} he hB hT => by
    obtain ⟨hs, k⟩ := he
    exact ⟨hs, k.el, k.tl, k.cap, k.bnd, k.pn, k.few, k.hl, fun a ha hn => by have := k.at_ a ha hn; omega, fun j hj => L.wide (k.ev j hj) hB hT⟩⟩
structure LH {α : Type} [Inhabited α] (base : Nat) (t : TypeId) (E : World → Nat → Nat → α → Hdr → Prop) (w : World) (v : Value) (hs : List Hdr) (ts : List α) : Prop where
  own : w.ownsRow base t 1 v hs.length (hs.map Hdr.val)
  tl : ts.length = hs.length
  ev : ∀ j, j < hs.length → ∃ B T, base ≤ B ∧ T ≤ w.heap.size ∧ E w B T (gt ts j) (gh hs j) ∧ ∀ r, v.ownBlock = some r → r < B ∨ T ≤ r
section
variable {α : Type} [Inhabited α] {base : Nat} {t : TypeId} {E : World → Nat → Nat → α → Hdr → Prop}
theorem LH.nil (base : Nat) (t : TypeId) (E : World → Nat → Nat → α → Hdr → Prop) (w : World) : LH base t E w (.slice none 0 0) [] [] := ⟨World.ownsRow_nil _ _ _ _, rfl, fun j hj => by simp at hj⟩
theorem LH.below (L : LastsH E) {w w' : World} {v : Value} {hs : List Hdr} {ts : List α} (h : LH base t E w v hs ts) (hb : Below w.heap.size w w') : LH base t E w' v hs ts :=
  ⟨own_below h.own hb, h.tl, fun j hj => by
    obtain ⟨B, T, h1, h2, h3, h4⟩ := h.ev j hj
    exact ⟨B, T, h1, Nat.le_trans h2 hb.size, L.below h3 h2 hb, h4⟩⟩
theorem LH.app (L : LastsH E) {wr w1 w3 : World} {v : Value} {hs : List Hdr} {ts : List α} {z : α} {h : Hdr} {o : Obj} {g cap k B T : Nat} (hk : hs.length = k) (H : LH base t E wr v hs ts) (hb1 : Below wr.heap.size wr w1) (hE : E w1 B T z h) (hB : wr.heap.size ≤ B) (hT : T ≤ w1.heap.size) (hbase : base ≤ wr.heap.size)
    (hown : w3.ownsRow base t 1 (.slice (some ⟨g, 0, none⟩) (k + 1) cap) (k + 1) (hs.map Hdr.val ++ [h.val])) (hgrow : (w1.alloc o).grownBy w3 v.ownBlock) (hat : v.ownBlock = some g ∨ g = (w1.alloc o).heap.size) :
    LH base t E w3 (.slice (some ⟨g, 0, none⟩) (k + 1) cap) (hs ++ [h]) (ts ++ [z]) := by
  subst hk
  have hal : Below w1.heap.size w1 (w1.alloc o) := (Below.refl _ _).alloc (Nat.le_refl _) o
  have hs1 := hb1.size
  have hs2 := hal.size
  have hs3 := hgrow.size
  have ob : ∀ r, (Value.slice (some ⟨g, 0, none⟩) (hs.length + 1) cap).ownBlock = some r → r = g := fun r hr => (Option.some.inj hr).symm
  refine ⟨by rw [List.length_append, List.map_append]; exact hown, by simp [H.tl], fun j hj => ?_⟩
  rcases Nat.lt_or_ge j hs.length with hlt | hge
  · rw [gh_append_left _ _ _ hlt, gt_append_left _ _ _ (by rw [H.tl]; exact hlt)]
    obtain ⟨B', T', h1, h2, h3, h4⟩ := H.ev j hlt
    have h5 := L.below (L.below h3 h2 hb1) (Nat.le_trans h2 hs1) hal
    refine ⟨B', T', h1, by omega, L.grown h5 (by omega) hgrow h4, fun r hr => ?_⟩
    obtain rfl := ob r hr
    rcases hat with h6 | h6
    · exact h4 _ h6
    · right; omega
  · have : j = hs.length := by simp at hj; omega
    subst this
    have e1 : gt (ts ++ [z]) hs.length = z := by rw [← H.tl]; exact gt_snoc ts z
    rw [gh_snoc, e1]
    have old : ∀ r, v.ownBlock = some r → r < B ∨ T ≤ r := fun r hr => by
      have := (H.own.lt r hr).2
      left; omega
    refine ⟨B, T, by omega, by omega, L.grown (L.below hE hT hal) (by omega) hgrow old, fun r hr => ?_⟩
    obtain rfl := ob r hr
    rcases hat with h6 | h6
    · exact old _ h6
    · right; omega
theorem owns1_form {w : World} {B n : Nat} {t : TypeId} {v : Value} {xs : List Value} (h : w.ownsRow B t 1 v n xs) : ∃ q cap, v = .slice q n cap ∧ n ≤ cap ∧ cap ≤ maxLen ∧ (q = none → cap = 0) ∧ ∀ a, q = some a → B ≤ a.block ∧ a.block < w.heap.size := by
  rcases h.2 with ⟨h1, h2⟩ | ⟨g, cap, cur, h1, h2, h3, h4, h5, _⟩
  · exact ⟨none, 0, by rw [h1, h2], by omega, Nat.zero_le _, fun _ => rfl, nofun⟩
  · exact ⟨_, cap, h1, h4, h5, nofun, fun a ha => by
      have h6 := h.lt g (by rw [h1]; rfl)
      cases ha
      exact ⟨h2, h6.2⟩⟩
theorem owns1_hl {w : World} {B cap : Nat} {t : TypeId} {q : Option Addr} {hs : List Hdr} (h : w.ownsRow B t 1 (.slice q hs.length cap) hs.length (hs.map Hdr.val)) : HL w q hs := fun hx => by
  obtain ⟨g, cap', h1, h2, _⟩ := h.form hx
  cases h1
  refine ⟨g, 0, rfl, fun j hj => ?_⟩
  have e0 := h.cells (g := g) rfl j (gh hs j).val (by simp [gh, hj])
  rw [Addr.add_mid] at e0
  exact e0
theorem LH.row (L : LastsH E) {w : World} {v : Value} {hs : List Hdr} {ts : List α} {D : Nat} (h : LH base t E w v hs ts) (hD : hs.length ≤ D) : ∃ q cap, v = .slice q hs.length cap ∧ HRow D E w base w.heap.size ts ⟨q, hs.length, cap⟩ hs := by
  obtain ⟨q, cap, h1, h2, h3, h4, h5⟩ := owns1_form h.own
  have ho := h.own
  rw [h1] at ho
  exact ⟨q, cap, h1, rfl, h.tl, h2, h3, h4, hD, owns1_hl ho, fun a ha _ => h5 a ha, fun j hj => by
    obtain ⟨B, T, k1, k2, k3, _⟩ := h.ev j hj
    exact L.wide k3 k1 k2⟩
end
def EZ (K D : Nat) (w : World) (B T : Nat) (zs : List Int) (h : Hdr) : Prop :=
  ∃ fs, PA w K h.p h.n h.c fs zs ∧ h.n ≤ D ∧ (∀ a, h.p = some a → 0 < h.n → B ≤ a.block ∧ a.block < T) ∧ ∀ j, j < h.n → 0 < (ge fs j).n → ∀ a, (ge fs j).p = some a → B ≤ a.block ∧ a.block < T
theorem lasts_EZ (K D : Nat) : LastsH (EZ K D) := ⟨fun {w w' B T z h row} he hT hg hr => by
    obtain ⟨fs, k, h1, h2, h3⟩ := he
    refine ⟨fs, ⟨k.el, k.zl, k.cap, k.bnd, k.pn, fun hx => (k.pl.same fun a ha hlt => hg.block a.block hlt fun e => ?_) hx, fun j hj => (lasts_EV K).grown (k.ev j hj) hg fun hn a ha e => ?_⟩, h1, h2, h3⟩
    · have h4 := h2 a ha (by rw [← k.el]; exact hx)
      have h5 := hr a.block e.symm
      omega
    · have h4 := h3 j hj hn a ha
      have h5 := hr a.block e.symm
      omega, fun {w B T B' T' z h} he hB hT => by
    obtain ⟨fs, k, h1, h2, h3⟩ := he
    exact ⟨fs, k, h1, fun a ha hn => by have := h2 a ha hn; omega, fun j hj hn a ha => by have := h3 j hj hn a ha; omega⟩⟩
def olen (zss : List (List Int)) : Nat := tlen (zss.map fun z => (tlen z : Int))
theorem olen_le (zss : List (List Int)) : olen zss ≤ zss.length := by
  have := tlen_le (zss.map fun z => (tlen z : Int))
  rwa [List.length_map] at this
theorem gx_tlens (zss : List (List Int)) (j : Nat) : gx (zss.map fun z => (tlen z : Int)) j = (tlen (gt zss j) : Int) := by
  rcases Nat.lt_or_ge j zss.length with h | h
  · simp [gx, gt, h]
  · have h1 : gt zss j = [] := by simp [gt, h]; rfl
    rw [h1]
    simp [gx, h]
    rfl
theorem olen_zero (zss : List (List Int)) (j : Nat) (h : olen zss ≤ j) : tlen (gt zss j) = 0 := by
  have := tlen_zero _ _ h
  rw [gx_tlens] at this
  omega
theorem olen_eq (zss : List (List Int)) (k : Nat) (h1 : ∀ j, k ≤ j → tlen (gt zss j) = 0) (h2 : k = 0 ∨ ¬ tlen (gt zss (k - 1)) = 0) : olen zss = k := by
  refine tlen_eq _ k (fun j hj => by rw [gx_tlens, h1 j hj]; rfl) ?_
  rcases h2 with h | h
  · exact .inl h
  · refine .inr ?_
    rw [gx_tlens]
    omega
theorem gt_over0 (zss : List (List Int)) (j : Nat) (h : zss.length ≤ j) : gt zss j = [] := by simp [gt, h]; rfl
theorem gt_take {α : Type} [Inhabited α] (l : List α) (n j : Nat) (h : j < n) : gt (l.take n) j = gt l j := by simp [gt, List.getElem?_take, h]
theorem gh_take (l : List Hdr) (n j : Nat) (h : j < n) : gh (l.take n) j = gh l j := by simp [gh, List.getElem?_take, h]
theorem HRow.cut {α : Type} [Inhabited α] {D : Nat} {E : World → Nat → Nat → α → Hdr → Prop} {w : World} {B T : Nat} {ts : List α} {h : Hdr} {hs : List Hdr} (k : HRow D E w B T ts h hs) (n : Nat) (hn : n ≤ h.n) : HRow D E w B T (ts.take n) ⟨h.p, n, n⟩ (hs.take n) := by
  refine ⟨by have := k.el; simp; omega, by have := k.tl; simp; omega, Nat.le_refl _, Nat.le_trans hn (Nat.le_trans k.cap k.bnd), fun e => ?_, Nat.le_trans hn k.few, fun hp => ?_, fun a ha h0 => k.at_ a ha (Nat.lt_of_lt_of_le h0 hn), fun j hj => ?_⟩
  · have h1 := k.pn e
    have h2 := k.cap
    show n = 0
    omega
  · have hl : 0 < n ∧ 0 < hs.length := by simp at hp; omega
    obtain ⟨b, o, hb, hc⟩ := k.hl hl.2
    refine ⟨b, o, hb, fun j hj => ?_⟩
    have hj' : j < n ∧ j < hs.length := by simp at hj; omega
    rw [gh_take _ _ _ hj'.1]
    exact hc j hj'.2
  · rw [gh_take _ _ _ hj, gt_take _ _ _ hj]
    exact k.ev j (Nat.lt_of_lt_of_le hj hn)
theorem clipO_any (q : Option Addr) (m mc : Nat) (w : World) (h : m ≤ mc) (hc : mc ≤ maxLen) (hq : q = none → mc = 0) :
    Calls Tryz.prog 124 #[.slice q m mc] w fun e w' => e = .returned (.slice q m m) ∧ w = w' := by
  unfold maxLen at hc
  go_enter Tryz.func124, Tryz.ntmps124
  go_wp2
  go_ret
  exact ⟨rfl, rfl⟩
set_option maxRecDepth 100000 in
theorem otrim_any {w : World} {B T K E D : Nat} {zss : List (List Int)} {h : Hdr} (H : HR D (EZ K E) w B T zss h) (hT : T ≤ w.heap.size) (hD : D ≤ 1000000) (hE : E ≤ 1000000) :
    Calls Tryz.prog 88 #[.slice h.p h.n h.c] w fun e w' => e = .returned (.slice h.p (olen zss) (olen zss)) ∧ Below w.heap.size w w' := by
  obtain ⟨hs, k⟩ := H
  have HX : Hid (HRow D (EZ K E) w B T zss h hs ∧ T ≤ w.heap.size) := ⟨k, hT⟩
  have hn : h.n ≤ D := k.few
  have hcap : h.n ≤ h.c := k.cap
  have hbnd : h.c ≤ maxLen := k.bnd
  have hpn : h.p = none → h.c = 0 := k.pn
  have HL : Hid (zss.length = h.n) := k.tl
  obtain ⟨p, n, nc⟩ := h
  simp only at hn hcap hbnd hpn HL ⊢
  have hbnd' := hbnd
  unfold maxLen at hbnd'
  clear k hT
  go_enter Tryz.func88, Tryz.ntmps88
  go_wp2
  go_loopw [3] (fun nv wr => ∃ k : Nat, k ≤ n ∧ nv = .int .i64 k ∧ Hid ((∀ j, k ≤ j → tlen (gt zss j) = 0) ∧ Below w.heap.size w wr)) (fun nv _ => (intOf nv).toNat)
  case atStart => exact ⟨n, Nat.le_refl _, by go_num, fun j hj => by rw [gt_over0 _ _ (by have := HL.out; omega)]; rfl, Below.refl _ _⟩
  case round =>
    obtain ⟨k, hk, rfl, H⟩ := hrel
    rcases Nat.eq_zero_or_pos k with h0 | h0
    · subst h0
      have HT : Hid (olen zss = 0) := olen_eq zss 0 (fun j _ => H.out.1 j (Nat.zero_le _)) (.inl rfl)
      have hcl := fun w => clipO_any p 0 nc w (Nat.zero_le _) hbnd hpn
      go_wp2_with fail
      go_fit (hcl wr)
      rintro e w1 ⟨rfl, rfl⟩
      clear hcl
      go_wp2
      go_ret
      exact ⟨by rw [HT.out]; rfl, H.out.2⟩
    · obtain ⟨i, rfl⟩ : ∃ i, k = i + 1 := ⟨k - 1, by omega⟩
      obtain ⟨H1, H2⟩ := H.out
      have HH : Hid ((∀ j, i + 1 ≤ j → tlen (gt zss j) = 0) ∧ Below w.heap.size w wr) := ⟨H1, H2⟩
      obtain ⟨b, o, hp, hc⟩ := HX.out.1.hl (by rw [HX.out.1.el]; show 0 < n; omega)
      simp only at hp
      subst hp
      have c0 := hc i (by rw [HX.out.1.el]; show i < n; omega)
      have c1 : wr.cell? ⟨b, o + i, none⟩ = some (gh hs i).val := by rw [H2.cell (block_lt_of_cell c0)]; exact c0
      have hE2 := (lasts_EZ K E).below (HX.out.1.ev i (by show i < n; omega)) HX.out.2 H2
      generalize gh hs i = hd at c1 hE2
      obtain ⟨p2, n2, nc2⟩ := hd
      simp only [Hdr.val] at c1
      obtain ⟨es2, hP2, hd3, -, -⟩ := hE2
      simp only at hP2 hd3
      have v1 : wrap64 ((i : Int) + 1 - 1) = (i : Int) := by unfold wrap64; omega
      have hlt : (i : Int) < (n : Int) := by omega
      clear H H1 H2 hc c0
      go_wp2_with fail
      go_fit (uDeg_any K p2 n2 nc2 es2 (gt zss i) wr hP2 (by omega))
      rintro e w1 ⟨rfl, hb1⟩
      have hB := bnext' HH.out.2 hb1
      have HBB : Hid (Below w.heap.size w w1) := hB
      clear c1 hP2 hb1 hB
      have hcs : Hid (tlen (gt zss i) = 0 ∨ ¬ tlen (gt zss i) = 0) := Classical.em _
      rcases hcs.out with hz | hz
      · have HZ : Hid (tlen (gt zss i) = 0) := hz
        have d1 : (tlen (gt zss i) : Int) - 1 < 0 := by omega
        clear hz hcs
        generalize (tlen (gt zss i) : Int) - 1 = t at *
        go_wp2
        go_roundw
        case rel => exact ⟨i, by omega, by go_num, fun j hj => by
          rcases Nat.lt_or_ge i j with h | h
          · exact HH.out.1 j h
          · have : j = i := by omega
            subst this; exact HZ.out, HBB.out⟩
        case measure => simp [intOf]
      · have HT : Hid (olen zss = i + 1) := olen_eq zss (i + 1) HH.out.1 (.inr hz)
        have d1 : ¬ (tlen (gt zss i) : Int) - 1 < 0 := by omega
        clear hz hcs
        generalize (tlen (gt zss i) : Int) - 1 = t at *
        have hcl := fun w => clipO_any (some ⟨b, o, none⟩) (i + 1) nc w (by omega) hbnd hpn
        go_wp2_with fail
        go_fit (hcl w1)
        rintro e w2 ⟨rfl, rfl⟩
        clear hcl
        go_wp2
        go_ret
        exact ⟨by rw [HT.out]; rfl, HBB.out⟩
theorem PN.put {B : Nat} {w : World} {K : Nat} {p : Option Addr} {n : Nat} {es : List Ent} {zs : List Int} (h : PN B w K p n es zs) {b o : Nat} (hb : b < B) (v : Value) : PN B (w.setCell ⟨b, o, none⟩ v) K p n es zs :=
  ⟨h.el, h.zl, h.nrm, h.pl.set_other _ _ (off_from h.fr hb), h.fr, fun j hj => by
    obtain ⟨xs, c1, c2, c3⟩ := h.ev j hj
    exact ⟨xs, c1.set (a := ⟨b, o, none⟩) hb v, c2, c3⟩⟩
theorem PN.tr {B : Nat} {w : World} {K : Nat} {p : Option Addr} {n : Nat} {es : List Ent} {zs : List Int} (h : PN B w K p n es zs) : Go.Proofs.YtfnkomoickanfaaGreatDoor.tr zs = zs := tr_self (by rw [h.nrm, h.zl])
def HB (w : World) (g : Nat) (hs : List Hdr) : Prop := w.heap[g]? = some (.cells (hs.map Hdr.val).toArray 51 (0, 0))
section
variable {w w' : World} {g : Nat} {hs : List Hdr}
theorem HB.lt (h : HB w g hs) : g < w.heap.size := (Array.getElem?_eq_some_iff.1 h).1
theorem HB.cell (h : HB w g hs) (j : Nat) (hj : j < hs.length) : w.cell? ⟨g, j, none⟩ = some (gh hs j).val := by
  have h' : w.heap[g]? = some (.cells (hs.map Hdr.val).toArray 51 (0, 0)) := h
  simp [World.cell?, h', gh, hj]
theorem HB.frozen (h : HB w g hs) (j : Nat) : w.frozen? ⟨g, j, none⟩ = false := frozen_of_row w g j _ _ h
theorem HB.set (h : HB w g hs) (j : Nat) (v : Hdr) : HB (w.setCell ⟨g, j, none⟩ v.val) g (hs.set j v) := by
  unfold HB
  rw [heap_setCell_same w g j _ _ _ h]
  simp [List.map_set]
theorem HB.below {B : Nat} (h : HB w g hs) (hb : Below B w w') (hg : g < B) : HB w' g hs := (hb.block g hg).trans h
theorem gh_set (hs : List Hdr) (i j : Nat) (v : Hdr) (hi : i < hs.length) : gh (hs.set i v) j = if j = i then v else gh hs j := by
  unfold gh
  simp only [List.getD_eq_getElem?_getD, List.getElem?_set]
  by_cases e : i = j
  · subst e; simp [hi]
  · have e' : ¬ j = i := fun h => e h.symm
    simp [e, e']
end
def hzs (n : Nat) : List Hdr := List.replicate n ⟨none, 0, 0⟩
theorem made_hz (n : Nat) : madeCells #[.slice none 0 0] n = ((hzs n).map Hdr.val).toArray := by
  apply Array.ext
  · simp [size_madeCells, hzs]
  · intro i h1 h2
    simp [madeCells, hzs, Hdr.val, Nat.mod_one]
end Go.Proofs.YtfnkomoickanfaaGreatDoor
