/-
  Variables of two cells.
-/
import Derived.Test.YtejnhpjejcpekaaGreatDoorWhPnWkWl
import Derived.Deep.DeepCutAuto
import Derived.Test.YtejnhpjejcpekaaGreatDoorNiUa
import Derived.Test.YtejnhpjejcpekaaGreatDoorMmWa
namespace Go.Proofs.YtejnhpjejcpekaaGreatDoor
open Go.RowKit
set_option linter.unusedVariables false
set_option linter.unusedSimpArgs false
set_option maxHeartbeats 8000000
structure Box4 (w W : World) (a0 a1 b0 b1 : Value) : Prop where
  size : w.heap.size + 1 + 1 + 1 + 1 ≤ W.heap.size
  below : Below w.heap.size w W
  ca0 : W.cell? ⟨w.heap.size, 0, none⟩ = some a0
  ca1 : W.cell? ⟨w.heap.size, 1, none⟩ = some a1
  cb0 : W.cell? ⟨w.heap.size + 1, 0, none⟩ = some b0
  cb1 : W.cell? ⟨w.heap.size + 1, 1, none⟩ = some b1
  cr0 : W.cell? ⟨w.heap.size + 1 + 1, 0, none⟩ = some (.bool false)
  cr1 : W.cell? ⟨w.heap.size + 1 + 1, 1, none⟩ = some (.slice none 0 0)
  cs0 : W.cell? ⟨w.heap.size + 1 + 1 + 1, 0, none⟩ = some (.bool false)
  cs1 : W.cell? ⟨w.heap.size + 1 + 1 + 1, 1, none⟩ = some (.slice none 0 0)
  fr0 : W.frozen? ⟨w.heap.size + 1 + 1, 0, none⟩ = false
  fr1 : W.frozen? ⟨w.heap.size + 1 + 1, 1, none⟩ = false
  fs0 : W.frozen? ⟨w.heap.size + 1 + 1 + 1, 0, none⟩ = false
  fs1 : W.frozen? ⟨w.heap.size + 1 + 1 + 1, 1, none⟩ = false
structure Bx (w : World) (r : Nat) (a0 a1 : Value) : Prop where
  c0 : w.cell? ⟨r, 0, none⟩ = some a0
  c1 : w.cell? ⟨r, 1, none⟩ = some a1
  f0 : w.frozen? ⟨r, 0, none⟩ = false
  f1 : w.frozen? ⟨r, 1, none⟩ = false
theorem Bx.later {w w' : World} {r : Nat} {a0 a1 : Value} (h : Bx w r a0 a1) (hb : Below w.heap.size w w') : Bx w' r a0 a1 := by
  obtain ⟨a, b, c, d⟩ := resbox hb h.c0 h.c1 h.f0 h.f1
  exact ⟨a, b, c, d⟩
theorem Bx.alloc {w : World} {r : Nat} {a0 a1 : Value} (h : Bx w r a0 a1) (o : Obj) : Bx (w.alloc o) r a0 a1 := h.later ((Below.refl _ _).alloc (Nat.le_refl _) o)
theorem Bx.drewN {w : World} {r : Nat} {a0 a1 : Value} (h : Bx w r a0 a1) (k : Nat) : Bx (w.drewN k) r a0 a1 := ⟨h.c0, h.c1, h.f0, h.f1⟩
theorem Bx.new {w : World} {r : Nat} (a0 a1 : Value) (t : Nat) (hr : r = w.heap.size) : Bx (w.alloc (.cells #[a0, a1] t)) r a0 a1 := by
  subst hr
  refine ⟨?_, ?_, ?_, ?_⟩ <;> simp [go_sem]
theorem boxes4 (w : World) (a0 a1 b0 b1 : Value) (t k : Nat) : Box4 w (((((w.alloc (.cells #[a0, a1] t)).alloc (.cells #[b0, b1] t)).alloc (.cells #[.bool false, .slice none 0 0] t)).alloc (.cells #[.bool false, .slice none 0 0] t)).drewN k) a0 a1 b0 b1 := by
  have h1 := ((((Bx.new (w := w) a0 a1 t rfl).alloc (.cells #[b0, b1] t)).alloc (.cells #[.bool false, .slice none 0 0] t)).alloc (.cells #[.bool false, .slice none 0 0] t)).drewN k
  have h2 := (((Bx.new (w := w.alloc (.cells #[a0, a1] t)) b0 b1 t (r := w.heap.size + 1) (World.size_alloc ..).symm).alloc (.cells #[.bool false, .slice none 0 0] t)).alloc (.cells #[.bool false, .slice none 0 0] t)).drewN k
  have h3 := ((Bx.new (w := (w.alloc (.cells #[a0, a1] t)).alloc (.cells #[b0, b1] t)) (.bool false) (.slice none 0 0) t (r := w.heap.size + 1 + 1) (by rw [World.size_alloc, World.size_alloc])).alloc (.cells #[.bool false, .slice none 0 0] t)).drewN k
  have h4 := (Bx.new (w := ((w.alloc (.cells #[a0, a1] t)).alloc (.cells #[b0, b1] t)).alloc (.cells #[.bool false, .slice none 0 0] t)) (.bool false) (.slice none 0 0) t (r := w.heap.size + 1 + 1 + 1) (by rw [World.size_alloc, World.size_alloc, World.size_alloc])).drewN k
  exact ⟨by simp, below_drewN (((((Below.refl _ _).alloc (Nat.le_refl _) _).alloc (by simp) _).alloc (by simp; omega) _).alloc (by simp; omega) _) k, h1.c0, h1.c1, h2.c0, h2.c1, h3.c0, h3.c1, h4.c0, h4.c1, h3.f0, h3.f1, h4.f0, h4.f1⟩
theorem Box4.later {w W W' : World} {a0 a1 b0 b1 : Value} (h : Box4 w W a0 a1 b0 b1) (hb : Below W.heap.size W W') : Box4 w W' a0 a1 b0 b1 := by
  obtain ⟨c0, c1, f0, f1⟩ := resbox hb h.cr0 h.cr1 h.fr0 h.fr1
  obtain ⟨d0, d1, g0, g1⟩ := resbox hb h.cs0 h.cs1 h.fs0 h.fs1
  exact ⟨Nat.le_trans h.size hb.size, h.below.trans (hb.mono (by have := h.size; omega)), cell_later hb h.ca0, cell_later hb h.ca1, cell_later hb h.cb0, cell_later hb h.cb1, c0, c1, d0, d1, f0, f1, g0, g1⟩
theorem bcell {W w1 : World} (hb : Below W.heap.size W w1) : (∀ b o, b < W.heap.size → w1.cell? ⟨b, o, none⟩ = W.cell? ⟨b, o, none⟩) ∧ (∀ b o, b < W.heap.size → w1.frozen? ⟨b, o, none⟩ = W.frozen? ⟨b, o, none⟩) :=
  ⟨fun b o h => hb.cell (p := ⟨b, o, none⟩) h, fun b o h => hb.frozen (p := ⟨b, o, none⟩) h⟩
theorem brules {X w3 : World} (hb : Below X.heap.size X w3) : (∀ b o, b < X.heap.size → w3.cell? ⟨b, o, none⟩ = X.cell? ⟨b, o, none⟩) ∧ (∀ b o, b < X.heap.size → w3.frozen? ⟨b, o, none⟩ = X.frozen? ⟨b, o, none⟩) ∧
    (∀ r, r < X.heap.size → r < w3.heap.size) ∧ (∀ r, r < X.heap.size → r ≤ w3.heap.size) ∧ (∀ r, r < X.heap.size → r ≤ w3.heap.size + 1) :=
  ⟨(bcell hb).1, (bcell hb).2, fun r h => Nat.lt_of_lt_of_le h hb.size, fun r h => Nat.le_of_lt (Nat.lt_of_lt_of_le h hb.size), fun r h => by have := hb.size; omega⟩
theorem bne {X w3 : World} (hb : Below X.heap.size X w3) : (∀ r, r < X.heap.size → r ≠ w3.heap.size) ∧ (∀ r, r < X.heap.size → w3.heap.size ≠ r) ∧ (∀ r, r < X.heap.size → r ≠ w3.heap.size + 1) ∧ (∀ r, r < X.heap.size → w3.heap.size + 1 ≠ r) := by
  have := hb.size
  exact ⟨fun r h => by omega, fun r h => by omega, fun r h => by omega, fun r h => by omega⟩
theorem bel_al {w x : World} {o : Obj} (h : Below w.heap.size w x) : Below w.heap.size w (x.alloc o) := h.alloc h.size o
theorem comp {X2 w2 X3 w3 : World} (h2 : Below X2.heap.size X2 w2) (hX : Below w2.heap.size w2 X3) (h3 : Below X3.heap.size X3 w3) : Below X2.heap.size X2 w3 :=
  (h2.trans (hX.mono h2.size)).trans (h3.mono (Nat.le_trans h2.size hX.size))
theorem NI_st2 {B U : Nat} {w : World} {s : Bool} {p : Option Addr} {n : Nat} {xs : List Int} {z : Int} {a : Addr} {v : Value} (hU : ∀ x, p = some x → x.block < U) (ha : U ≤ a.block) (h : NI B w s p n xs z) : NI B (w.setCell a v) s p n xs z :=
  ⟨h.len, h.rd.set_other a v (fun b hb e => by have := hU b hb; omega), h.u, h.nrm, h.sg, h.pn, h.v, h.fr, h.fz.set a v⟩
theorem NI_st3 {B F : Nat} {w : World} {s : Bool} {p : Option Addr} {n : Nat} {xs : List Int} {z : Int} {a : Addr} {v : Value} (hF : From F p) (ha : a.block < F) (h : NI B w s p n xs z) : NI B (w.setCell a v) s p n xs z :=
  ⟨h.len, h.rd.set_other a v (fun b hb e => by have := hF b hb; omega), h.u, h.nrm, h.sg, h.pn, h.v, h.fr, h.fz.set a v⟩
theorem Bx_al {w : World} {r : Nat} {u v : Value} {o : Obj} (h : Bx w r u v) : Bx (w.alloc o) r u v := h.alloc o
theorem Bx_new {w : World} {r t : Nat} {u v : Value} (h : r = w.heap.size) : Bx (w.alloc (.cells #[u, v] t)) r u v := Bx.new u v t h
theorem Bx_set {w : World} {g : Nat} {u v x y : Value} (h : Bx w g u v) : Bx ((w.setCell ⟨g, 0, none⟩ x).setCell ⟨g, 1, none⟩ y) g x y := by
  have h1 : (w.setCell ⟨g, 0, none⟩ x).cell? ⟨g, 1, none⟩ = some v := by rw [World.cell?_setCell_other _ _ _ _ (by simp)]; exact h.c1
  refine ⟨?_, World.cell?_setCell_same _ _ _ h1, ?_, ?_⟩
  · rw [World.cell?_setCell_other _ _ _ _ (by simp)]; exact World.cell?_setCell_same _ _ _ h.c0
  · rw [World.frozen?_setCell, World.frozen?_setCell]; exact h.f0
  · rw [World.frozen?_setCell, World.frozen?_setCell]; exact h.f1
theorem Bx_oth {w : World} {r g : Nat} {u v x y : Value} (h : Bx w r u v) (hne : r ≠ g) : Bx ((w.setCell ⟨g, 0, none⟩ x).setCell ⟨g, 1, none⟩ y) r u v := by
  have e : ((w.setCell ⟨g, 0, none⟩ x).setCell ⟨g, 1, none⟩ y).heap[r]? = w.heap[r]? := (heap_setCell_other _ _ r y hne).trans (heap_setCell_other _ _ r x hne)
  exact ⟨(World.cell?_of_block (a := ⟨r, 0, none⟩) e).trans h.c0, (World.cell?_of_block (a := ⟨r, 1, none⟩) e).trans h.c1, (World.frozen?_of_block (a := ⟨r, 0, none⟩) e).trans h.f0, (World.frozen?_of_block (a := ⟨r, 1, none⟩) e).trans h.f1⟩
theorem Bel_al {B : Nat} {w x : World} {o : Obj} (h : Below B w x) (hB : B ≤ w.heap.size) : Below B w (x.alloc o) := h.alloc (Nat.le_trans hB h.size) o
theorem Bel_st {B : Nat} {w x : World} {a : Addr} {v : Value} (h : Below B w x) (ha : B ≤ a.block) : Below B w (x.setCell a v) := h.setCell ha v
theorem From.mono {B F : Nat} {p : Option Addr} (h : Go.Proofs.YtejnhpjejcpekaaGreatDoor.From F p) (hB : B ≤ F) : Go.Proofs.YtejnhpjejcpekaaGreatDoor.From B p := fun a ha => Nat.le_trans hB (h a ha)
theorem bnext {B : Nat} {a b c : World} (h : Below B a b) (hB : B ≤ a.heap.size) (k : Below b.heap.size b c) : Below B a c := h.trans (k.mono (Nat.le_trans hB h.size))
theorem bnext' {a b c : World} (h : Below a.heap.size a b) (k : Below b.heap.size b c) : Below a.heap.size a c := bnext h (Nat.le_refl _) k
theorem bset2 {B g : Nat} {a b : World} (h : Below B a b) (hg : B ≤ g) (u v : Value) : Below B a ((b.setCell ⟨g, 0, none⟩ u).setCell ⟨g, 1, none⟩ v) := (h.setCell (p := ⟨g, 0, none⟩) hg u).setCell (p := ⟨g, 1, none⟩) hg v
theorem keepc6 {w1 w2 : World} {a b c d e f : Addr} {u v x y z t : Value} (h : w1.cell? a = some u ∧ w1.cell? b = some v ∧ w1.cell? c = some x ∧ w1.cell? d = some y ∧ w1.cell? e = some z ∧ w1.cell? f = some t) (hb : Below w1.heap.size w1 w2) :
    w2.cell? a = some u ∧ w2.cell? b = some v ∧ w2.cell? c = some x ∧ w2.cell? d = some y ∧ w2.cell? e = some z ∧ w2.cell? f = some t :=
  ⟨cell_later hb h.1, cell_later hb h.2.1, cell_later hb h.2.2.1, cell_later hb h.2.2.2.1, cell_later hb h.2.2.2.2.1, cell_later hb h.2.2.2.2.2⟩
theorem NI.le {B : Nat} {w : World} {s : Bool} {p : Option Addr} {n : Nat} {xs : List Int} {z : Int} (h : NI B w s p n xs z) {k : Nat} (hz : (z.natAbs : Int) < pw k) : n ≤ k := by
  have hv : (z.natAbs : Int) = val xs := by
    have := val_nonneg h.u
    rw [← h.v, ival]
    split <;> omega
  rcases Nat.eq_zero_or_pos n with h0 | h0
  · omega
  · have h1 := val_pos_of_top h.u (by rw [h.nrm]; exact h0)
    rw [h.nrm] at h1
    have h2 : n - 1 < k := by
      rcases Nat.lt_or_ge (n - 1) k with h3 | h3
      · exact h3
      · have := pw_mono h3; omega
    omega
theorem AI.lt {w : World} {p : Option Addr} {n nc : Nat} {xs : List Int} (h : AI w p n nc xs) (s : Bool) : ((ival s xs).natAbs : Int) < pw n := by
  have h1 := val_nonneg h.u
  have h2 := val_lt_tlen h.u
  have h3 := pw_mono (tlen_le xs)
  rw [h.len] at h3
  rw [ival]
  split <;> omega
theorem off_from {B g : Nat} {p : Option Addr} (h : Go.Proofs.YtejnhpjejcpekaaGreatDoor.From B p) (hg : g < B) : Off g p := fun a ha e => by have := h a ha; omega
theorem isgn_pos {z : Int} (h : 0 < z) : isgn z = 1 := by unfold isgn; rw [if_neg (by omega), if_neg (by omega)]
theorem isgn_neg {z : Int} (h : z < 0) : isgn z = -1 := by unfold isgn; rw [if_neg (by omega), if_pos h]
theorem isgn_zero {z : Int} (h : z = 0) : isgn z = 0 := by unfold isgn; rw [if_pos h]
theorem Sign_ev {w : World} {K : Nat} {z : Int} {e : Ent} (h : EV w K z e) : Calls Tryz.prog 100 #[.agg #[.bool e.s, .slice e.p e.n e.c]] w fun r w' => r = .returned (.int .i64 (isgn z)) ∧ Below w.heap.size w w' := by
  obtain ⟨xs, h1, rfl, h3⟩ := h
  exact Sign_any e.s e.p e.n e.c xs w h1
theorem utrim_any (K : Nat) (p : Option Addr) (n nc : Nat) (es : List Ent) (zs : List Int) (w : World) (h : PA w K p n nc es zs) (hn : n ≤ 1000000) :
    Calls Tryz.prog 107 #[.slice p n nc] w fun e w' => e = .returned (.slice p (tlen zs) (tlen zs)) ∧ Below w.heap.size w w' := by
  have hle := h.el
  go_enter Tryz.func107, Tryz.ntmps107
  go_wp2
  go_loopw [3] (fun nv wr => ∃ k : Nat, k ≤ n ∧ nv = .int .i64 k ∧ Hid ((∀ j, k ≤ j → gx zs j = 0) ∧ Below w.heap.size w wr)) (fun nv _ => (intOf nv).toNat)
  case atStart => exact ⟨n, Nat.le_refl _, by go_num, fun j hj => gx_past zs n (by rw [h.zl]; exact Nat.le_refl _) j hj, Below.refl _ _⟩
  case round =>
    obtain ⟨k, hk, rfl, H⟩ := hrel
    rcases Nat.eq_zero_or_pos k with h0 | h0
    · subst h0
      have HT : Hid (tlen zs = 0) := tlen_eq zs 0 (fun j _ => H.out.1 j (Nat.zero_le _)) (.inl rfl)
      go_wp2
      go_ret
      exact ⟨by rw [HT.out]; rfl, H.out.2⟩
    · obtain ⟨i, rfl⟩ : ∃ i, k = i + 1 := ⟨k - 1, by omega⟩
      obtain ⟨H1, H2⟩ := H.out
      have HH : Hid ((∀ j, i + 1 ≤ j → gx zs j = 0) ∧ Below w.heap.size w wr) := ⟨H1, H2⟩
      have hw := h.below H2
      obtain ⟨b, o, hp, hc⟩ := hw.pl (by omega)
      subst hp
      obtain ⟨c0, c1⟩ := hc i (by omega)
      have hv := hw.ev i (by omega)
      have hcap := h.cap
      have hbnd := h.bnd
      unfold maxLen at hbnd
      clear H H1 H2 hc
      go_wp2_with fail
      refine (Sign_ev hv).mono ?_
      rintro e w1 ⟨rfl, hb1⟩
      have hB := bnext' HH.out.2 hb1
      have hcs : Hid (gx zs i = 0 ∨ ¬ gx zs i = 0) := Classical.em _
      rcases hcs.out with hz | hz
      · rw [isgn_zero hz]
        have HZ : Hid (gx zs i = 0) := hz
        clear hz hcs c0 c1 hv
        go_wp2
        go_roundw
        case rel => exact ⟨i, by omega, by go_num, fun j hj => by
          rcases Nat.lt_or_ge i j with h | h
          · exact HH.out.1 j h
          · have : j = i := by omega
            subst this; exact HZ.out, hB⟩
        case measure => simp [intOf]
      · have HT : Hid (tlen zs = i + 1) := tlen_eq zs (i + 1) HH.out.1 (.inr hz)
        have hi : isgn (gx zs i) = 1 ∨ isgn (gx zs i) = -1 := by
          rcases (show 0 < gx zs i ∨ gx zs i < 0 by omega) with h | h
          · exact .inl (isgn_pos h)
          · exact .inr (isgn_neg h)
        clear hz hcs c0 c1 hv
        rcases hi with hi | hi
        all_goals
          rw [hi]
          clear hi
          go_wp2
          go_ret
          exact ⟨by rw [HT.out]; rfl, hB⟩
def ezs (n : Nat) : List Ent := List.replicate n ez
theorem length_ezs (n : Nat) : (ezs n).length = n := by simp [ezs]
theorem ge_ezs (n i : Nat) : ge (ezs n) i = ez := by
  unfold ge ezs
  by_cases h : i < n
  · simp [List.getElem?_replicate, h]
  · simp [List.getElem?_replicate, h]
theorem made_ez (n : Nat) : madeCells #[.bool false, .slice none 0 0] (n * 2) = ca2 (ezs n) := by
  apply Array.ext
  · simp [size_madeCells, size_ca2, length_ezs]
  · intro i h1 h2
    have hl : i < n * 2 := by simpa [size_madeCells] using h1
    have hj : i / 2 < (ezs n).length := by rw [length_ezs]; omega
    obtain ⟨g0, g1⟩ := flat_get (ezs n) (i / 2) hj
    have e : (ca2 (ezs n))[i]? = ((ezs n).flatMap fun e => [Value.bool e.s, .slice e.p e.n e.c])[i]? := by unfold ca2; exact List.getElem?_toArray
    rw [Array.getElem?_eq_getElem h2] at e
    rcases Nat.mod_two_eq_zero_or_one i with h | h
    · have hi : i / 2 * 2 = i := by omega
      rw [hi, ← e, ge_ezs] at g0
      rw [Option.some.inj g0]
      simp [madeCells, h, ez]
    · have hi : i / 2 * 2 + 1 = i := by omega
      rw [hi, ← e, ge_ezs] at g1
      rw [Option.some.inj g1]
      simp [madeCells, h, ez]
theorem info_api : (Tryz.prog.info? 26).map (fun i => (i.zero, i.size, i.bytes)) = some (some (.agg #[.bool false, .slice none 0 0]), 2, 32) := by kernel_rfl
theorem mk_poly (n : Nat) (h : n ≤ 1000000000) (w : World) : (Instr.makeSlice 23 (.int .i64 n) (.int .i64 n)).run Tryz.prog w =
    .ok (.slice (some ⟨w.heap.size, 0, none⟩) n n) (w.alloc (.cells (ca2 (ezs n)) 26)) := by
  have hi := info_api
  cases hq : Tryz.prog.info? 26 with
  | none => rw [hq] at hi; cases hi
  | some i =>
    rw [hq] at hi
    simp only [Option.map_some, Option.some.injEq, Prod.mk.injEq] at hi
    obtain ⟨h1, h2, h3⟩ := hi
    have hr := run_make (P := Tryz.prog) w 23 26 i (.agg #[.bool false, .slice none 0 0]) Tryz.underlying23 hq h1 .i64 .i64 n n (by omega) (Int.le_refl _) (by rw [h3]; omega) (by omega)
    rw [Int.toNat_natCast, h2] at hr
    rw [hr]
    exact congrArg (fun c => Result.ok (Value.slice (some ⟨w.heap.size, 0, none⟩) n n) (w.alloc (.cells c 26))) (made_ez n)
def NV (B : Nat) (w : World) (K : Nat) (z : Int) (e : Ent) : Prop := ∃ xs, NI B w e.s e.p e.n xs z ∧ e.c = e.n ∧ e.n ≤ K
structure PN (B : Nat) (w : World) (K : Nat) (p : Option Addr) (n : Nat) (es : List Ent) (zs : List Int) : Prop where
  el : es.length = n
  zl : zs.length = n
  nrm : tlen zs = n
  pl : PL w p es
  fr : Go.Proofs.YtejnhpjejcpekaaGreatDoor.From B p
  ev : ∀ j, j < n → NV B w K (gx zs j) (ge es j)
section
variable {B : Nat} {w w' : World} {K : Nat} {z : Int} {e : Ent} {p : Option Addr} {n : Nat} {es : List Ent} {zs : List Int}
theorem NV.below (h : NV B w K z e) (hb : Below w.heap.size w w') : NV B w' K z e := by
  obtain ⟨xs, h1, h2⟩ := h
  exact ⟨xs, h1.below hb, h2⟩
theorem NV.mono {B' : Nat} (h : NV B w K z e) (hB : B' ≤ B) : NV B' w K z e := by
  obtain ⟨xs, h1, h2⟩ := h
  exact ⟨xs, h1.mono hB, h2⟩
theorem NV.ez (B : Nat) (w : World) (K : Nat) : NV B w K 0 ez := ⟨[], ⟨rfl, Rd.nil, fun j => by simp [gx], by decide, fun _ => rfl, fun _ => rfl, by decide, (fun a ha => by cases ha), Fz.nil _⟩, rfl, Nat.zero_le _⟩
theorem NV.ev (h : NV B w K z e) (hK : K ≤ 1000) : EV w K z e := by
  obtain ⟨xs, h1, h2, h3⟩ := h
  exact ⟨xs, by rw [h2]; exact h1.ai (by omega), h1.v, h3⟩
theorem PN.below (h : PN B w K p n es zs) (hb : Below w.heap.size w w') : PN B w' K p n es zs := ⟨h.el, h.zl, h.nrm, h.pl.below hb, h.fr, fun j hj => (h.ev j hj).below hb⟩
theorem PN.mono {B' : Nat} (h : PN B w K p n es zs) (hB : B' ≤ B) : PN B' w K p n es zs := ⟨h.el, h.zl, h.nrm, h.pl, fun a ha => Nat.le_trans hB (h.fr a ha), fun j hj => (h.ev j hj).mono hB⟩
end
def PnP (zs : List Int) (K : Nat) (w : World) (e : Ending) (w' : World) : Prop :=
  ∃ p n es, e = .returned (.slice p n n) ∧ PN w.heap.size w' K p n es zs ∧ Below w.heap.size w w'
theorem rd_owns {w : World} {base g n cap : Nat} {e : TypeId} {xs : List Int} {k : IntKind} (h : w.ownsRow base e 1 (.slice (some ⟨g, 0, none⟩) n cap) n (xs.map (Value.int k))) : Rd w (some ⟨g, 0, none⟩) k xs := fun hx =>
  ⟨g, 0, rfl, fun j hj => by
    have := h.cells (g := g) rfl j (.int k (gx xs j)) (by rw [List.getElem?_map, List.getElem?_eq_getElem hj, gx_mem xs j hj]; rfl)
    rw [Addr.add_mid] at this
    exact this⟩
end Go.Proofs.YtejnhpjejcpekaaGreatDoor
