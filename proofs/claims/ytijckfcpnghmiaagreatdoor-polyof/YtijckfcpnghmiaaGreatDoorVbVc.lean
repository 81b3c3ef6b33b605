/-
  Lists of the reference that grow by append; ashlarref3.Of.
-/
import Derived.Test.YtijckfcpnghmiaaGreatDoorRrRwVaRzVd
import Derived.Test.YtijckfcpnghmiaaGreatDoorRo
import Derived.Test.YtijckfcpnghmiaaGreatDoorUbUcUd
namespace Go.Proofs.YtijckfcpnghmiaaGreatDoor
open Go.RowKit
set_option linter.unusedVariables false
set_option linter.unusedSimpArgs false

/-- The cells of a list. -/
def fl (es : List Ent) : List Value := es.flatMap fun e => [.bool e.s, .slice e.p e.n e.c]
theorem fl_snoc (es : List Ent) (e : Ent) : fl (es ++ [e]) = fl es ++ [.bool e.s, .slice e.p e.n e.c] := by simp [fl]
theorem length_fl (es : List Ent) : (fl es).length = es.length * 2 := flat_length es
theorem Rd.grown {w w' : World} {p : Option Addr} {k : IntKind} {xs : List Int} {row : Option Nat} (h : Rd w p k xs) (hg : w.grownBy w' row) (hne : 0 < xs.length → ∀ a, p = some a → some a.block ≠ row) : Rd w' p k xs := fun hx => h.kept hg (hne hx) hx
theorem RE.grown {w w' : World} {N : Nat} {z : Int} {e : Ent} {row : Option Nat} (h : RE w N z e) (hg : w.grownBy w' row) (hne : 0 < e.n → ∀ a, e.p = some a → some a.block ≠ row) : RE w' N z e := by
  obtain ⟨⟨ds, h1, h2, h3⟩, h4⟩ := h
  exact ⟨⟨ds, ⟨h1.len, h1.rd.grown hg (by rw [h1.len]; exact hne), h1.u, h1.nrm, h1.sg, h1.sml⟩, h2, h3⟩, h4⟩
theorem RE.lt {w : World} {N : Nat} {z : Int} {e : Ent} (h : RE w N z e) : 0 < e.n → ∀ a, e.p = some a → a.block < w.heap.size := by
  obtain ⟨⟨ds, h1, h2, h3⟩, h4⟩ := h
  exact h1.lt
/-- A list that grows. -/
structure LR (base : Nat) (w : World) (N : Nat) (v : Value) (es : List Ent) (zs : List Int) : Prop where
  own : w.ownsRow base 47 2 v es.length (fl es)
  zl : zs.length = es.length
  ev : ∀ j, j < es.length → RE w N (gx zs j) (ge es j)
  off : ∀ j, j < es.length → 0 < (ge es j).n → ∀ a, (ge es j).p = some a → some a.block ≠ v.ownBlock
theorem LR.nil (base : Nat) (w : World) (N : Nat) : LR base w N (.slice none 0 0) [] [] := ⟨World.ownsRow_nil _ _ _ _, rfl, fun j hj => by simp at hj, fun j hj => by simp at hj⟩
theorem LR.app {base : Nat} {wr w1 w3 : World} {N : Nat} {v : Value} {es : List Ent} {zs : List Int} {z : Int} {e : Ent} {o : Obj} {g cap : Nat} (h : LR base wr N v es zs) (hb1 : Below wr.heap.size wr w1) (hE : RE w1 N z e) (hF : Go.Proofs.YtijckfcpnghmiaaGreatDoor.From wr.heap.size e.p)
    (hown : w3.ownsRow base 47 2 (.slice (some ⟨g, 0, none⟩) (es.length + 1) cap) (es.length + 1) (fl es ++ [.bool e.s, .slice e.p e.n e.c])) (hgrow : (w1.alloc o).grownBy w3 v.ownBlock) (hat : v.ownBlock = some g ∨ g = (w1.alloc o).heap.size) :
    LR base w3 N (.slice (some ⟨g, 0, none⟩) (es.length + 1) cap) (es ++ [e]) (zs ++ [z]) := by
  have hal : Below w1.heap.size w1 (w1.alloc o) := (Below.refl _ _).alloc (Nat.le_refl _) o
  have hs1 := hb1.size
  have hs2 := hal.size
  have old : ∀ j, j < es.length → RE (w1.alloc o) N (gx zs j) (ge es j) := fun j hj => ((h.ev j hj).below hb1).below hal
  have new : RE (w1.alloc o) N z e := hE.below hal
  have noff : 0 < e.n → ∀ a, e.p = some a → some a.block ≠ v.ownBlock := fun _ a ha hq => by
    have h1 := (h.own.lt a.block hq.symm).2
    have h2 := hF a ha
    omega
  refine ⟨by rw [List.length_append, fl_snoc]; exact hown, by simp [h.zl], fun j hj => ?_, fun j hj hn a ha hq => ?_⟩
  · rcases Nat.lt_or_ge j es.length with hlt | hge
    · rw [ge_append_left _ _ _ hlt, gx_append_left _ _ _ (by rw [h.zl]; exact hlt)]
      exact (old j hlt).grown hgrow (h.off j hlt)
    · have : j = es.length := by simp at hj; omega
      subst this
      have e1 : gx (zs ++ [z]) es.length = z := by rw [← h.zl, gx_append_right _ _ _ (Nat.le_refl _), Nat.sub_self]; rfl
      rw [ge_snoc, e1]
      exact new.grown hgrow noff
  · have hq' : a.block = g := Option.some.inj hq
    rcases Nat.lt_or_ge j es.length with hlt | hge
    · rw [ge_append_left _ _ _ hlt] at hn ha
      rcases hat with h1 | h1
      · exact h.off j hlt hn a ha (by rw [h1, hq'])
      · have := (old j hlt).lt hn a ha
        omega
    · have : j = es.length := by simp at hj; omega
      subst this
      rw [ge_snoc] at hn ha
      rcases hat with h1 | h1
      · exact noff hn a ha (by rw [h1, hq'])
      · have := new.lt hn a ha
        omega
theorem owns2_form {w : World} {B n : Nat} {t : TypeId} {v : Value} {xs : List Value} (h : w.ownsRow B t 2 v n xs) : ∃ q cap, v = .slice q n cap ∧ n ≤ cap ∧ cap ≤ maxLen ∧ Go.Proofs.YtijckfcpnghmiaaGreatDoor.From B q := by
  rcases h.2 with ⟨h1, h2⟩ | ⟨g, cap, cur, h1, h2, h3, h4, h5, _⟩
  · exact ⟨none, 0, by rw [h1, h2], by omega, Nat.zero_le _, fun a ha => by cases ha⟩
  · exact ⟨_, cap, h1, h4, h5, fun a ha => by cases ha; exact h2⟩
theorem owns2_pl {w : World} {B cap : Nat} {t : TypeId} {q : Option Addr} {es : List Ent} (h : w.ownsRow B t 2 (.slice q es.length cap) es.length (fl es)) : PL w q es := fun hx => by
  obtain ⟨g, cap', h1, h2, _⟩ := h.form hx
  cases h1
  refine ⟨g, 0, rfl, fun j hj => ?_⟩
  obtain ⟨f0, f1⟩ := flat_get es j hj
  have e0 := h.cells (g := g) rfl (j * 2) _ f0
  have e1 := h.cells (g := g) rfl (j * 2 + 1) _ f1
  rw [Addr.add_mid] at e0 e1
  exact ⟨e0, e1⟩
theorem LR.pr {base : Nat} {w : World} {N : Nat} {v : Value} {es : List Ent} {zs : List Int} (h : LR base w N v es zs) : ∃ q cap, v = .slice q es.length cap ∧ PR w N q es.length cap es zs ∧ Go.Proofs.YtijckfcpnghmiaaGreatDoor.From base q := by
  obtain ⟨q, cap, h1, h2, h3, h4⟩ := owns2_form h.own
  have ho := h.own
  rw [h1] at ho
  exact ⟨q, cap, h1, ⟨rfl, h.zl, h2, h3, owns2_pl ho, h.ev⟩, h4⟩
end Go.Proofs.YtijckfcpnghmiaaGreatDoor
/-
  ashlarref3.Of.
-/
namespace Go.Proofs.YtijckfcpnghmiaaGreatDoor
open Go.RowKit
set_option linter.unusedVariables false
set_option linter.unusedSimpArgs false

theorem own_below {w w' : World} {base : Nat} {t : TypeId} {sz : Nat} {v : Value} {n : Nat} {xs : List Value} (h : w.ownsRow base t sz v n xs) (hb : Below w.heap.size w w') : w'.ownsRow base t sz v n xs :=
  h.kept (grownBy_below hb none) (Classical.em _)
theorem take_snocg (xs : List Int) (k : Nat) (h : k < xs.length) : xs.take (k + 1) = xs.take k ++ [gx xs k] := by
  rw [gx_mem xs k h, List.take_succ_eq_append_getElem h]
theorem info_ref : (Tryz.prog.info? 47).map (fun i => (i.zero, i.size, i.bytes)) = some (some (.agg #[.bool false, .slice none 0 0]), 2, 32) := by kernel_rfl
theorem lr_app {base : Nat} {wr w1 w3 : World} {N : Nat} {v : Value} {es : List Ent} {zs : List Int} {z : Int} {s : Bool} {p : Option Addr} {n k : Nat} {o : Obj} {g cap : Nat} (hk : es.length = k) (h : LR base wr N v es zs) (hb1 : Below wr.heap.size wr w1) (hE : RE w1 N z ⟨s, p, n, n⟩) (hF : Go.Proofs.YtijckfcpnghmiaaGreatDoor.From wr.heap.size p)
    (hown : w3.ownsRow base 47 2 (.slice (some ⟨g, 0, none⟩) (k + 1) cap) (k + 1) (fl es ++ [.bool s, .slice p n n])) (hgrow : (w1.alloc o).grownBy w3 v.ownBlock) (hat : v.ownBlock = some g ∨ g = (w1.alloc o).heap.size) :
    LR base w3 N (.slice (some ⟨g, 0, none⟩) (k + 1) cap) (es ++ [⟨s, p, n, n⟩]) (zs ++ [z]) := by
  subst hk
  exact h.app hb1 hE hF hown hgrow hat
/-- What a function of the reference answers that gives a polynomial: no zero at its end. -/
def PrP (zs : List Int) (N : Nat) (w : World) (e : Ending) (w' : World) : Prop :=
  ∃ p n es, e = .returned (.slice p n n) ∧ PR w' N p n n es zs ∧ Go.Proofs.YtijckfcpnghmiaaGreatDoor.From w.heap.size p ∧ tlen zs = n ∧ Below w.heap.size w w'
set_option maxHeartbeats 2000000 in
set_option maxRecDepth 100000 in
/-- ashlarref3.Of. -/
theorem rpOf_any (p : Option Addr) (n nc : Nat) (xs : List Int) (w : World) (hl : xs.length = n) (hn : n ≤ 1000000) (hX : Rd w p .i64 xs) (hx : ∀ j, -9223372036854775808 ≤ gx xs j ∧ gx xs j ≤ 9223372036854775807) :
    Calls Tryz.prog 7 #[.slice p n nc] w (PrP (tr xs) 4 w) := by
  obtain ⟨i0, hi, hzz⟩ := Option.map_eq_some_iff.1 info_ref
  simp only [Prod.mk.injEq] at hzz
  obtain ⟨hz0, hz1, hz2⟩ := hzz
  have HI : Hid (Tryz.prog.info? 47 = some i0 ∧ i0.zero = some (.agg #[.bool false, .slice none 0 0]) ∧ i0.size = 2 ∧ i0.bytes = 32) := ⟨hi, hz0, hz1, hz2⟩
  have HX : Hid (Rd w p .i64 xs ∧ ∀ j, -9223372036854775808 ≤ gx xs j ∧ gx xs j ≤ 9223372036854775807) := ⟨hX, hx⟩
  clear hX hx hi hz0 hz1 hz2
  go_enter Tryz.func7, Tryz.ntmps7
  go_wp2_with fail
  go_loopw [3, 4] (fun qv iv wr => ∃ (k : Nat) (es : List Ent), k ≤ n ∧ iv = .int .i64 k ∧ Hid (es.length = k ∧ LR w.heap.size wr 4 qv es (xs.take k) ∧ Below w.heap.size w wr)) (fun _ iv _ => n - (intOf iv).toNat)
  case atStart => exact ⟨0, [], Nat.zero_le _, by go_num, rfl, by rw [List.take_zero]; exact LR.nil _ _ _, Below.refl _ _⟩
  case round =>
    obtain ⟨k, es, hk, rfl, H⟩ := hrel
    rcases Nat.lt_or_ge k n with hlt | hge
    · obtain ⟨hel, hLR, hB⟩ := H.out
      obtain ⟨b, o, hp, hc⟩ := (HX.out.1.below hB) (by omega)
      subst hp
      have c0 := hc k (by omega)
      obtain ⟨x0, x1⟩ := HX.out.2 k
      clear hel hLR hB hc
      go_wp2_with fail
      refine (rOf_any (gx xs k) _ x0 x1).mono ?_
      rintro e w1 ⟨s1, p1, n1, d1, rfl, hR1, hv1, hn1, hF1, hb1⟩
      have HE : Hid (RE w1 4 (gx xs k) ⟨s1, p1, n1, n1⟩) := ⟨⟨d1, hR1, hv1, hn1⟩, rfl⟩
      clear c0 hR1 hv1
      obtain ⟨hi, hz0, hz1, hz2⟩ := HI.out
      have hown0 := own_below H.out.2.1.own hb1
      rw [H.out.1] at hown0
      have HO : Hid (w1.ownsRow w.heap.size 47 2 u3 k (fl es)) := hown0
      have hsz : w.heap.size ≤ w1.heap.size := Nat.le_trans H.out.2.2.size hb1.size
      clear hown0
      go_wp2_with (refine wpList_append_lies _ rfl _ _ 29 rfl w.heap.size 47 i0 (.agg #[.bool false, .slice none 0 0]) 2 32 Tryz.underlying29 hi hz0 hz1 hz2 rfl (by decide) u3 k (fl es) rfl (HO.out.alloc _) ⟨w1.heap.size, 0, none⟩ 1 1 [.bool s1, .slice p1 n1 n1] rfl rfl ?_ (fun x hx => by simp at hx; rcases hx with rfl | rfl <;> rfl) (by decide) (by unfold maxLen; omega) (by omega) (by simp; omega) _ rfl ?_; exact World.news_of_block (heap_alloc_new w1 _); intro g cap w3 hown3 hgrow3 hat3 hlt3; have hB3 : Below w.heap.size w w3 := ((bnext' H.out.2.2 hb1).alloc hsz _).grown hgrow3 (by simp; omega) (fun q hq => (HO.out.lt q hq).1); have HA : Hid (LR w.heap.size w3 4 (.slice (some ⟨g, 0, none⟩) (k + 1) cap) (es ++ [⟨s1, p1, n1, n1⟩]) (xs.take k ++ [gx xs k])) := lr_app H.out.1 H.out.2.1 hb1 HE.out hF1 hown3 hgrow3 hat3; clear hown3 hgrow3 hat3)
      refine ⟨⟨k + 1, es ++ [⟨s1, p1, n1, n1⟩], by omega, by go_num, by have := H.out.1; simp; omega, by rw [take_snocg xs k (by omega)]; exact HA.out, hB3⟩, by simp [intOf]; omega⟩
    · obtain rfl : k = n := by omega
      obtain ⟨hel, hLR, hB⟩ := H.out
      rw [List.take_of_length_le (by omega)] at hLR
      obtain ⟨q, cap, hv, hPR, hF⟩ := hLR.pr
      subst hv
      rw [hel] at hPR ⊢
      have HB : Hid (Below w.heap.size w wr) := hB
      clear H hLR hB hge hk
      go_wp2_with fail
      refine (rTrim_any 4 q k cap es xs _ hPR hn).mono ?_
      rintro e w1 ⟨rfl, hb1⟩
      have HP : Hid (PR wr 4 q k cap es xs) := hPR
      clear hPR
      go_wp2
      go_ret
      have htl := tlen_le xs
      have hcap := HP.out.cap
      have hT := (HP.out.below hb1).take (tlen xs) (tlen xs) (by omega) (Nat.le_refl _) (by omega)
      exact ⟨q, tlen xs, es.take (tlen xs), rfl, hT, hF, tlen_tr xs, bnext' HB.out hb1⟩
end Go.Proofs.YtijckfcpnghmiaaGreatDoor
