/-
  upoly.entry, combine, Add.
-/
import Derived.Test.YtejnhpjejcpekaaGreatDoorUeUfUgHdNb
import Derived.Test.YtejnhpjejcpekaaGreatDoorUaWhPnWk
import Derived.Test.YtejnhpjejcpekaaGreatDoorMmNaWaWbWc
import Derived.Test.YtejnhpjejcpekaaGreatDoorWdWeNi
namespace Go.Proofs.YtejnhpjejcpekaaGreatDoor
open Go.RowKit
set_option linter.unusedVariables false
set_option linter.unusedSimpArgs false
set_option maxHeartbeats 8000000
theorem EV.set2 {w : World} {K : Nat} {z : Int} {e : Ent} {g o : Nat} {u v : Value} (h : EV w K z e) (ho : 0 < e.n → Off g e.p) : EV ((w.setCell ⟨g, o, none⟩ u).setCell ⟨g, o + 1, none⟩ v) K z e := by
  obtain ⟨xs, h1, h2⟩ := h
  refine ⟨xs, ⟨h1.len, h1.cap, h1.bnd, h1.sml, fun hx => ?_, h1.u⟩, h2⟩
  have := ho (by rw [h1.len] at hx; exact hx)
  exact ((h1.rd.set_other ⟨g, o, none⟩ u this).set_other ⟨g, o + 1, none⟩ v this) hx
theorem EV.ez (w : World) (K : Nat) : EV w K 0 ez := ⟨[], ⟨rfl, Nat.le_refl _, Nat.zero_le _, Nat.zero_le _, Rd.nil, fun j => by simp [gx]⟩, rfl, Nat.zero_le _⟩
set_option maxRecDepth 100000 in
theorem entry_any {w : World} {K : Nat} {p : Option Addr} {n nc : Nat} {es : List Ent} {zs : List Int} (h : PA w K p n nc es zs) (hn : n ≤ 1000000) (i : Nat) (hi : i ≤ 1000000) :
    Calls Tryz.prog 216 #[.slice p n nc, .int .i64 i] w fun r w' => ∃ f : Ent, r = .returned (.agg #[.bool f.s, .slice f.p f.n f.c]) ∧ EV w' K (gx zs i) f ∧ Below w.heap.size w w' := by
  have hel := h.el
  have hzl := h.zl
  have hal := bel_al (o := .cells #[.bool false, .slice none 0 0] 26) (Below.refl w.heap.size w)
  have hR0 : Bx (w.alloc (.cells #[.bool false, .slice none 0 0] 26)) w.heap.size (.bool false) (.slice none 0 0) := Bx.new _ _ _ rfl
  have hw := h.below hal
  rcases Nat.lt_or_ge i n with hlt | hge
  · obtain ⟨b, o, hp, hc⟩ := hw.pl (by omega)
    obtain ⟨b', o', hp', hc'⟩ := h.pl (by omega)
    rw [hp] at hp'
    cases hp'
    have sb : b < w.heap.size := block_lt_of_cell (hc' i (by omega)).1
    subst hp
    obtain ⟨c0, c1⟩ := hc i (by omega)
    have hv := hw.ev i hlt
    obtain ⟨r0, r1, f0, f1⟩ := hR0
    clear hc hc'
    go_enter Tryz.func216, Tryz.ntmps216
    go_wp2
    refine bodyPost_ret (v := .agg #[.bool (ge es i).s, .slice (ge es i).p (ge es i).n (ge es i).c]) (by simp [results, Tryz.results216, go_sem, r0, r1]) rfl ⟨ge es i, rfl, ?_, bel_al (Below.refl _ _)⟩
    exact (h.ev i hlt).below (bel_al (Below.refl _ _))
  · obtain ⟨r0, r1, f0, f1⟩ := hR0
    have hz : Hid (gx zs i = 0) := gx_past zs n (by omega) i hge
    go_enter Tryz.func216, Tryz.ntmps216
    go_wp2
    refine bodyPost_ret (v := .agg #[.bool false, .slice none 0 0]) (by simp [results, Tryz.results216, go_sem, r0, r1]) rfl ⟨ez, rfl, ?_, bel_al (Below.refl _ _)⟩
    rw [hz.out]
    exact EV.ez _ K
def CoI (op : Int → Int → Int) (K g n k : Nat) (zs ys : List Int) (W0 wr : World) : Prop :=
  ∃ es, Row2 wr g 26 es ∧ es.length = n ∧ (∀ j, j < k → NV (g + 1) wr K (op (gx zs j) (gx ys j)) (ge es j)) ∧ Below g W0 wr
def pz (op : Int → Int → Int) (zs ys : List Int) : List Int := (List.range (max zs.length ys.length)).map fun i => op (gx zs i) (gx ys i)
set_option maxRecDepth 100000 in
theorem ucombine_any {w : World} {K L M : Nat} {p q : Option Addr} {n nc m mc : Nat} {es fs : List Ent} {zs ys : List Int} (h : PA w K p n nc es zs) (k : PA w L q m mc fs ys) (hn : n ≤ 1000000) (hm : m ≤ 1000000) (hM : M ≤ 1000) (J : Nat) (hE : ∀ args w', Sem.run Tryz.prog (callFunc J args) w' = .ok (.enter J args) w') (op : Int → Int → Int)
    (hJ : ∀ w' x y e f, EV w' K x e → EV w' L y f → Calls Tryz.prog J #[.agg #[.bool e.s, .slice e.p e.n e.c], .agg #[.bool f.s, .slice f.p f.n f.c]] w' fun r w'' => ∃ u : Ent, r = .returned (.agg #[.bool u.s, .slice u.p u.n u.c]) ∧ NV w'.heap.size w'' M (op x y) u ∧ Below w'.heap.size w' w'') :
    Calls Tryz.prog 147 #[.slice p n nc, .slice q m mc, .func (.func J) #[] #[]] w (PnP (tr (pz op (tr zs) (tr ys))) M w) := by
  have htl := tlen_le zs
  have htl' := tlen_le ys
  have hzl := h.zl
  have hyl := k.zl
  have HJ := (show Hid _ from hJ)
  clear hJ
  go_enter Tryz.func147, Tryz.ntmps147
  go_wp2_with fail
  refine (utrim_any K p n nc es zs _ h hn).mono ?_
  rintro e w1 ⟨rfl, hb1⟩
  go_wp2_with fail
  refine (utrim_any L q m mc fs ys _ (k.below hb1) hm).mono ?_
  rintro e w2 ⟨rfl, hb2⟩
  have h2 := ((h.below hb1).below hb2).trim
  have k2 := ((k.below hb1).below hb2).trim
  have hb := bnext' hb1 hb2
  have HL : Hid ((tr zs).length = tlen zs ∧ (tr ys).length = tlen ys) := ⟨length_tr zs, length_tr ys⟩
  have ha : tlen zs ≤ 1000000 := by omega
  have hc : tlen ys ≤ 1000000 := by omega
  clear hb1 hb2 h k
  generalize tr zs = A at *
  generalize tr ys = B at *
  generalize tlen zs = a at *
  generalize tlen ys = b at *
  generalize es.take a = ea at *
  generalize fs.take b = eb at *
  clear htl htl' hzl hyl hn hm
  have hmx : Hid (∃ N : Nat, N = max a b ∧ max (a : Int) (b : Int) = (N : Int) ∧ N ≤ 1000000) := ⟨max a b, rfl, by omega, by omega⟩
  obtain ⟨N, hN1, hN2, hN3⟩ := hmx.out
  have hmk := mk_poly N (by omega)
  have HN : Hid (N = max a b) := hN1
  clear hmx hN1
  go_wp2_with fail
  have hR0 := Row2.new w2 26 (ezs N)
  have hW0 : Below w2.heap.size w2 (w2.alloc (.cells (ca2 (ezs N)) 26)) := (Below.refl _ _).alloc (Nat.le_refl _) _
  have hs0 : w2.heap.size + 1 ≤ (w2.alloc (.cells (ca2 (ezs N)) 26)).heap.size := by simp
  generalize w2.alloc (.cells (ca2 (ezs N)) 26) = W0 at *
  clear hmk
  go_loopw [8, 21] (fun iv kv wr => ∃ j : Nat, j ≤ N ∧ kv = .int .i64 j ∧ Hid (CoI op M w2.heap.size N j A B W0 wr)) (fun _ kv _ => N - (intOf kv).toNat)
  case atStart => exact ⟨0, Nat.zero_le _, by go_num, ezs N, hR0, length_ezs N, fun j hj => by omega, Below.refl _ _⟩
  case round =>
    obtain ⟨j, hj, rfl, H⟩ := hrel
    rcases Nat.lt_or_ge j N with hlt | hge
    · have hBw : Below w2.heap.size w2 wr := by
        obtain ⟨es', hR, hel, hev, hB⟩ := H.out
        exact hW0.trans hB
      go_wp2_with fail
      refine (entry_any (h2.below hBw) ha j (by omega)).mono ?_
      rintro r w3 ⟨e1, rfl, hv1, hb3⟩
      go_wp2_with fail
      refine (entry_any ((k2.below hBw).below hb3) hc j (by omega)).mono ?_
      rintro r w4 ⟨e2, rfl, hv2, hb4⟩
      go_wp2_with fail
      refine (HJ.out _ _ _ e1 e2 (hv1.below hb4) hv2).mono ?_
      rintro r w5 ⟨f, rfl, hO, hb5⟩
      have hb2' := bnext' (bnext' hb3 hb4) hb5
      obtain ⟨es', hR, hel, hev, hB⟩ := H.out
      have hR1 := hR.below hb2' hR.lt
      obtain ⟨d0, d1⟩ := hR1.cell j (by omega)
      have f0 := hR1.frozen (j * 2)
      have f1 := hR1.frozen (j * 2 + 1)
      have hsz : w2.heap.size + 1 ≤ w4.heap.size := by have h1 := hB.size; have h3 := hb3.size; have h4 := hb4.size; omega
      have HI : Hid (NV (w2.heap.size + 1) w5 M (op (gx A j) (gx B j)) f ∧ Row2 w5 w2.heap.size 26 es' ∧ es'.length = N ∧ (∀ i, i < j → NV (w2.heap.size + 1) w5 M (op (gx A i) (gx B i)) (ge es' i)) ∧ Below w2.heap.size W0 w5) := ⟨hO.mono hsz, hR1, hel, fun i hi => (hev i hi).below hb2', hB.trans (hb2'.mono (by have := hBw.size; omega))⟩
      clear hO hb3 hb4 hb5 hb2' hR hel hev hB hR1 hv1 hv2 H
      go_wp2
      go_roundw
      case rel =>
        obtain ⟨hO, hR, hel, hev, hB⟩ := HI.out
        refine ⟨j + 1, by omega, by go_num, es'.set j f, hR.set j f (by omega), by simpa using hel, fun i hi => ?_, ?_⟩
        · rcases Nat.lt_or_ge i j with h' | h'
          · rw [ge_set_other _ _ _ _ (by omega)]
            exact (hev i h').set2 (by omega) _ _
          · obtain rfl : i = j := by omega
            rw [ge_set_same _ _ _ (by omega)]
            exact hO.set2 (by omega) _ _
        · exact (hB.setCell (p := ⟨w2.heap.size, j * 2, none⟩) (Nat.le_refl _) _).setCell (p := ⟨w2.heap.size, j * 2 + 1, none⟩) (Nat.le_refl _) _
      case measure => simp [intOf]; omega
    · obtain rfl : j = N := by omega
      obtain ⟨es', hR, hel, hev, hB⟩ := H.out
      have hpl : (pz op A B).length = j := by rw [pz, List.length_map, List.length_range, HL.out.1, HL.out.2]; exact HN.out.symm
      have hgx : ∀ i, i < j → gx (pz op A B) i = op (gx A i) (gx B i) := fun i hi => by
        have hi' : i < (pz op A B).length := by omega
        rw [gx_mem _ _ hi']
        simp [pz]
      have hPA : PA wr M (some ⟨w2.heap.size, 0, none⟩) j j es' (pz op A B) := ⟨hel, hpl, Nat.le_refl _, by unfold maxLen; omega, fun e => by simp at e, hR.pl, fun i hi => by rw [hgx i hi]; exact (hev i hi).ev hM⟩
      have HI : Hid (Row2 wr w2.heap.size 26 es' ∧ es'.length = j ∧ (∀ i, i < j → NV (w2.heap.size + 1) wr M (gx (pz op A B) i) (ge es' i)) ∧ Below w2.heap.size w2 wr) := ⟨hR, hel, fun i hi => by rw [hgx i hi]; exact hev i hi, hW0.trans hB⟩
      have HP : Hid ((pz op A B).length = j) := hpl
      clear H hR hel hev hB hge hj hgx hpl
      go_wp2_with fail
      refine (utrim_any M _ _ _ es' (pz op A B) _ hPA (by omega)).mono ?_
      rintro e w3 ⟨rfl, hb3⟩
      clear hPA
      go_wp2
      go_ret
      obtain ⟨hR, hel, hev, hB⟩ := HI.out
      have htl := tlen_le (pz op A B)
      have hp := HP.out
      have hs2 := hb.size
      refine ⟨_, _, es'.take (tlen (pz op A B)), rfl, ⟨by simp; omega, length_tr _, tlen_tr _, (hR.below hb3 hR.lt).pl.take _, fun a ha => by cases ha; exact hs2, fun i hi => ?_⟩, bnext' hb (bnext' hB hb3)⟩
      rw [gx_tr, ge_take _ _ _ hi]
      exact ((hev i (by omega)).below hb3).mono (by omega)
theorem callAdd' (args : Array Value) (w' : World) : Sem.run Tryz.prog (callFunc 148 args) w' = .ok (.enter 148 args) w' := by
  have h1 : ¬ Tryz.f148.name = "runtime.NumGoroutine" := of_decide_eq_false (by kernel_rfl)
  have h2 : ¬ Tryz.f148.body = none := fun h => by cases h
  simp only [callFunc, Tryz.func148, go_sem]
  simp [h1, h2, go_sem]
theorem Add_ev {w : World} {K L : Nat} {x y : Int} {e f : Ent} (h : EV w K x e) (k : EV w L y f) : Calls Tryz.prog 148 #[.agg #[.bool e.s, .slice e.p e.n e.c], .agg #[.bool f.s, .slice f.p f.n f.c]] w fun r w' => ∃ u : Ent, r = .returned (.agg #[.bool u.s, .slice u.p u.n u.c]) ∧ NV w.heap.size w' (K + L + 1) (x + y) u ∧ Below w.heap.size w w' := by
  obtain ⟨xs, h1, rfl, h3⟩ := h
  obtain ⟨ys, k1, rfl, k3⟩ := k
  refine (Add_any e.s f.s e.p f.p e.n e.c f.n f.c xs ys w h1 k1).mono ?_
  rintro r w' ⟨s', p', n', zs, g1, g2, g3, g4⟩
  exact ⟨⟨s', p', n', n'⟩, g1, ⟨zs, g2, rfl, by show n' ≤ _; omega⟩, g4⟩
theorem uAdd_any {w : World} {K L : Nat} {p q : Option Addr} {n nc m mc : Nat} {es fs : List Ent} {zs ys : List Int} (h : PA w K p n nc es zs) (k : PA w L q m mc fs ys) (hn : n ≤ 1000000) (hm : m ≤ 1000000) (hM : K + L + 1 ≤ 1000) :
    Calls Tryz.prog 77 #[.slice p n nc, .slice q m mc] w (PnP (tr (pz (· + ·) (tr zs) (tr ys))) (K + L + 1) w) := by
  have hc := fun w' (h : PA w' K p n nc es zs) (k : PA w' L q m mc fs ys) => ucombine_any h k hn hm hM 148 callAdd' (· + ·) (fun w' x y e f h k => Add_ev h k)
  go_enter Tryz.func77, Tryz.ntmps77
  go_wp2_with fail
  refine (hc w h k).mono ?_
  rintro e w1 ⟨p1, n1, e1, rfl, h1, h2⟩
  clear hc
  go_wp2
  go_ret
  exact ⟨p1, n1, e1, rfl, h1, h2⟩
theorem multiplyRows_any (g o cap : Nat) (Z : List Int) (p q : Option Addr) (n nc m mc : Nat) (xs ys : List Int) (w : World)
    (hz : o + (n + m) ≤ Z.length) (hcap : cap ≤ 1099511627776) (hn : n + m ≤ cap) (hR : Row w g 88 .u32 Z) (hZ : (Z.drop o).take (n + m) = zeros (n + m)) (hx : xs.length = n) (hy : ys.length = m)
    (hX : Rd w p .u32 xs) (hXu : U32 xs) (hY : Rd w q .u32 ys) (hYu : U32 ys) (hoffx : 0 < n → Off g p) (hoffy : 0 < m → Off g q) :
    Calls Tryz.prog 311 #[.slice (some ⟨g, o, none⟩) (n + m) cap, .slice p n nc, .slice q m mc] w fun e w' => ∃ R, e = .returned (.tuple #[]) ∧ R.length = n + m ∧ U32 R ∧ val R = val xs * val ys ∧ Row w' g 88 .u32 (mid Z o R) ∧ w.grownBy w' (some g) := by
  go_enter Tryz.func311, Tryz.ntmps311
  go_wp2
  go_loopw [15] (fun iv wr => ∃ (i : Nat) (R : List Int), i ≤ m ∧ iv = .int .i64 i ∧ Hid (R.length = n + m ∧ U32 R ∧ val R = val xs * val (ys.take i) ∧ (∀ j, n + i ≤ j → gx R j = 0) ∧ Row wr g 88 .u32 (mid Z o R) ∧ w.grownBy wr (some g)))
    (fun iv _ => m - (intOf iv).toNat)
  case atStart => exact ⟨0, zeros (n + m), Nat.zero_le _, rfl, length_zeros _, u32_zeros _, by simp [val_zero, val], fun j _ => gx_zeros _ j, by rw [← hZ, mid_self Z o (n + m) hz]; exact hR, grownBy_refl _ _⟩
  case round =>
    obtain ⟨i, R, hi, rfl, H⟩ := hrel
    by_cases hlt : i < m
    · obtain ⟨hl, hu, hv, h0, hr, hg⟩ := H.out
      obtain ⟨b, off, rfl, hcell⟩ := (hY.keptOff hg (hoffy (by omega))) (by omega)
      have hcy := hcell i (by omega)
      clear hl hu hv h0 hr hg hcell
      go_wp2
      go_loopw [8, 29] (fun cv jv wr' => ∃ (j : Nat) (c : Int) (T : List Int), j ≤ n ∧ jv = .int .i64 j ∧ cv = .int .u64 c ∧ 0 ≤ c ∧ c < 4294967296 ∧ Hid (T.length = n + m ∧ U32 T ∧ val T + pw (i + j) * c = val R + pw i * (gx ys i * val (xs.take j)) ∧ (∀ j, n + i ≤ j → gx T j = 0) ∧ Row wr' g 88 .u32 (mid Z o T) ∧ w.grownBy wr' (some g)))
        (fun _ jv _ => n - (intOf jv).toNat)
      case atStart =>
        obtain ⟨hl, hu, hv, h0, hr, hg⟩ := H.out
        exact ⟨0, 0, R, Nat.zero_le _, rfl, rfl, by decide, by decide, hl, hu, by simp [val], h0, hr, hg⟩
      case round =>
        obtain ⟨j, c, T, hj, rfl, rfl, hc0, hc1, HT⟩ := hrel
        by_cases hjn : j < n
        · obtain ⟨hl, hu, hv, h0, hr, hg⟩ := HT.out
          obtain ⟨b', off', rfl, hcell⟩ := (hX.keptOff hg (hoffx (by omega))) (by omega)
          have hcx := hcell j (by omega)
          have hct := hr.mid_cell (by omega) (i + j) (by omega)
          have hfz := hr.frozen (o + (i + j))
          obtain ⟨bt0, bt1⟩ := hu (i + j)
          obtain ⟨bm0, bm1⟩ := mul_bd (hYu i) (hXu j)
          obtain ⟨by0, by1⟩ := hYu i
          obtain ⟨bx0, bx1⟩ := hXu j
          rw [← Nat.add_assoc] at hct hfz
          clear hl hu hv h0 hr hg hcell
          go_wp2
          obtain ⟨hl, hu, hv, h0, hr, hg⟩ := HT.out
          refine ⟨⟨j + 1, _, T.set (i + j) ((gx ys i * gx xs j + gx T (i + j) + c) % 4294967296), by omega, by go_num, rfl, by omega, by omega, ?_⟩, by simp [intOf]; omega⟩
          refine ⟨by rw [List.length_set]; exact hl, u32_set hu _ (by omega), ?_, fun k hk => ?_, ?_, ?_⟩
          · rw [val_set T _ _ (by omega), val_take_succ xs j (by omega), ← Nat.add_assoc, pw_succ]
            have e := cut_step (pw (i + j)) (gx ys i * gx xs j + gx T (i + j) + c)
            have e2 : pw i * (gx ys i * (val (List.take j xs) + pw j * gx xs j)) = pw i * (gx ys i * val (List.take j xs)) + pw (i + j) * (gx ys i * gx xs j) := by
              rw [pw_add, Int.mul_add, Int.mul_add]
              congr 1
              simp only [Int.mul_assoc, Int.mul_left_comm]
            rw [e2]
            simp only [Int.mul_add, Int.mul_sub] at e ⊢
            omega
          · rw [gx_set_ne T _ _ _ (by omega)]; exact h0 k hk
          · rw [Nat.add_assoc]; exact hr.mid_set (by omega) (i + j) (by omega) _
          · exact grownBy_setCell hg _ _
        · have hjn' : j = n := by omega
          subst hjn'
          obtain ⟨hl, hu, hv, h0, hr, hg⟩ := HT.out
          have hct := hr.mid_cell (by omega) (i + j) (by omega)
          have hfz := hr.frozen (o + (i + j))
          clear hl hu hv h0 hr hg
          go_wp2
          obtain ⟨hl, hu, hv, h0, hr, hg⟩ := HT.out
          obtain ⟨rl, ru, rv, r0, rr, rg⟩ := H.out
          refine ⟨⟨i + 1, T.set (i + j) c, by omega, by go_num, ?_⟩, by simp [intOf]; omega⟩
          refine ⟨by rw [List.length_set]; exact hl, u32_set hu _ ⟨hc0, hc1⟩, ?_, fun k hk => ?_, hr.mid_set (by omega) (i + j) (by omega) _, grownBy_setCell hg _ _⟩
          · rw [val_set T _ _ (by omega), h0 (i + j) (by omega), Int.sub_zero, hv, rv, List.take_of_length_le (l := xs) (by omega), val_take_succ ys i (by omega)]
            rw [Int.mul_add]
            congr 1
            simp only [Int.mul_assoc, Int.mul_left_comm, Int.mul_comm]
          · rw [gx_set_ne T _ _ _ (by omega)]; exact h0 k (by omega)
    · have him : i = m := by omega
      subst him
      go_wp2
      go_end0
      obtain ⟨hl, hu, hv, h0, hr, hg⟩ := H.out
      rw [List.take_of_length_le (by omega)] at hv
      exact ⟨R, rfl, hl, hu, hv, hr, hg⟩
theorem multiply_small (g o cap : Nat) (Z : List Int) (p q : Option Addr) (n nc m mc : Nat) (xs ys : List Int) (w : World)
    (hz : o + (n + m) ≤ Z.length) (hcap : cap ≤ 1099511627776) (hn : n + m ≤ cap) (hR : Row w g 88 .u32 Z) (hZ : (Z.drop o).take (n + m) = zeros (n + m)) (hx : xs.length = n) (hy : ys.length = m)
    (hX : Rd w p .u32 xs) (hXu : U32 xs) (hY : Rd w q .u32 ys) (hYu : U32 ys) (hoffx : 0 < n → Off g p) (hoffy : 0 < m → Off g q) (h80 : n < 80 ∨ m < 80) :
    Calls Tryz.prog 270 #[.slice (some ⟨g, o, none⟩) (n + m) cap, .slice p n nc, .slice q m mc] w fun e w' => ∃ R, e = .returned (.tuple #[]) ∧ R.length = n + m ∧ U32 R ∧ val R = val xs * val ys ∧ Row w' g 88 .u32 (mid Z o R) ∧ w.grownBy w' (some g) := by
  by_cases hlt : n < m
  · have h1 : (n : Int) < m := by omega
    have h2 : (n : Int) < 80 := by omega
    go_enter Tryz.func270, Tryz.ntmps270
    go_wp2_with fail
    have hmr := multiplyRows_any g o cap Z q p m mc n nc ys xs w (by omega) hcap (by omega) hR (by rw [Nat.add_comm m n]; exact hZ) hy hx hY hYu hX hXu hoffy hoffx
    rw [Nat.add_comm m n] at hmr
    refine hmr.mono ?_
    rintro e w' ⟨R, rfl, r1, r2, r3, r4, r5⟩
    go_wp2
    go_end0
    exact ⟨R, rfl, r1, r2, by rw [r3, Int.mul_comm], r4, r5⟩
  · have h1 : ¬ (n : Int) < m := by omega
    have h2 : (m : Int) < 80 := by omega
    go_enter Tryz.func270, Tryz.ntmps270
    go_wp2_with fail
    refine (multiplyRows_any g o cap Z p q n nc m mc xs ys w hz hcap hn hR hZ hx hy hX hXu hY hYu hoffx hoffy).mono ?_
    rintro e w' ⟨R, rfl, r1, r2, r3, r4, r5⟩
    go_wp2
    go_end0
    exact ⟨R, rfl, r1, r2, r3, r4, r5⟩
theorem product_small (p q : Option Addr) (n nc m mc : Nat) (xs ys : List Int) (w : World) (hn : n ≤ 100000000) (hm : m ≤ 100000000) (hx : xs.length = n) (hy : ys.length = m)
    (hX : Rd w p .u32 xs) (hXu : U32 xs) (hY : Rd w q .u32 ys) (hYu : U32 ys) (h80 : n < 80 ∨ m < 80) :
    Calls Tryz.prog 197 #[.slice p n nc, .slice q m mc] w fun e w' => ∃ R, e = .returned (.slice (some ⟨w.heap.size, 0, none⟩) (n + m) (n + m)) ∧ R.length = n + m ∧ U32 R ∧ val R = val xs * val ys ∧ Row w' w.heap.size 88 .u32 R ∧ Below w.heap.size w w' := by
  have hmk := mk_u32 (n + m) (by omega)
  have ec : ((n + m : Nat) : Int) = (n : Int) + (m : Int) := by omega
  rw [ec] at hmk
  clear ec
  go_enter Tryz.func197, Tryz.ntmps197
  go_wp2_with fail
  refine (multiply_small w.heap.size 0 (n + m) (zeros (n + m)) p q n nc m mc xs ys _ (by rw [length_zeros]; omega) (by omega) (Nat.le_refl _) (Row.new w _ _ _) (by rw [List.drop_zero, List.take_of_length_le (by rw [length_zeros]; omega)]) hx hy (hX.alloc _) hXu (hY.alloc _) hYu (fun h => hX.off (Nat.le_refl _) (by omega)) (fun h => hY.off (Nat.le_refl _) (by omega)) h80).mono ?_
  rintro e w' ⟨R, rfl, r1, r2, r3, r4, r5⟩
  go_wp2
  go_ret
  rw [mid_zero _ _ (by rw [r1, length_zeros])] at r4
  exact ⟨R, rfl, r1, r2, r3, r4, below_grown ((Below.refl _ _).alloc (Nat.le_refl _) _) r5 (by simp) (Nat.le_refl _)⟩
theorem ival_mul (s t : Bool) (xs ys zs : List Int) (h : val zs = val xs * val ys) : ival (s != t) zs = ival s xs * ival t ys := by
  cases s <;> cases t <;> simp [ival, h, Int.neg_mul, Int.mul_neg]
theorem Mul_small (s t : Bool) (p q : Option Addr) (n nc m mc : Nat) (xs ys : List Int) (w : World) (hA : AI w p n nc xs) (hB : AI w q m mc ys) (h80 : n < 80 ∨ m < 80) :
    Calls Tryz.prog 115 #[.agg #[.bool s, .slice p n nc], .agg #[.bool t, .slice q m mc]] w fun e w' => ∃ s' p' n' zs, e = .returned (.agg #[.bool s', .slice p' n' n']) ∧ NI w.heap.size w' s' p' n' zs (ival s xs * ival t ys) ∧ n' ≤ n + m ∧ Below w.heap.size w w' := by
  have tx := tlen_le xs
  have ty := tlen_le ys
  have lx := hA.len
  have ly := hB.len
  have bx := hA.sml
  have by' := hB.sml
  go_enter Tryz.func115, Tryz.ntmps115
  go_wp2
  have hX := boxes3' w (.bool s) (.slice p n nc) (.bool t) (.slice q m mc) (.bool false) (.slice none 0 0) 26 26 26
  generalize ((w.alloc (Obj.cells #[Value.bool s, Value.slice p n nc] 26)).alloc (Obj.cells #[Value.bool t, Value.slice q m mc] 26)).alloc (Obj.cells #[Value.bool false, Value.slice none 0 0] 26) = W at *
  have hA' := hA.below hX.below
  have hB' := hB.below hX.below
  have k0 := hX.ca0
  have k1 := hX.ca1
  have k2 := hX.cb0
  have k3 := hX.cb1
  go_region_held3 (fun w' => w'.cell? ⟨w.heap.size, 0, none⟩ = some (.bool s) ∧ w'.cell? ⟨w.heap.size, 1, none⟩ = some (.slice p n nc) ∧ w'.cell? ⟨w.heap.size + 1, 0, none⟩ = some (.bool t) ∧ w'.cell? ⟨w.heap.size + 1, 1, none⟩ = some (.slice q m mc)) (first | (simp [go_sem, *]; done) | exact keepc4 (by assumption) (by assumption))
    (first
      | (go_at_call_of 131 (Value.slice p n nc); refine (trim_any p n nc xs _ hA.len hA.cap hA.bnd ?_).mono ?_; exact hA'.rd.drew; rintro e w' ⟨rfl, rfl⟩)
      | (go_at_call_of 131 (Value.slice q m mc); refine (trim_any q m mc ys _ hB.len hB.cap hB.bnd ?_).mono ?_; exact hB'.rd.drew; rintro e w' ⟨rfl, rfl⟩)
      | (go_at_call 197; refine (product_small p q (tlen xs) nc (tlen ys) mc (tr xs) (tr ys) _ (by omega) (by omega) (length_tr xs) (length_tr ys) ?_ (u32_tr hA.u) ?_ (u32_tr hB.u) (by omega)).mono ?_; exact hA'.tr.rd.drew; exact hB'.tr.rd.drew; rintro e w1 ⟨zs, rfl, z1, z2, z3, z4, hb1⟩)
      | (go_at_call 196; refine (number_any (s != t) (some ⟨W.heap.size, 0, none⟩) (tlen xs + tlen ys) (tlen xs + tlen ys) zs _ z1 (Nat.le_refl _) (by unfold maxLen; omega) ?_).mono ?_; exact z4.rd_all; rintro e w2 ⟨rfl, hb2⟩; obtain ⟨c0, c1, f0, f1⟩ := resbox ((undrew hb1).trans (hb2.mono (undrew hb1).size)) hX.cr0 hX.cr1 hX.fr0 hX.fr1))
  go_wp2
  have hsz := hX.size
  have hend := end_number (z := ival s xs * ival t ys) (sg := s != t) (u := .bool (nsg (s != t) zs)) (v := .slice (nad (some ⟨W.heap.size, 0, none⟩) zs) (tlen zs) (tlen zs)) hX.below (r := w.heap.size + 1 + 1) (by omega) (by omega) z4 z2 (undrew hb1) hb2 (by rw [val_tr, val_tr] at z3; exact ival_mul s t xs ys zs z3)
  refine bodyPost_ret (v := .agg #[.bool (nsg (s != t) zs), .slice (nad (some ⟨W.heap.size, 0, none⟩) zs) (tlen zs) (tlen zs)]) (by simp [results, Tryz.results115, go_sem, c0, c1]) rfl ⟨_, _, _, tr zs, rfl, hend.1, ?_, hend.2⟩
  have := tlen_le zs
  omega
end Go.Proofs.YtejnhpjejcpekaaGreatDoor
