/-
  A call that is found in a table of known calls answers what the table says, in whatever memory. (The runner with a table.)
-/
import Derived.Test.YtkbgeggflhfleaaGreatDoorG0H0
namespace Go.Proofs.YtkbgeggflhfleaaGreatDoor.Ev
open Go.RowKit
set_option maxHeartbeats 8000000
def EntOK (P : Program) (f : FuncId) (e : Ent) : Prop :=
  ∃ v1 s1 names, TaskOK P (.call f e.args) e.st (.call v1) s1 ∧ e.blks.length ≤ 1000000000 ∧ s1.wr = [] ∧ eqv3 (List.range e.blks.length ++ names) e.v v1 = true ∧
    blksOK s1.heap (List.range e.blks.length ++ names) e.news names = true ∧ apartN names = true ∧ ∀ n ∈ names, e.blks.length ≤ n
theorem rangeApp_lt {k : Nat} {names : List Nat} {i : Nat} (h : i < k) : (List.range k ++ names)[i]? = some i := by
  rw [List.getElem?_append_left (by simpa using h)]
  simp [h]
theorem rangeApp_ge {k : Nat} {names : List Nat} {i : Nat} (h : k ≤ i) : (List.range k ++ names)[i]? = names[i - k]? := by
  rw [List.getElem?_append_right (by simpa using h)]
  simp
theorem eqB_all {m : List Nat} {a b : Blk} (h : eqB m a b = true) : a.lp = none ∧ b.lp = none ∧ a.elem = b.elem ∧ a.more = b.more ∧ eqvL (eqv1 m) a.cells b.cells = true := by
  unfold eqB at h
  simp only [Bool.and_eq_true] at h
  obtain ⟨⟨⟨⟨h1, h2⟩, h3⟩, h4⟩, h5⟩ := h
  refine ⟨by simpa using h1, by simpa using h2, Nat.eq_of_beq_eq_true h3, ?_, h5⟩
  cases ha : a.more <;> cases hb : b.more <;> rw [ha, hb] at h4 <;> simp only [moreEq] at h4 <;> first | rfl | cases h4 | rw [Nat.eq_of_beq_eq_true h4]
theorem repB_in {m : List Nat} {σ ρ : Ren} {w : World} {i n : Nat} {a b : Blk} {p : Pl} {cs : Array Value} (hσ : ∀ i n, m[i]? = some n → σ i = ρ n) (hi : σ i = ρ n) (h : eqB m a b = true) (hr : RepB ρ w n b p cs) : RepB σ w i a p cs := by
  obtain ⟨_, _, h3, h4, h5⟩ := eqB_all h
  refine ⟨hi.trans hr.at_, by rw [h3]; exact hr.heap, fun j v hv => ?_, by rw [eqvL_len h5]; exact hr.fit, fun sz hs => hr.more sz (by rw [← h4]; exact hs)⟩
  obtain ⟨u, hu, he⟩ := eqvL_get h5 hv
  obtain ⟨x, hx, hv'⟩ := hr.val j u hu
  exact ⟨x, hx, (eqv1_same hσ he x).2 hv'⟩
theorem repB_out {m : List Nat} {σ ρ : Ren} {w : World} {i n : Nat} {a b : Blk} {p : Pl} {cs : Array Value} (hσ : ∀ i n, m[i]? = some n → σ i = ρ n) (hi : σ i = ρ n) (h : eqB m a b = true) (hr : RepB σ w i a p cs) : RepB ρ w n b p cs := by
  obtain ⟨_, _, h3, h4, h5⟩ := eqB_all h
  refine ⟨hi.symm.trans hr.at_, by rw [← h3]; exact hr.heap, fun j v hv => ?_, by rw [← eqvL_len h5]; exact hr.fit, fun sz hs => hr.more sz (by rw [h4]; exact hs)⟩
  obtain ⟨u, hu, he⟩ := eqvL_get' h5 hv
  obtain ⟨x, hx, hv'⟩ := hr.val j u hu
  exact ⟨x, hx, (eqv1_same hσ he x).1 hv'⟩
theorem repB_new {m : List Nat} {σ ρ : Ren} {g : Nat → Nat} {w : World} {i n : Nat} {a b : Blk} {p : Pl} {cs : Array Value} (hσ : ∀ i n, m[i]? = some n → σ (g i) = ρ n) (hi : σ i = ρ n) (h : eqB m a b = true) (hr : RepB ρ w n b p cs) : RepB σ w i (renB g a) p cs := by
  obtain ⟨_, _, h3, h4, h5⟩ := eqB_all h
  refine ⟨hi.trans hr.at_, by show _ = some (Obj.cells cs a.elem (0, 0)); rw [h3]; exact hr.heap, fun j v hv => ?_, by show p.base + (a.cells.map (ren1 g)).length ≤ _; rw [List.length_map, eqvL_len h5]; exact hr.fit, fun sz hs => hr.more sz (by rw [← h4]; exact hs)⟩
  have hv : (a.cells.map (ren1 g))[j]? = some v := hv
  rw [List.getElem?_map] at hv
  cases hc : a.cells[j]? with
  | none => rw [hc] at hv; cases hv
  | some c =>
    rw [hc] at hv
    cases hv
    obtain ⟨u, hu, he⟩ := eqvL_get h5 hc
    obtain ⟨x, hx, hv'⟩ := hr.val j u hu
    exact ⟨x, hx, (eqv1_ren hσ he x).2 hv'⟩
section
variable {P : Program}
theorem ent_ok {f : FuncId} {e : Ent} (he : EntOK P f e) {m : List Nat} {args : List LV} {s : St} (hw : WF s) (h : fits e m args s = true) : TaskOK P (.call f args) s (e.ans m s).1 (e.ans m s).2 := by
  obtain ⟨v1, s1, names, ⟨hm1, hc1⟩, hk, hwr, hv, hnb, hna, hng⟩ := he
  unfold fits at h
  simp only [Bool.and_eq_true] at h
  obtain ⟨ha, hb, hap, hnx⟩ := h
  have hnx := Nat.le_of_ble_eq_true hnx
  have hkm := blksOK_len hb
  have hnl := blksOK_len hnb
  have hw1 : WF s1 := hm1.wf (st_wf e hk)
  -- the blocks at the site
  have hblk : ∀ {i : Nat} {b : Blk}, e.blks[i]? = some b → ∃ n c, m[i]? = some n ∧ s.heap.get n = some c ∧ eqB m b c = true := fun hi => blksOK_get hb hi
  have hmb : ∀ {i n : Nat}, m[i]? = some n → ∃ b c, e.blks[i]? = some b ∧ s.heap.get n = some c ∧ eqB m b c = true := by
    intro i n hi
    obtain ⟨b, hbi⟩ := getE_some (l := e.blks) (i := i) (by rw [hkm]; exact getE_lt hi)
    obtain ⟨n', c, h1, h2, h3⟩ := hblk hbi
    rw [hi] at h1; cases h1
    exact ⟨b, c, hbi, h2, h3⟩
  have hml : ∀ {i n : Nat}, m[i]? = some n → Live s.heap n := by
    intro i n hi
    obtain ⟨b, c, _, h2, _⟩ := hmb hi
    unfold Live; rw [h2]; exact fun h => by cases h
  have hmlt : ∀ {i n : Nat}, m[i]? = some n → n < s.next := fun hi => live_lt hw (hml hi)
  -- the new state
  generalize hg : siteG e.blks.length s.next m = g
  have hg1 : ∀ {i n : Nat}, m[i]? = some n → g i = n := fun {i n} hi => by rw [← hg]; exact siteG_old (by rw [hkm]; exact getE_lt hi) hi
  have hg2 : ∀ {i : Nat}, e.blks.length ≤ i → g i = s.next + (i - e.blks.length) := fun {i} hi => by rw [← hg]; exact siteG_new hi
  have hans : e.ans m s = (.call (ren3 g e.v), addL g e.news (touchL m s)) := by unfold Ent.ans; rw [hg]
  rw [hans]
  have hadd := addL_all g e.news (touchL m s) (by rw [touchL_next]; exact hnx)
  generalize addL g e.news (touchL m s) = s' at hadd
  rw [touchL_next, touchL_thr, touchL_heap] at hadd
  obtain ⟨hn', ht', hf', hw', hh'⟩ := hadd
  have hold : ∀ n, n < s.next → s'.heap.get n = s.heap.get n := fun n hn => by rw [hh' n, if_neg (by omega)]
  have hout : ∀ n, s.next + e.news.length ≤ n → s'.heap.get n = none := fun n hn => by rw [hh' n, if_neg (by omega)]; exact hw.none n (by omega)
  have hnew : ∀ j : Nat, j < e.news.length → s'.heap.get (s.next + j) = (e.news[j]?).map (renB g) := fun j hj => by rw [hh' _, if_pos (by omega), Nat.add_sub_cancel_left]
  have hmt := mono_touchL m s
  have hmono : Mono s s' := by
    refine ⟨ht', by omega, fun n hn => by rw [hf']; exact hmt.fp n hn, fun n hn => by rw [hw']; exact hmt.wr n hn, fun n h1 _ _ => hold n h1, fun n h1 h2 => by rw [hold n h1]; exact h2, fun _ => ⟨fun n hn => hout n (by omega), by omega, by rw [ht']; have := hw.thr; omega⟩, fun h1 => ?_, fun h1 => ?_⟩
    · rw [hw', hf']; exact hmt.wrfp h1
    · rw [hf', ht', ← touchL_thr m s]; exact hmt.low h1
  refine ⟨hmono, ?_⟩
  intro G ρ w xs hG hr hfr hx
  -- what is let in
  have hGm : ∀ {i n : Nat}, m[i]? = some n → G n := by
    intro i n hi
    rcases Nat.lt_or_ge n s.thr with h1 | h1
    · exact hG.fp n (by rw [hf']; exact touchL_in m s n (List.mem_of_getElem? hi) h1)
    · exact hG.own n (by rw [ht']; exact h1) (by show n < s'.next; have := hmlt hi; omega)
  let ρ1 : Ren := fun i => (m[i]?).bind ρ
  have hρ1 : ∀ i n : Nat, m[i]? = some n → ρ1 i = ρ n := fun i n hi => by show (m[i]?).bind ρ = _; rw [hi]; rfl
  have hρ1n : ∀ i, e.blks.length ≤ i → ρ1 i = none := fun i hi => by show (m[i]?).bind ρ = _; rw [List.getElem?_eq_none (by omega)]; rfl
  have hr1 : RepOn (fun _ => True) ρ1 e.st.heap w := by
    refine ⟨fun i b _ hi => ?_, fun i j _ _ hi hj hij p q hp hq => ?_, hr.tz, fun i p _ hi hp => ?_⟩
    · rw [st_get e hk] at hi
      obtain ⟨n, c, h1, h2, h3⟩ := hblk hi
      obtain ⟨q1, q2, _⟩ := eqB_all h3
      obtain ⟨p, cs, hB⟩ := (hr.rep n c (hGm h1) h2).cells q2
      exact RepA.ofB q1 (repB_in hρ1 (hρ1 i n h1) h3 hB)
    · cases hmi : m[i]? with
      | none => have : ρ1 i = none := by (show (m[i]?).bind ρ = _); rw [hmi]; rfl
                rw [this] at hp; cases hp
      | some a =>
        cases hmj : m[j]? with
        | none => have : ρ1 j = none := by (show (m[j]?).bind ρ = _); rw [hmj]; rfl
                  rw [this] at hq; cases hq
        | some b =>
          rw [hρ1 i a hmi] at hp
          rw [hρ1 j b hmj] at hq
          exact hr.sep a b (hGm hmi) (hGm hmj) (hml hmi) (hml hmj) (fun hab => hij (by subst hab; exact apartN_inj hap hmi hmj)) p q hp hq
    · cases hmi : m[i]? with
      | none => have : ρ1 i = none := by (show (m[i]?).bind ρ = _); rw [hmi]; rfl
                rw [this] at hp; cases hp
      | some a =>
        rw [hρ1 i a hmi] at hp
        exact hr.off a p (hGm hmi) (hml hmi) hp
  refine (hc1 (fun _ => True) ρ1 w xs ⟨fun _ _ => trivial, fun _ _ _ => trivial⟩ hr1 (fun n h1 _ => hρ1n n h1) ((eqvA_same hρ1 ha _).2 hx)).mono ?_
  rintro e1 w' ⟨ρ1', x, rfl, hvx, hE⟩
  have hst : ∀ i : Nat, i < e.blks.length → s1.heap.get i = e.blks[i]? := fun i hi => by
    rw [hm1.same i hi hi (by rw [hwr]; exact fun h => by cases h), st_get e hk]
  have hlive1 : ∀ i, i < e.blks.length → Live s1.heap i := fun i hi => by
    obtain ⟨b, hb⟩ := getE_some hi
    unfold Live; rw [hst i hi, hb]; exact fun h => by cases h
  have hρ1' : ∀ i, i < e.blks.length → ρ1' i = ρ1 i := fun i hi => hE.out i (.inl hi)
  have hnm : ∀ {j n : Nat}, names[j]? = some n → ∃ b c, e.news[j]? = some b ∧ s1.heap.get n = some c ∧ eqB (List.range e.blks.length ++ names) b c = true := by
    intro j n hj
    obtain ⟨b, hbj⟩ := getE_some (l := e.news) (i := j) (by rw [hnl]; exact getE_lt hj)
    obtain ⟨n', c, h1, h2, h3⟩ := blksOK_get hnb hbj
    rw [hj] at h1; cases h1
    exact ⟨b, c, hbj, h2, h3⟩
  have hnlive : ∀ {j n : Nat}, names[j]? = some n → Live s1.heap n := by
    intro j n hj
    obtain ⟨b, c, _, h2, _⟩ := hnm hj
    unfold Live; rw [h2]; exact fun h => by cases h
  let ρ' : Ren := fun n => if s.next ≤ n ∧ n < s'.next then (names[n - s.next]?).bind ρ1' else ρ n
  have hρo : ∀ n, (n < s.next ∨ s'.next ≤ n) → ρ' n = ρ n := fun n hn => if_neg (by omega)
  have hρn : ∀ j n : Nat, names[j]? = some n → ρ' (s.next + j) = ρ1' n := fun j n hj => by
    have hl := getE_lt hj
    show (if s.next ≤ s.next + j ∧ s.next + j < s'.next then (names[s.next + j - s.next]?).bind ρ1' else ρ (s.next + j)) = _
    rw [if_pos (by omega), Nat.add_sub_cancel_left, hj]; rfl
  have hle : ρ.le ρ' := by
    intro n p hp
    by_cases h : s.next ≤ n ∧ n < s'.next
    · rw [hfr n h.1 h.2] at hp; cases hp
    · rw [hρo n (by omega)]; exact hp
  have hσ : ∀ i n : Nat, (List.range e.blks.length ++ names)[i]? = some n → ρ' (g i) = ρ1' n := by
    intro i n hi
    rcases Nat.lt_or_ge i e.blks.length with h1 | h1
    · rw [rangeApp_lt h1] at hi
      cases hi
      obtain ⟨b, hb⟩ := getE_some (l := m) (i := i) (by omega)
      rw [hg1 hb, hρo b (.inl (hmlt hb)), hρ1' i h1, hρ1 i b hb]
    · rw [rangeApp_ge h1] at hi
      rw [hg2 h1]
      exact hρn _ _ hi
  -- what is new lies off what was there
  have hfresh : ∀ {j n : Nat} {p : Pl}, names[j]? = some n → ρ1' n = some p → w.heap.size ≤ p.blk := by
    intro j n p hj hp
    have hge : e.blks.length ≤ n := hng n (List.mem_of_getElem? hj)
    rcases hE.fresh n p hge (live_lt hw1 (hnlive hj)) (hnlive hj) hp with h1 | ⟨i, q, _, hi, _, hq, hqp⟩
    · exact h1
    · have hi : i < e.blks.length := hi
      exact absurd hqp (hE.rep.sep i n trivial trivial (hlive1 i hi) (hnlive hj) (by omega) q p (by rw [hρ1' i hi]; exact hq) hp)
  have hnewR : ∀ n b, s.next ≤ n → s'.heap.get n = some b → ∃ j n1 : Nat, n = s.next + j ∧ names[j]? = some n1 ∧ ρ' n = ρ1' n1 ∧ RepA ρ' w' n b := by
    intro n b h1 h2
    have hlt : n < s.next + e.news.length := by
      rcases Nat.lt_or_ge n (s.next + e.news.length) with h | h
      · exact h
      · rw [hout n h] at h2; cases h2
    obtain ⟨j, rfl⟩ : ∃ j, n = s.next + j := ⟨n - s.next, by omega⟩
    obtain ⟨n1, hn1⟩ := getE_some (l := names) (i := j) (by omega)
    obtain ⟨nb, c, q1, q2, q3⟩ := hnm hn1
    rw [hnew j (by omega), q1] at h2
    cases h2
    obtain ⟨p, cs, hB⟩ := (hE.rep.rep n1 c trivial q2).cells (eqB_all q3).2.1
    exact ⟨j, n1, rfl, hn1, hρn j n1 hn1, RepA.ofB rfl (repB_new hσ (hρn j n1 hn1) q3 hB)⟩
  refine ⟨ρ', x, rfl, (eqv3_ren hσ hv x).2 hvx, ⟨hρo, ⟨fun n b hGn hgn => ?_, fun n n' hGn hGn' hl hl' hne p q hp hq => ?_, hE.rep.tz, fun n p hGn hl hp e => ?_⟩, fun b hbl hb => ?_, hE.size, hE.os, hE.tape, hE.output, fun n p h1 h2 hl hp => ?_⟩⟩
  · rcases Nat.lt_or_ge n s.next with h1 | h1
    · rw [hold n h1] at hgn
      have hR := hr.rep n b hGn hgn
      by_cases hin : ∃ i : Nat, m[i]? = some n
      · obtain ⟨i, hi⟩ := hin
        obtain ⟨eb, c, q1, q2, q3⟩ := hmb hi
        rw [hgn] at q2; cases q2
        have hik := getE_lt q1
        obtain ⟨p, cs, hB⟩ := (hE.rep.rep i eb trivial (by rw [hst i hik]; exact q1)).cells (eqB_all q3).1
        refine RepA.ofB (eqB_all q3).2.1 (repB_out (σ := ρ1') (fun i' n' hi' => ?_) ?_ q3 hB)
        · rw [hρ1' i' (by rw [hkm]; exact getE_lt hi'), hρ1 i' n' hi', hρo n' (.inl (hmlt hi'))]
        · rw [hρ1' i hik, hρ1 i n hi, hρo n (.inl h1)]
      · refine hR.keep hle fun p hp => hE.frame p.blk (hR.lt hp) fun i q _ _ hq => ?_
        cases hmi : m[i]? with
        | none => have : ρ1 i = none := by (show (m[i]?).bind ρ = _); rw [hmi]; rfl
                  rw [this] at hq; cases hq
        | some a =>
          rw [hρ1 i a hmi] at hq
          refine hr.sep a n (hGm hmi) hGn (hml hmi) ?_ (fun h => hin ⟨i, by rw [hmi, h]⟩) q p hq hp
          unfold Live; rw [hgn]; exact fun h => by cases h
    · obtain ⟨j, n1, _, _, _, h⟩ := hnewR n b h1 hgn
      exact h
  · obtain ⟨b, hb⟩ := live_get hl
    obtain ⟨b', hb'⟩ := live_get hl'
    have old_lt : ∀ {n : Nat} {b : Blk} {p : Pl}, G n → n < s.next → s'.heap.get n = some b → ρ' n = some p → p.blk < w.heap.size := by
      intro n b p hGn h1 h2 h3
      rw [hold n h1] at h2
      rw [hρo n (.inl h1)] at h3
      exact (hr.rep n b hGn h2).lt h3
    have new_ge : ∀ {n : Nat} {b : Blk} {p : Pl}, s.next ≤ n → s'.heap.get n = some b → ρ' n = some p → w.heap.size ≤ p.blk := by
      intro n b p h1 h2 h3
      obtain ⟨j, n1, _, q2, q3, _⟩ := hnewR n b h1 h2
      rw [q3] at h3
      exact hfresh q2 h3
    rcases Nat.lt_or_ge n s.next with h1 | h1 <;> rcases Nat.lt_or_ge n' s.next with h2 | h2
    · refine hr.sep n n' hGn hGn' ?_ ?_ hne p q ?_ ?_
      · unfold Live; rw [← hold n h1, hb]; exact fun h => by cases h
      · unfold Live; rw [← hold n' h2, hb']; exact fun h => by cases h
      · rw [← hρo n (.inl h1)]; exact hp
      · rw [← hρo n' (.inl h2)]; exact hq
    · have := old_lt hGn h1 hb hp
      have := new_ge h2 hb' hq
      omega
    · have := old_lt hGn' h2 hb' hq
      have := new_ge h1 hb hp
      omega
    · obtain ⟨j, n1, e1, q2, q3, _⟩ := hnewR n b h1 hb
      obtain ⟨j', n1', e1', q2', q3', _⟩ := hnewR n' b' h2 hb'
      rw [q3] at hp
      rw [q3'] at hq
      refine hE.rep.sep n1 n1' trivial trivial (hnlive q2) (hnlive q2') (fun h => hne ?_) p q hp hq
      subst h
      have := apartN_inj hna q2 q2'
      omega
  · obtain ⟨b, hb⟩ := live_get hl
    rcases Nat.lt_or_ge n s.next with h1 | h1
    · refine hr.off n p hGn ?_ (by rw [← hρo n (.inl h1)]; exact hp) e
      unfold Live; rw [← hold n h1, hb]; exact fun h => by cases h
    · obtain ⟨j, n1, _, q2, q3, _⟩ := hnewR n b h1 hb
      rw [q3] at hp
      have h2 := hfresh q2 hp
      have h3 := hr.tz.lt e
      omega
  · refine hE.frame b hbl fun i q _ _ hq => ?_
    cases hmi : m[i]? with
    | none => have : ρ1 i = none := by (show (m[i]?).bind ρ = _); rw [hmi]; rfl
              rw [this] at hq; cases hq
    | some a =>
      rw [hρ1 i a hmi] at hq
      exact hb a q (hGm hmi) (hml hmi) hq
  · obtain ⟨b, hb⟩ := live_get hl
    obtain ⟨j, n1, _, q2, q3, _⟩ := hnewR n b h1 hb
    rw [q3] at hp
    exact .inl (hfresh q2 hp)
end
end Go.Proofs.YtkbgeggflhfleaaGreatDoor.Ev
