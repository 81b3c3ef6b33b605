/- Own. -/
import Derived.Test.YtfnkomoickanfaaGreatDoorG6
set_option linter.unusedVariables false
set_option linter.unusedSimpArgs false
set_option maxHeartbeats 8000000
set_option maxRecDepth 100000
namespace Go.Proofs.YtfnkomoickanfaaGreatDoor.Ev
open Go.RowKit
section
variable {P:Program} {rec:Task→St→Option (Ans×St)}
theorem uN(thr:Nat):∀(l acc:List Nat) (n:Nat),n∈l.foldl (fun l n=>cond (n.blt thr && !l.contains n) (n::l) l) acc↔n∈acc∨(n∈l∧n<thr)
 | [],acc,n=>by simp
 |x::xs,acc,n=>by
  simp only[List.foldl_cons]
  rw[uN thr xs]
  have hx:n∈cond (x.blt thr && !acc.contains x) (x::acc) acc↔n∈acc∨(n=x∧x<thr):=by
   cases h1:x.blt thr with
   |false=>
    have:¬x<thr:=fun h=>by
     have:x.blt thr=true:=by simpa [Nat.blt_eq] using h
     rw[h1] at this;cases this
    simp[this]
   |true=>
    have hlt:x<thr:=Nat.le_of_ble_eq_true h1
    cases h2:acc.contains x with
    |false=>simp[hlt];exact Or.comm
    |true=>
     have hm:x∈acc:=by simpa using h2
     simp only[Bool.not_true,Bool.and_false,cond_false]
     constructor
     ·exact .inl
     ·rintro(h|⟨rfl,_⟩)
      ·exact h
      ·exact hm
  rw[hx]
  constructor
  ·rintro((h|⟨rfl,h⟩)|⟨h,h'⟩)
   ·exact .inl h
   ·exact .inr ⟨by simp,h⟩
   ·exact .inr ⟨by simp[h],h'⟩
  ·rintro(h|⟨h,h'⟩)
   ·exact .inl (.inl h)
   ·rcases List.mem_cons.1 h with rfl|h
    ·exact .inl (.inr ⟨rfl,h'⟩)
    ·exact .inr ⟨h,h'⟩
theorem nh(thr:Nat)(f:Met→List Nat):∀(ms:List Met) (acc:List Nat) (n:Nat),n∈ms.foldl (fun l m=>(f m).foldl (fun l n=>cond (n.blt thr && !l.contains n) (n::l) l) l) acc↔n∈acc∨∃m∈ms,n∈f m∧n<thr
 | [],acc,n=>by simp
 |x::xs,acc,n=>by
  simp only[List.foldl_cons]
  rw[nh thr f xs,uN]
  constructor
  ·rintro((h|h)|⟨m,h1,h2⟩)
   ·exact .inl h
   ·exact .inr ⟨x,by simp,h⟩
   ·exact .inr ⟨m,by simp[h1],h2⟩
  ·rintro(h|⟨m,h1,h2⟩)
   ·exact .inl (.inl h)
   ·rcases List.mem_cons.1 h1 with rfl|h1
    ·exact .inl (.inr h2)
    ·exact .inr ⟨m,h1,h2⟩
theorem xp(hg:Good P rec)(hng:cT P)(hmix:P.follows .mixedOrders=true){id:Nat}{ops:Array Oper}{fr fr':Fr}{s s1:St}{ms:List Met}(hw:WF s)(hok:oa ops (di ops.toList [])=true)
  (h:eW P rec ops ops.toList (di ops.toList []) 0 [] fr s=some (fr',s1,ms)):
  ar s (s1.back s.thr s.fp s.wr ms)∧fr'.rnd=fr.rnd∧rD P (.region id ops true) fr s .normal fr' (s1.back s.thr s.fp s.wr ms):=by
 obtain⟨S,R,T,rfl,rfl,rfl,rfl,hmem,hback⟩:=DN hok h
 have A:=DH hg hng T hw
 have bfp:∀n,n∈((S ops.size).back (S 0).thr (S 0).fp (S 0).wr ms).fp↔n∈(S 0).fp∨∃j,j<ops.size∧n∈(S (j+1)).fp∧n<(S 0).thr:=fun n=>by
  unfold St.back
  dsimp only
  rw[nh (S 0).thr (·.fp)]
  constructor
  ·rintro(h|⟨m,h1,h2,h3⟩)
   ·exact .inl h
   ·obtain⟨j,hj,rfl⟩:=hback m h1
    exact .inr ⟨j,hj,h2,h3⟩
  ·rintro(h|⟨j,hj,h2,h3⟩)
   ·exact .inl h
   ·exact .inr ⟨_,hmem j hj,h2,h3⟩
 have bwr:∀n,n∈((S ops.size).back (S 0).thr (S 0).fp (S 0).wr ms).wr↔n∈(S 0).wr∨∃j,j<ops.size∧n∈(S (j+1)).wr∧n<(S 0).thr:=fun n=>by
  unfold St.back
  dsimp only
  rw[nh (S 0).thr (·.wr)]
  constructor
  ·rintro(h|⟨m,h1,h2,h3⟩)
   ·exact .inl h
   ·obtain⟨j,hj,rfl⟩:=hback m h1
    exact .inr ⟨j,hj,h2,h3⟩
  ·rintro(h|⟨j,hj,h2,h3⟩)
   ·exact .inl h
   ·exact .inr ⟨_,hmem j hj,h2,h3⟩
 have hmono:ar (S 0) ((S ops.size).back (S 0).thr (S 0).fp (S 0).wr ms):=by
  refine⟨rfl,A.next (Nat.zero_le _) (Nat.le_refl _),fun n hn=>(bfp n).2 (.inl hn),fun n hn=>(bwr n).2 (.inl hn),fun n h1 h2 h3=>?_,fun n h1 h2=>A.dead h1 h2 (Nat.le_refl _),fun _=>⟨(A.wf _ (Nat.le_refl _)).none,(A.wf _ (Nat.le_refl _)).lt,Nat.le_trans hw.thr (A.next (Nat.zero_le _) (Nat.le_refl _))⟩,fun hq n hn=>?_,fun hq n hn=>?_⟩
  ·have:∀i,i≤ops.size→(S i).heap.get n=(S 0).heap.get n:=by
    intro i
    induction i with
    |zero=>exact fun _=>rfl
    |succ i ih=>
     intro hi
     rw[A.same (by omega) ?_,ih (by omega)]
     rintro(ht|ht)
     ·exact h3 ((bwr n).2 (.inr ⟨i,by omega,ht,h2⟩))
     ·have:=A.next (Nat.zero_le i) (by omega);omega
   exact this _ (Nat.le_refl _)
  ·rcases(bwr n).1 hn with h1|⟨j,hj,h1,h2⟩
   ·exact(bfp n).2 (.inl (hq n h1))
   ·exact(bfp n).2 (.inr ⟨j,hj,A.Bw j hj n h1,h2⟩)
  ·rcases(bfp n).1 hn with h1|⟨j,hj,h1,h2⟩
   ·exact hq n h1
   ·exact h2
 refine⟨hmono,(A.mks _ (Nat.le_refl _)).2,fun ro G ρ0 w0 a0 Q _ hG hr hf ht hQ=>?_⟩
 have hn:(R 0).nt<1000000000:=ht.room
 have hthr:=hw.thr
 have hGf:∀i,i<ops.size→∀m∈(S (i+1)).fp,G m:=fun i hi m hm=>by
  rcases Nat.lt_or_ge m (S 0).thr with h1|h1
  ·exact hG.fp m ((bfp m).2 (.inr ⟨i,hi,hm,h1⟩))
  ·exact hG.own m h1 (Nat.lt_of_lt_of_le (A.Bg i hi m hm) (A.next (by omega) (Nat.le_refl _)))
 have hGo:∀i,i<ops.size→∀m,(S i).next≤m→m<(S (i+1)).next→G m:=fun i hi m h1 h2=>by
  have e1:=A.next (Nat.zero_le i) (by omega)
  exact hG.own m (show(S 0).thr≤m by omega) (Nat.lt_of_lt_of_le h2 (A.next (by omega) (Nat.le_refl _)))
 have hf0:∀m,(S 0).next≤m→m<(S ops.size).next→ρ0 m=none:=fun m h1 h2=>hf m h1 h2
 show(Code.region id ops true).wpIn (Fw ro) 0 P Q a0 w0
 refine wpIn_region_any hmix (uE (fun listed a w=>∃ρ,zB ops S R G ρ0 w0 listed a w ρ) T.ahead ?_ (fun listed a w ⟨ρ,I⟩=>I.size) ?_ _ _ _ _ (by simp) ⟨ρ0,?_⟩)
 ·rintro listed a w ⟨ρ,I⟩ hall
  have hH:∀m,Hd S (fun i=>listed.getD i false) ops.size m=(S ops.size).heap.get m:=A.all (Nat.le_refl _) (fun j hj=>hall j hj)
  have hT:∀t,Td R ops (fun i=>listed.getD i false) ops.size t=(R ops.size).get t:=CR T A hn (Nat.le_refl _) (fun j hj=>hall j hj)
  refine hQ ρ w a ⟨fun m hm=>?_,⟨fun m b hGm hb=>I.rep m b hGm (by rw[hH];exact hb),fun m k hGm hGk hlm hlk hne=>I.sep m k hGm hGk (by rw[hH];exact hlm) (by rw[hH];exact hlk) hne,I.tz,fun m p hGm hl hp=>I.off m p hGm (by rw[hH];exact hl) hp⟩,I.frame,I.rA,I.os,I.tape,I.output,fun m p h1 h2 hl hp=>I.fresh m p h1 (by rw[hH];exact hl) hp⟩ ⟨by rw[I.tsz,A.nt _ (Nat.le_refl _)],fun t=>by rw[←hT];exact I.tm t,by rw[A.nt _ (Nat.le_refl _)];exact hn,by rw[(A.mks _ (Nat.le_refl _)).1];exact I.dfs⟩
  refine I.out m fun i hi _ hoi=>?_
  have e1:=A.next (Nat.zero_le i) (by omega)
  have e2:=A.next (i:=i+1) (by omega) (Nat.le_refl _)
  rcases hm with hm|hm
  ·omega
  ·have hm':(S ops.size).next≤m:=hm
   omega
 ·rintro listed a w ⟨ρ,I⟩ i o ho hi hr'
  have his:i<ops.size:=(Array.getElem?_eq_some_iff.1 ho).1
  exact Aj hg hng T A hn I ho hi hr' (hGf i his) (hGo i his) hf0 fun ρ' a' w' I'=>⟨ρ',I'⟩
 ·have hl0:∀i,(Array.replicate ops.size false).getD i false=false:=fun i=>by
   rw[Array.getD_eq_getD_getElem?,Array.getElem?_replicate]
   split<;>rfl
  have hH:∀k m,Hd S (fun i=>(Array.replicate ops.size false).getD i false) k m=(S 0).heap.get m:=by
   intro k
   induction k with
   |zero=>intro m;rfl
   |succ k ih=>intro m;simp only[Hd];rw[if_neg (fun e=>by rw[hl0] at e;cases e.1)];exact ih m
  have hT:∀k t,Td R ops (fun i=>(Array.replicate ops.size false).getD i false) k t=(R 0).get t:=by
   intro k
   induction k with
   |zero=>intro m;rfl
   |succ k ih=>intro m;simp only[Td];rw[if_neg (fun e=>by rw[hl0] at e;cases e.1)];exact ih m
  refine⟨by simp,fun i o hi=>(by have hi':(Array.replicate ops.size false).getD i false=true:=hi;rw[hl0] at hi';cases hi'),fun m _=>rfl,fun m b hGm hb=>?_,fun m k hGm hGk hlm hlk hne=>?_,ht.size,fun t=>by rw[hT];exact ht.val t,ht.dfs,fun b hb _=>rfl,Nat.le_refl _,rfl,rfl,rfl,fun m p h1 hl hp=>?_,hr.tz,fun m p hGm hl hp=>hr.off m p hGm (by rw[hH] at hl;exact hl) hp⟩
  ·rw[hH] at hb
   exact(hr.rep m b hGm hb).dm (fun _ _ h=>h) fun _ _=>rfl
  ·rw[hH] at hlm hlk
   exact hr.sep m k hGm hGk hlm hlk hne
  ·rw[hH,hw.none m h1] at hl
   exact absurd rfl hl
theorem tE(hg:Good P rec)(hng:cT P)(hmix:P.follows .mixedOrders=true){id:Nat}{ops:Array Oper}{draw:Bool}{fr:Fr}{s s':St}{r:Ans}(hw:WF s)(h:je P rec ops draw fr s=some (r,s')):ir P (.code (.region id ops draw) fr) s r s':=by
 unfold je at h
 cases draw with
 |true=>
  simp only[cond_true] at h
  obtain⟨hok,h⟩:=an h
  split at h
  ·rename_i fr' s1 ms hd
   cases h
   exact xp hg hng hmix hw hok hd
  ·cases h
 |false=>
  simp only[cond_false,oK] at h
  split at h
  ·rename_i fr' s1 hd
   cases h
   obtain⟨hm,hn,hk⟩:=qH hg hng _ 0 _ _ _ _ (by simp) hw hd
   refine⟨hm,hn,fun ro G ρ w a Q hro hG hr hf ht hQ=>?_⟩
   show(Code.region id ops false).wpIn (Fw ro) 0 P Q a w
   refine wpIn_region ?_
   have:=hk ro G ρ w a Q hG hr hf ht hQ
   rw[List.range_eq_range']
   simpa using this
  ·split at h
   ·rename_i fr' s1 hd
    cases h
    obtain⟨hm,hn,hk⟩:=kD hg hng _ 0 _ _ _ _ (by simp) hw hd
    refine⟨hm,hn,fun ro G ρ w a Q hro hG hr hf ht hQ=>?_⟩
    show(Code.region id ops false).wpIn (Fw ro) 0 P Q a w
    refine wpIn_region ?_
    have:=hk ro G ρ w a Q hro hG hr hf ht hQ
    rw[List.range_eq_range']
    simpa using this
   ·cases h
theorem ux(hg:Good P rec)(hng:cT P){g:Operand}{ps:Array Tmp}{assign body:Code}{fr:Fr}{s s':St}{r:Ans}(hw:WF s)(h:kE P rec g ps.toList assign body fr s=some (r,s')):ir P (.code (.rangeFunc g ps assign body) fr) s r s':=by
 unfold kE at h
 split at h
 ·rename_i gf cap hrnd hgv
  split at h
  ·cases h
  ·rename_i x0 hent
   split at h
   ·rename_i d s1 hd
    split at h
    ·rename_i n s2 hn
     split at h
     ·rename_i v s3 hcall
      split at h
      ·rename_i rr hlp
       have hmd:=aS hd
       have hmn:=aS hn
       have hw2:=hmn.wf (hmd.wf hw)
       obtain⟨hm3,hc⟩:=hg _ _ _ _ hw2 hcall
       have hw3:=hm3.wf hw2
       have hlive:=jd hlp
       have hlt:=bR hw3 hlive
       have hm4:ar s3 (s3.set n none):=dQ none (Nat.lt_of_lt_of_le hlt hw3.lt) hlive hlt
       have hmall:=hmd.trans (hmn.trans (hm3.trans hm4))
       obtain⟨hdn,_,hs1⟩:=jQ hd
       obtain⟨hnn,_,hs2⟩:=jQ hn
       have hnx:n=s.next+1:=by rw[hnn,hs1]
       have main:∀(e:Ex),(rr.st=.ready∧e=.normal)∨rr.st=.done e→rD P (.rangeFunc g ps assign body) fr s e {fr with marks:=.mark d::fr.marks} (s3.set n none):=by
        intro e he ro G ρ w a Q hro hG hr hf ht hQ
        have hro':=hro hrnd
        subst hro'
        have hev:=aH ht hgv
        generalize hge:a.eval g=gv at hev
        have hcf:∀xs w,(callFunc gf xs).run P w=.ok (.enter gf xs) w:=(gF hng (r:=x0.1) (s':=x0.2) hent).2.2
        cases hev
        rename_i x1 y h1 h2
        cases h1
        have hG3:=hG.back hm4
        have hG2:=hG3.back hm3
        have hf2:aK ρ s s2:=hf.left (hm3.trans hm4)
        have e1:Ext G s s1 ρ (ρ.upd d ⟨w.heap.size,0,0⟩) w (w.alloc (.deferred (some []))):=m_ (cap:=0) hd hr (hf2.left hmn) rfl rfl rfl rfl ⟨fun e=>(by cases e),fun x hx=>by
         cases hx
         exact⟨⟨w.heap.size,0,0⟩,by simp[Ren.upd],World.alloc_heap_new w (.deferred (some []))⟩⟩
        have hf3:=hf2.right hmd e1
        refine wpIn_rangeFunc fun fn hfn=>?_
        obtain⟨L0,hL0⟩:∃L0:Loop,L0={state:=.ready,pending:=none,fn,tmps:=a.tmps,params:=ps,assign,body,defers:=w.heap.size}:=⟨_,rfl⟩
        have hle1:=e1.le (hf2.left hmn)
        have hsz1:(w.alloc (.deferred (some []))).heap.size=w.heap.size+1:=by simp
        have e2:Ext G s1 s2 (ρ.upd d ⟨w.heap.size,0,0⟩) ((ρ.upd d ⟨w.heap.size,0,0⟩).upd n ⟨(w.alloc (.deferred (some []))).heap.size,0,0⟩) (w.alloc (.deferred (some []))) ((w.alloc (.deferred (some []))).alloc (.loop L0)):=m_ (cap:=0) hn e1.rep hf3 rfl rfl rfl rfl ⟨fun e=>(by cases e),fun x hx=>by
         cases hx
         have hle2:(ρ.upd d ⟨w.heap.size,0,0⟩).le ((ρ.upd d ⟨w.heap.size,0,0⟩).upd n ⟨(w.alloc (.deferred (some []))).heap.size,0,0⟩):=Ren.lW _ (hf3 n (by rw[hnn];exact Nat.le_refl _) (by rw[hs2,hnn];exact Nat.lt_succ_self _))
         refine⟨⟨(w.alloc (.deferred (some []))).heap.size,0,0⟩,by simp[Ren.upd],L0,World.alloc_heap_new _ _,?_⟩
         rw[hL0]
         exact⟨rfl,rfl,rfl,ht.size,fun t=>((ht.val t).mono hle1).mono hle2,ht.room,rfl,rfl⟩⟩
        have e12:=e1.trans hw hmd hmn e2
        have hle12:=e12.le hf2
        have hρn:((ρ.upd d ⟨w.heap.size,0,0⟩).upd n ⟨(w.alloc (.deferred (some []))).heap.size,0,0⟩) n=some ⟨w.heap.size+1,0,0⟩:=by simp[Ren.upd]
        have hdne:d≠n:=by rw[hnx,hdn];omega
        have hρd:((ρ.upd d ⟨w.heap.size,0,0⟩).upd n ⟨(w.alloc (.deferred (some []))).heap.size,0,0⟩) d=some ⟨w.heap.size,0,0⟩:=by simp[Ren.upd,hdne]
        generalize hρ2:((ρ.upd d ⟨w.heap.size,0,0⟩).upd n ⟨(w.alloc (.deferred (some []))).heap.size,0,0⟩)=ρ2 at e2 e12 hle12 hρn hρd
        have hargs:VRs ρ2 (.yield n::cap) (#[Value.func (.yield (w.heap.size+1)) #[] #[]]++y.toArray).toList:=by
         have:=VRs.cons (VR.yield (ρ:=ρ2) hρn) (h2.mono hle12)
         simpa using this
        have hfr:aK ρ2 s2 s3:=(hf.left hm4).right (hmd.trans hmn) e12
        have hcalls:=hc G ρ2 ((w.alloc (.deferred (some []))).alloc (.loop L0)) (#[Value.func (.yield (w.heap.size+1)) #[] #[]]++y.toArray) hG3 e12.rep hfr hargs
        generalize hW1:(w.alloc (.deferred (some []))).alloc (.loop L0)=W1 at hcalls e12 e2
        refine⟨w.heap.size+1,[{target:=.collected w.heap.size,args:=#[]}],W1,{target:=.fn (.func gf) y.toArray,args:=#[Value.func (.yield (w.heap.size+1)) #[] #[]]},W1,gf,#[Value.func (.yield (w.heap.size+1)) #[] #[]]++y.toArray,W1,?ent,?res,fun _ _=>trivial,?inv,fun e=>(by cases e),CallsIn.mono (F:=Fw none) hcalls ?fin⟩
        case ent=>
         show(Instr.enterLoop fn a.tmps ps assign body none).run P w=_
         rw[run_enterLoop_outer,←hW1,hL0]
        case res=>simp only[resolve,hge];simp[go_sem]
        case inv=>simp[invoke,hcf]
        case fin=>
         rintro e0 w3 ⟨ρ3,x,rfl,hx,e3⟩
         have hns2:n<s2.next:=by rw[hs2,hnn];exact Nat.lt_succ_self _
         have hds2:d<s2.next:=by rw[hs2,hs1,hdn];show s.next<s.next+1+1;omega
         have hp3:ρ3 n=some ⟨w.heap.size+1,0,0⟩:=by rw[e3.out n (.inl hns2)];exact hρn
         have hd3:ρ3 d=some ⟨w.heap.size,0,0⟩:=by rw[e3.out d (.inl hds2)];exact hρd
         have hGn:G n:=jI hw3 hlive hG
         obtain⟨_,L,hL,hLR⟩:=mu hlp hGn e3.rep hp3
         have hle3:=e3.le hfr
         have hst:=hLR.st
         have hnb:L.state≠.busy:=by
          rcases he with ⟨h5,_⟩|h5<;>rw[h5] at hst<;>rw[hst.1]<;>simp
         have e4:Ext G s3 (s3.set n none) ρ3 ρ3 w3 (w3.putObj (w.heap.size+1) (.loop {L with state:=.exhausted})):=se hw3 hlive hGn e3.rep hp3 (fun k hk=>World.putObj_heap_other hk) (by simp) rfl rfl rfl
         have eall:=e12.trans hw (hmd.trans hmn) (hm3.trans hm4) (e3.trans hw2 hm3 hm4 e4)
         have htf:aV ρ3 {fr with marks:=.mark d::fr.marks} {a with defers:=[{target:=.collected w.heap.size,args:=#[]}]++a.defers}:=
          ⟨ht.size,fun t=>((ht.val t).mono hle12).mono hle3,ht.room,.cons (p:=⟨w.heap.size,0,0⟩) hd3 ((ht.dfs.mono hle12).mono hle3)⟩
         have hq:=hQ ρ3 _ _ eall htf
         refine⟨_,_,run_endLoop hL hnb,?_⟩
         rcases he with ⟨h5,rfl⟩|h5
         ·rw[h5] at hst
          rw[hst.2] at hq ⊢
          exact hq
         ·rw[h5] at hst
          rw[hst.2] at hq ⊢
          cases e with
          |normal=>exact wpIn_skip hq
          |exit id=>exact wpIn_exit hq
          |ret=>exact wpIn_ret hq
       split at h
       ·rename_i hst
        cases h
        exact⟨hmall,rfl,main .normal (.inl ⟨hst,rfl⟩)⟩
       ·rename_i e hst
        cases h
        exact⟨hmall,rfl,main e (.inr hst)⟩
       ·cases h
      ·cases h
     ·cases h
    ·cases h
   ·cases h
 ·cases h
theorem kG(hg:Good P rec)(hng:cT P)(hmix:P.follows .mixedOrders=true):Good P (pT P rec):=by
 intro t s r s' hw h
 cases t with
 |call f args=>exact xo hg hng hw h
 |code c fr=>
  unfold pT at h
  cases c with
  |skip=>
   cases h
   exact⟨ar.refl _,rfl,fun ro G ρ w a Q hro hG hr hf ht hQ=>wpIn_skip (hQ ρ w a (aN hr) ht)⟩
  |region id ops draw=>exact tE hg hng hmix hw h
  |seq x y=>
   dsimp only at h
   split at h
   ·rename_i fr1 s1 h1
    obtain⟨hm1,hn1,hc1⟩:=hg _ _ _ _ hw h1
    have h2:=hg _ _ _ _ (hm1.wf hw) h
    cases r with
    |call v=>exact h2.elim
    |code e fr2=>
     obtain⟨hm2,hn2,hc2⟩:=h2
     refine⟨hm1.trans hm2,hn2.trans hn1,fun ro G ρ w a Q hro hG hr hf ht hQ=>?_⟩
     refine wpIn_seq (wpS.wp (hc1 ro G ρ w a _ hro (hG.back hm2) hr (hf.left hm2) ht fun ρ1 w1 a1 e1 ht1=>?_))
     exact wpS.wp (hc2 ro G ρ1 w1 a1 Q (fun e=>hro (by rw[←hn1];exact e)) hG e1.rep (hf.right hm1 e1) ht1 fun ρ2 w2 a2 e2 ht2=>hQ ρ2 w2 a2 (e1.trans hw hm1 hm2 e2) ht2)
   ·rename_i hne
    have h1:=hg _ _ _ _ hw h
    cases r with
    |call v=>exact h1.elim
    |code e fr2=>
     obtain⟨hm1,hn1,hc1⟩:=h1
     refine⟨hm1,hn1,fun ro G ρ w a Q hro hG hr hf ht hQ=>?_⟩
     refine wpIn_seq (wpS.wp (hc1 ro G ρ w a _ hro hG hr hf ht fun ρ1 w1 a1 e1 ht1=>?_))
     cases e with
     |normal=>exact(hne fr2 s' h).elim
     |exit id=>exact hQ ρ1 w1 a1 e1 ht1
     |ret=>exact hQ ρ1 w1 a1 e1 ht1
  |cond x y z=>
   dsimp only at h
   split at h
   ·rename_i t hx
    have h1:=hg _ _ _ _ hw h
    cases r with
    |call v=>exact h1.elim
    |code e fr2=>
     obtain⟨hm1,hn1,hc1⟩:=h1
     refine⟨hm1,hn1,fun ro G ρ w a Q hro hG hr hf ht hQ=>?_⟩
     have hv:=aH ht hx
     have hb:a.eval x=.bool t:=by
      generalize a.eval x=y at hv
      cases hv;rfl
     refine wpIn_cond hb ?_
     have:=wpS.wp (hc1 ro G ρ w a Q hro hG hr hf ht hQ)
     cases t<;>exact this
   ·cases h
  |block id x=>
   dsimp only at h
   split at h
   ·rename_i id' fr1 s1 h1
    cases h
    obtain⟨hm1,hn1,hc1⟩:=hg _ _ _ _ hw h1
    refine⟨hm1,hn1,fun ro G ρ w a Q hro hG hr hf ht hQ=>?_⟩
    refine wpIn_block (wpS.wp (hc1 ro G ρ w a _ hro hG hr hf ht fun ρ1 w1 a1 e1 ht1=>?_))
    have hq:=hQ ρ1 w1 a1 e1 ht1
    show if id'=id then Q .normal a1 w1 else Q (.exit id') a1 w1
    cases hb:id'.beq id with
    |true=>
     rw[hb] at hq
     rw[if_pos (Nat.eq_of_beq_eq_true hb)]
     exact hq
    |false=>
     rw[hb] at hq
     rw[if_neg (fun e=>by subst e;rw[Nat.beq_refl] at hb;cases hb)]
     exact hq
   ·rename_i hne
    have h1:=hg _ _ _ _ hw h
    cases r with
    |call v=>exact h1.elim
    |code e fr2=>
     obtain⟨hm1,hn1,hc1⟩:=h1
     refine⟨hm1,hn1,fun ro G ρ w a Q hro hG hr hf ht hQ=>?_⟩
     refine wpIn_block (wpS.wp (hc1 ro G ρ w a _ hro hG hr hf ht fun ρ1 w1 a1 e1 ht1=>?_))
     cases e with
     |normal=>exact hQ ρ1 w1 a1 e1 ht1
     |exit id'=>exact(hne id' fr2 s' h).elim
     |ret=>exact hQ ρ1 w1 a1 e1 ht1
  |loop x=>
   dsimp only at h
   split at h
   ·rename_i fr1 s1 h1
    obtain⟨hm1,hn1,hc1⟩:=hg _ _ _ _ hw h1
    have h2:=hg _ _ _ _ (hm1.wf hw) h
    cases r with
    |call v=>exact h2.elim
    |code e fr2=>
     obtain⟨hm2,hn2,hc2⟩:=h2
     refine⟨hm1.trans hm2,hn2.trans hn1,fun ro G ρ w a Q hro hG hr hf ht hQ=>?_⟩
     refine fb.round (wpS.wp (hc1 ro G ρ w a _ hro (hG.back hm2) hr (hf.left hm2) ht fun ρ1 w1 a1 e1 ht1=>?_))
     exact hc2 ro G ρ1 w1 a1 Q (fun e=>hro (by rw[←hn1];exact e)) hG e1.rep (hf.right hm1 e1) ht1 fun ρ2 w2 a2 e2 ht2=>hQ ρ2 w2 a2 (e1.trans hw hm1 hm2 e2) ht2
   ·rename_i hne
    have h1:=hg _ _ _ _ hw h
    cases r with
    |call v=>exact h1.elim
    |code e fr2=>
     obtain⟨hm1,hn1,hc1⟩:=h1
     refine⟨hm1,hn1,fun ro G ρ w a Q hro hG hr hf ht hQ=>?_⟩
     refine fb.round (wpS.wp (hc1 ro G ρ w a _ hro hG hr hf ht fun ρ1 w1 a1 e1 ht1=>?_))
     cases e with
     |normal=>exact(hne fr2 s' h).elim
     |exit id=>exact hQ ρ1 w1 a1 e1 ht1
     |ret=>exact hQ ρ1 w1 a1 e1 ht1
  |exit id=>
   cases h
   exact⟨ar.refl _,rfl,fun ro G ρ w a Q hro hG hr hf ht hQ=>wpIn_exit (hQ ρ w a (aN hr) ht)⟩
  |ret=>
   cases h
   exact⟨ar.refl _,rfl,fun ro G ρ w a Q hro hG hr hf ht hQ=>wpIn_ret (hQ ρ w a (aN hr) ht)⟩
  |rangeFunc g ps assign body=>exact ux hg hng hw h
  |_=>cases h
theorem nH(t:Task)(s:St):oO t P rec s=pT P rec t s:=by
 cases t with
 |call f args=>rfl
 |code c fr=>cases c<;>rfl
theorem B5(h:(P.funcs.toList.all fun fn=>!fn.body.isSome || !(fn.name == "runtime.NumGoroutine"))=true):cT P:=by
 intro f fn hf hb
 have hm:fn∈P.funcs.toList:=List.mem_of_getElem? (i:=f) (by simpa using hf)
 have h1:=List.all_eq_true.1 h fn hm
 rw[hb] at h1
 simpa using h1
def isTrue:Option (Ans×St)→Bool
 |some (.call (.bool true),_)=>true
 |_=>false
end
end Go.Proofs.YtfnkomoickanfaaGreatDoor.Ev
