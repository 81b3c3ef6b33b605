/- Own. -/
import Derived.Test.YtdjjlghlcffflaaGreatDoorG6
import Derived.Lib.Mul64
import Derived.Laws.Bits64b
import Derived.Test.YtdjjlghlcffflaaGreatDoorZy
set_option linter.unusedVariables false
set_option linter.unusedSimpArgs false
set_option maxHeartbeats 8000000
set_option maxRecDepth 100000
namespace Go.Proofs.YtdjjlghlcffflaaGreatDoor.Ev
open Go.RowKit
section
variable {P:Program} {rec:Task->St->Option (Ans×St)}
theorem za(thr:Nat):∀(l acc:List Nat) (n:Nat),n∈l.foldl (fun l n=>cond (n.blt thr && !l.contains n) (n::l) l) acc<->n∈acc\/(n∈l/\n<thr)
 | [],acc,n=>by simp
 |x::xs,acc,n=>by
  simp only[List.foldl_cons];rw[za thr xs];have hx:n∈cond (x.blt thr && !acc.contains x) (x::acc) acc<->n∈acc\/(n=x/\x<thr):=by
   cases h1:x.blt thr with
   |false=>
    have:¬x<thr:=fun h=>by
     have:x.blt thr=true:=by simpa [Nat.blt_eq] using h
     rw[h1] at this;cases this
    simp[this]
   |true=>
    have hlt:x<thr:=Nat.le_of_ble_eq_true h1
    cases h2:acc.contains x with
    |false=>simp[hlt];exact Or.comm
    |true=>
     have hm:x∈acc:=by simpa using h2
     simp only[Bool.not_true,Bool.and_false,cond_false];constructor
     ·exact .inl
     ·rintro(h|⟨rfl,_⟩)
      ·exact h
      ·exact hm
  rw[hx];constructor
  ·rintro((h|⟨rfl,h⟩)|⟨h,h'⟩)
   ·exact .inl h
   ·exact .inr ⟨by simp,h⟩
   ·exact .inr ⟨by simp[h],h'⟩
  ·rintro(h|⟨h,h'⟩)
   ·exact .inl (.inl h)
   ·rcases List.mem_cons.1 h with rfl|h
    ·exact .inl (.inr ⟨rfl,h'⟩)
    ·exact .inr ⟨h,h'⟩
theorem qS(thr:Nat)(f:Met->List Nat):∀(ms:List Met) (acc:List Nat) (n:Nat),n∈ms.foldl (fun l m=>(f m).foldl (fun l n=>cond (n.blt thr && !l.contains n) (n::l) l) l) acc<->n∈acc\/∃m∈ms,n∈f m/\n<thr
 | [],acc,n=>by simp
 |x::xs,acc,n=>by
  simp only[List.foldl_cons];rw[qS thr f xs,za];constructor
  ·rintro((h|h)|⟨m,h1,h2⟩)
   ·exact .inl h
   ·exact .inr ⟨x,by simp,h⟩
   ·exact .inr ⟨m,by simp[h1],h2⟩
  ·rintro(h|⟨m,h1,h2⟩)
   ·exact .inl (.inl h)
   ·rcases List.mem_cons.1 h1 with rfl|h1
    ·exact .inl (.inr h2)
    ·exact .inr ⟨m,h1,h2⟩
theorem AX(hg:Good P rec)(hng:dZ P)(hmix:P.follows .mixedOrders=true){id:Nat}{ops:Array Oper}{fr fr':Fr}{s s1:St}{ms:List Met}(hw:WF s)(hok:r_ ops (eJ ops.toList [])=true)
  (h:gV P rec ops ops.toList (eJ ops.toList []) 0 [] fr s=some (fr',s1,ms)):
  aA s (s1.back s.thr s.fp s.wr ms)/\fr'.rnd=fr.rnd/\vP P (.region id ops true) fr s .normal fr' (s1.back s.thr s.fp s.wr ms):=by
 obtain⟨S,R,T,rfl,rfl,rfl,rfl,hmem,hback⟩:=I1 hok h;have A:=IW hg hng T hw;have bfp:∀n,n∈((S ops.size).back (S 0).thr (S 0).fp (S 0).wr ms).fp<->n∈(S 0).fp\/∃j,j<ops.size/\n∈(S (j+1)).fp/\n<(S 0).thr:=fun n=>by
  unfold St.back;dsimp only;rw[qS (S 0).thr (·.fp)];constructor
  ·rintro(h|⟨m,h1,h2,h3⟩)
   ·exact .inl h
   ·obtain⟨j,hj,rfl⟩:=hback m h1
    exact .inr ⟨j,hj,h2,h3⟩
  ·rintro(h|⟨j,hj,h2,h3⟩)
   ·exact .inl h
   ·exact .inr ⟨_,hmem j hj,h2,h3⟩
 have bwr:∀n,n∈((S ops.size).back (S 0).thr (S 0).fp (S 0).wr ms).wr<->n∈(S 0).wr\/∃j,j<ops.size/\n∈(S (j+1)).wr/\n<(S 0).thr:=fun n=>by
  unfold St.back;dsimp only;rw[qS (S 0).thr (·.wr)];constructor
  ·rintro(h|⟨m,h1,h2,h3⟩)
   ·exact .inl h
   ·obtain⟨j,hj,rfl⟩:=hback m h1
    exact .inr ⟨j,hj,h2,h3⟩
  ·rintro(h|⟨j,hj,h2,h3⟩)
   ·exact .inl h
   ·exact .inr ⟨_,hmem j hj,h2,h3⟩
 have hmono:aA (S 0) ((S ops.size).back (S 0).thr (S 0).fp (S 0).wr ms):=by
  refine⟨rfl,A.next (Jz _) (Jr _),fun n hn=>(bfp n).2 (.inl hn),fun n hn=>(bwr n).2 (.inl hn),fun n h1 h2 h3=>?_,fun n h1 h2=>A.dead h1 h2 (Jr _),fun _=>⟨(A.wf _ (Jr _)).none,(A.wf _ (Jr _)).lt,JA hw.thr (A.next (Jz _) (Jr _))⟩,fun hq n hn=>?_,fun hq n hn=>?_⟩
  ·have:∀i,i<=ops.size->(S i).heap.get n=(S 0).heap.get n:=by
    intro i;induction i with
    |zero=>exact fun _=>rfl
    |succ i ih=>
     intro hi;rw[A.same (by omega) ?_,ih (by omega)]
     rintro(ht|ht)
     ·exact h3 ((bwr n).2 (.inr ⟨i,by omega,ht,h2⟩))
     ·have:=A.next (Jz i) (by omega);omega
   exact this _ (Jr _)
  ·rcases(bwr n).1 hn with h1|⟨j,hj,h1,h2⟩
   ·exact(bfp n).2 (.inl (hq n h1))
   ·exact(bfp n).2 (.inr ⟨j,hj,A.FL j hj n h1,h2⟩)
  ·rcases(bfp n).1 hn with h1|⟨j,hj,h1,h2⟩
   ·exact hq n h1
   ·exact h2
 refine⟨hmono,(A.mks _ (Jr _)).2,fun ro G ρ0 w0 a0 Q _ hG hr hf ht hQ=>?_⟩
 have hn:(R 0).nt<1000000000:=ht.room;have hthr:=hw.thr;have hGf:∀i,i<ops.size->∀m∈(S (i+1)).fp,G m:=fun i hi m hm=>by
  rcases Ju m (S 0).thr with h1|h1
  ·exact hG.fp m ((bfp m).2 (.inr ⟨i,hi,hm,h1⟩))
  ·exact hG.own m h1 (JE (A.Fy i hi m hm) (A.next (by omega) (Jr _)))
 have hGo:∀i,i<ops.size->∀m,(S i).next<=m->m<(S (i+1)).next->G m:=fun i hi m h1 h2=>by
  have e1:=A.next (Jz i) (by omega)
  exact hG.own m (show(S 0).thr<=m by omega) (JE h2 (A.next (by omega) (Jr _)))
 have hf0:∀m,(S 0).next<=m->m<(S ops.size).next->ρ0 m=none:=fun m h1 h2=>hf m h1 h2
 show(Code.region id ops true).wpIn (Fw ro) 0 P Q a0 w0
 refine wpIn_region_any hmix (yM (fun listed a w=>∃ρ,Dl ops S R G ρ0 w0 listed a w ρ) T.ahead ?_ (fun listed a w ⟨ρ,I⟩=>I.size) ?_ _ _ _ _ (by simp) ⟨ρ0,?_⟩)
 ·rintro listed a w ⟨ρ,I⟩ hall
  have hH:∀m,Hd S (fun i=>listed.getD i false) ops.size m=(S ops.size).heap.get m:=A.all (Jr _) (fun j hj=>hall j hj)
  have hT:∀t,Td R ops (fun i=>listed.getD i false) ops.size t=(R ops.size).get t:=Hx T A hn (Jr _) (fun j hj=>hall j hj)
  refine hQ ρ w a ⟨fun m hm=>?_,⟨fun m b hGm hb=>I.rep m b hGm (by rw[hH];exact hb),fun m k hGm hGk hlm hlk hne=>I.sep m k hGm hGk (by rw[hH];exact hlm) (by rw[hH];exact hlk) hne,I.tz,fun m p hGm hl hp=>I.off m p hGm (by rw[hH];exact hl) hp⟩,I.frame,I.vM,I.os,I.tape,I.output,fun m p h1 h2 hl hp=>I.fresh m p h1 (by rw[hH];exact hl) hp⟩ ⟨by rw[I.tsz,A.nt _ (Jr _)],fun t=>by rw[<-hT];exact I.tm t,by rw[A.nt _ (Jr _)];exact hn,by rw[(A.mks _ (Jr _)).1];exact I.dfs⟩
  refine I.out m fun i hi _ hoi=>?_
  have e1:=A.next (Jz i) (by omega)
  have e2:=A.next (i:=i+1) (by omega) (Jr _)
  rcases hm with hm|hm
  ·omega
  ·have hm':(S ops.size).next<=m:=hm
   omega
 ·rintro listed a w ⟨ρ,I⟩ i o ho hi hr'
  have his:i<ops.size:=(Array.getElem?_eq_some_iff.1 ho).1;exact D5 hg hng T A hn I ho hi hr' (hGf i his) (hGo i his) hf0 fun ρ' a' w' I'=>⟨ρ',I'⟩
 ·have hl0:∀i,(Array.replicate ops.size false).getD i false=false:=fun i=>by
   rw[Array.getD_eq_getD_getElem?,Array.getElem?_replicate];split<;>rfl
  have hH:∀k m,Hd S (fun i=>(Array.replicate ops.size false).getD i false) k m=(S 0).heap.get m:=by
   intro k;induction k with
   |zero=>intro m;rfl
   |succ k ih=>intro m;simp only[Hd];rw[if_neg (fun e=>by rw[hl0] at e;cases e.1)];exact ih m
  have hT:∀k t,Td R ops (fun i=>(Array.replicate ops.size false).getD i false) k t=(R 0).get t:=by
   intro k;induction k with
   |zero=>intro m;rfl
   |succ k ih=>intro m;simp only[Td];rw[if_neg (fun e=>by rw[hl0] at e;cases e.1)];exact ih m
  refine⟨by simp,fun i o hi=>(by have hi':(Array.replicate ops.size false).getD i false=true:=hi;rw[hl0] at hi';cases hi'),fun m _=>rfl,fun m b hGm hb=>?_,fun m k hGm hGk hlm hlk hne=>?_,ht.size,fun t=>by rw[hT];exact ht.val t,ht.dfs,fun b hb _=>rfl,Jr _,rfl,rfl,rfl,fun m p h1 hl hp=>?_,hr.tz,fun m p hGm hl hp=>hr.off m p hGm (by rw[hH] at hl;exact hl) hp⟩
  ·rw[hH] at hb
   exact(hr.rep m b hGm hb).eN (fun _ _ h=>h) fun _ _=>rfl
  ·rw[hH] at hlm hlk
   exact hr.sep m k hGm hGk hlm hlk hne
  ·rw[hH,hw.none m h1] at hl
   exact absurd rfl hl
theorem xR(hg:Good P rec)(hng:dZ P)(hmix:P.follows .mixedOrders=true){id:Nat}{ops:Array Oper}{draw:Bool}{fr:Fr}{s s':St}{r:Ans}(hw:WF s)(h:kZ P rec ops draw fr s=some (r,s')):rS P (.code (.region id ops draw) fr) s r s':=by
 unfold kZ at h
 cases draw with
 |true=>
  simp only[cond_true] at h
  obtain⟨hok,h⟩:=ay h;split at h
  ·rename_i fr' s1 ms hd
   cases h
   exact AX hg hng hmix hw hok hd
  ·cases h
 |false=>
  simp only[cond_false,sU] at h
  split at h
  ·rename_i fr' s1 hd
   cases h
   obtain⟨hm,hn,hk⟩:=vj hg hng _ 0 _ _ _ _ (by simp) hw hd
   refine⟨hm,hn,fun ro G ρ w a Q hro hG hr hf ht hQ=>?_⟩
   show(Code.region id ops false).wpIn (Fw ro) 0 P Q a w
   refine wpIn_region ?_;have:=hk ro G ρ w a Q hG hr hf ht hQ;rw[List.range_eq_range'];simpa using this
  ·split at h
   ·rename_i fr' s1 hd
    cases h
    obtain⟨hm,hn,hk⟩:=nj hg hng _ 0 _ _ _ _ (by simp) hw hd
    refine⟨hm,hn,fun ro G ρ w a Q hro hG hr hf ht hQ=>?_⟩
    show(Code.region id ops false).wpIn (Fw ro) 0 P Q a w
    refine wpIn_region ?_;have:=hk ro G ρ w a Q hro hG hr hf ht hQ;rw[List.range_eq_range'];simpa using this
   ·cases h
theorem yI(hg:Good P rec)(hng:dZ P){g:Operand}{ps:Array Tmp}{assign body:Code}{fr:Fr}{s s':St}{r:Ans}(hw:WF s)(h:nk P rec g ps.toList assign body fr s=some (r,s')):rS P (.code (.rangeFunc g ps assign body) fr) s r s':=by
 unfold nk at h
 split at h
 ·rename_i gf cap hrnd hgv
  split at h
  ·cases h
  ·rename_i x0 hent
   split at h
   ·rename_i d s1 hd
    split at h
    ·rename_i n s2 hn
     split at h
     ·rename_i v s3 hcall
      split at h
      ·rename_i rr hlp
       have hmd:=bG hd;have hmn:=bG hn;have hw2:=hmn.wf (hmd.wf hw);obtain⟨hm3,hc⟩:=hg _ _ _ _ hw2 hcall;have hw3:=hm3.wf hw2;have hlive:=kX hlp;have hlt:=cL hw3 hlive;have hm4:aA s3 (s3.set n none):=fm none (JE hlt hw3.lt) hlive hlt;have hmall:=hmd.trans (hmn.trans (hm3.trans hm4));obtain⟨hdn,_,hs1⟩:=mh hd;obtain⟨hnn,_,hs2⟩:=mh hn;have hnx:n=s.next+1:=by rw[hnn,hs1]
       have main:∀(e:Ex),(rr.st=.ready/\e=.normal)\/rr.st=.done e->vP P (.rangeFunc g ps assign body) fr s e {fr with marks:=.mark d::fr.marks} (s3.set n none):=by
        intro e he ro G ρ w a Q hro hG hr hf ht hQ;have hro':=hro hrnd;subst hro';have hev:=aU ht hgv;generalize hge:a.eval g=gv at hev
        have hcf:∀xs w,(callFunc gf xs).run P w=.ok (.enter gf xs) w:=(jx hng (r:=x0.1) (s':=x0.2) hent).2.2
        cases hev
        rename_i x1 y h1 h2
        cases h1
        have hG3:=hG.back hm4;have hG2:=hG3.back hm3;have hf2:bg ρ s s2:=hf.left (hm3.trans hm4);have e1:Ext G s s1 ρ (ρ.upd d ⟨w.heap.size,0,0⟩) w (w.alloc (.deferred (some []))):=qP (cap:=0) hd hr (hf2.left hmn) rfl rfl rfl rfl ⟨fun e=>(by cases e),fun x hx=>by
         cases hx
         exact⟨⟨w.heap.size,0,0⟩,by simp[Ren.upd],World.alloc_heap_new w (.deferred (some []))⟩⟩
        have hf3:=hf2.right hmd e1;refine wpIn_rangeFunc fun fn hfn=>?_
        obtain⟨L0,hL0⟩:∃L0:Loop,L0={state:=.ready,pending:=none,fn,tmps:=a.tmps,params:=ps,assign,body,defers:=w.heap.size}:=⟨_,rfl⟩;have hle1:=e1.le (hf2.left hmn);have hsz1:(w.alloc (.deferred (some []))).heap.size=w.heap.size+1:=by simp
        have e2:Ext G s1 s2 (ρ.upd d ⟨w.heap.size,0,0⟩) ((ρ.upd d ⟨w.heap.size,0,0⟩).upd n ⟨(w.alloc (.deferred (some []))).heap.size,0,0⟩) (w.alloc (.deferred (some []))) ((w.alloc (.deferred (some []))).alloc (.loop L0)):=qP (cap:=0) hn e1.rep hf3 rfl rfl rfl rfl ⟨fun e=>(by cases e),fun x hx=>by
         cases hx
         have hle2:(ρ.upd d ⟨w.heap.size,0,0⟩).le ((ρ.upd d ⟨w.heap.size,0,0⟩).upd n ⟨(w.alloc (.deferred (some []))).heap.size,0,0⟩):=Ren.oX _ (hf3 n (by rw[hnn];exact Jr _) (by rw[hs2,hnn];exact Nat.lt_succ_self _))
         refine⟨⟨(w.alloc (.deferred (some []))).heap.size,0,0⟩,by simp[Ren.upd],L0,World.alloc_heap_new _ _,?_⟩
         rw[hL0];exact⟨rfl,rfl,rfl,ht.size,fun t=>((ht.val t).mono hle1).mono hle2,ht.room,rfl,rfl⟩⟩
        have e12:=e1.trans hw hmd hmn e2;have hle12:=e12.le hf2;have hρn:((ρ.upd d ⟨w.heap.size,0,0⟩).upd n ⟨(w.alloc (.deferred (some []))).heap.size,0,0⟩) n=some ⟨w.heap.size+1,0,0⟩:=by simp[Ren.upd]
        have hdne:d≠n:=by rw[hnx,hdn];omega
        have hρd:((ρ.upd d ⟨w.heap.size,0,0⟩).upd n ⟨(w.alloc (.deferred (some []))).heap.size,0,0⟩) d=some ⟨w.heap.size,0,0⟩:=by simp[Ren.upd,hdne]
        generalize hρ2:((ρ.upd d ⟨w.heap.size,0,0⟩).upd n ⟨(w.alloc (.deferred (some []))).heap.size,0,0⟩)=ρ2 at e2 e12 hle12 hρn hρd
        have hargs:VRs ρ2 (.yield n::cap) (#[Value.func (.yield (w.heap.size+1)) #[] #[]]++y.toArray).toList:=by
         have:=VRs.cons (VR.yield (ρ:=ρ2) hρn) (h2.mono hle12);simpa using this
        have hfr:bg ρ2 s2 s3:=(hf.left hm4).right (hmd.trans hmn) e12;have hcalls:=hc G ρ2 ((w.alloc (.deferred (some []))).alloc (.loop L0)) (#[Value.func (.yield (w.heap.size+1)) #[] #[]]++y.toArray) hG3 e12.rep hfr hargs;generalize hW1:(w.alloc (.deferred (some []))).alloc (.loop L0)=W1 at hcalls e12 e2
        refine⟨w.heap.size+1,[{target:=.collected w.heap.size,args:=#[]}],W1,{target:=.fn (.func gf) y.toArray,args:=#[Value.func (.yield (w.heap.size+1)) #[] #[]]},W1,gf,#[Value.func (.yield (w.heap.size+1)) #[] #[]]++y.toArray,W1,?ent,?res,fun _ _=>trivial,?inv,fun e=>(by cases e),CallsIn.mono (F:=Fw none) hcalls ?fin⟩
        case ent=>
         show(Instr.enterLoop fn a.tmps ps assign body none).run P w=_
         rw[run_enterLoop_outer,<-hW1,hL0]
        case res=>simp only[resolve,hge];simp[go_sem]
        case inv=>simp[invoke,hcf]
        case fin=>
         rintro e0 w3 ⟨ρ3,x,rfl,hx,e3⟩;have hns2:n<s2.next:=by rw[hs2,hnn];exact Nat.lt_succ_self _
         have hds2:d<s2.next:=by rw[hs2,hs1,hdn];show s.next<s.next+1+1;omega
         have hp3:ρ3 n=some ⟨w.heap.size+1,0,0⟩:=by rw[e3.out n (.inl hns2)];exact hρn
         have hd3:ρ3 d=some ⟨w.heap.size,0,0⟩:=by rw[e3.out d (.inl hds2)];exact hρd
         have hGn:G n:=l7 hw3 hlive hG;obtain⟨_,L,hL,hLR⟩:=pH hlp hGn e3.rep hp3;have hle3:=e3.le hfr;have hst:=hLR.st;have hnb:L.state≠.busy:=by
          rcases he with ⟨h5,_⟩|h5<;>rw[h5] at hst<;>rw[hst.1]<;>simp
         have e4:Ext G s3 (s3.set n none) ρ3 ρ3 w3 (w3.putObj (w.heap.size+1) (.loop {L with state:=.exhausted})):=wC hw3 hlive hGn e3.rep hp3 (fun k hk=>World.putObj_heap_other hk) (by simp) rfl rfl rfl
         have eall:=e12.trans hw (hmd.trans hmn) (hm3.trans hm4) (e3.trans hw2 hm3 hm4 e4);have htf:bH ρ3 {fr with marks:=.mark d::fr.marks} {a with defers:=[{target:=.collected w.heap.size,args:=#[]}]++a.defers}:=
          ⟨ht.size,fun t=>((ht.val t).mono hle12).mono hle3,ht.room,.cons (p:=⟨w.heap.size,0,0⟩) hd3 ((ht.dfs.mono hle12).mono hle3)⟩
         have hq:=hQ ρ3 _ _ eall htf;refine⟨_,_,run_endLoop hL hnb,?_⟩;rcases he with ⟨h5,rfl⟩|h5
         ·rw[h5] at hst
          rw[hst.2] at hq ⊢
          exact hq
         ·rw[h5] at hst
          rw[hst.2] at hq ⊢
          cases e with
          |normal=>exact wpIn_skip hq
          |exit id=>exact wpIn_exit hq
          |ret=>exact wpIn_ret hq
       split at h
       ·rename_i hst
        cases h
        exact⟨hmall,rfl,main .normal (.inl ⟨hst,rfl⟩)⟩
       ·rename_i e hst
        cases h
        exact⟨hmall,rfl,main e (.inr hst)⟩
       ·cases h
      ·cases h
     ·cases h
    ·cases h
   ·cases h
 ·cases h
theorem AY(hg:Good P rec)(hng:dZ P)(hmix:P.follows .mixedOrders=true):Good P (ui P rec):=by
 intro t s r s' hw h
 cases t with
 |call f args=>exact AW hg hng hw h
 |code c fr=>
  unfold ui at h
  cases c with
  |skip=>
   cases h
   exact⟨aA.refl _,rfl,fun ro G ρ w a Q hro hG hr hf ht hQ=>wpIn_skip (hQ ρ w a (bB hr) ht)⟩
  |region id ops draw=>exact xR hg hng hmix hw h
  |seq x y=>
   dsimp only at h;split at h
   ·rename_i fr1 s1 h1
    obtain⟨hm1,hn1,hc1⟩:=hg _ _ _ _ hw h1;have h2:=hg _ _ _ _ (hm1.wf hw) h
    cases r with
    |call v=>exact h2.elim
    |code e fr2=>
     obtain⟨hm2,hn2,hc2⟩:=h2;refine⟨hm1.trans hm2,hn2.trans hn1,fun ro G ρ w a Q hro hG hr hf ht hQ=>?_⟩
     refine wpIn_seq (wpS.wp (hc1 ro G ρ w a _ hro (hG.back hm2) hr (hf.left hm2) ht fun ρ1 w1 a1 e1 ht1=>?_))
     exact wpS.wp (hc2 ro G ρ1 w1 a1 Q (fun e=>hro (by rw[<-hn1];exact e)) hG e1.rep (hf.right hm1 e1) ht1 fun ρ2 w2 a2 e2 ht2=>hQ ρ2 w2 a2 (e1.trans hw hm1 hm2 e2) ht2)
   ·rename_i hne
    have h1:=hg _ _ _ _ hw h
    cases r with
    |call v=>exact h1.elim
    |code e fr2=>
     obtain⟨hm1,hn1,hc1⟩:=h1;refine⟨hm1,hn1,fun ro G ρ w a Q hro hG hr hf ht hQ=>?_⟩
     refine wpIn_seq (wpS.wp (hc1 ro G ρ w a _ hro hG hr hf ht fun ρ1 w1 a1 e1 ht1=>?_))
     cases e with
     |normal=>exact(hne fr2 s' h).elim
     |exit id=>exact hQ ρ1 w1 a1 e1 ht1
     |ret=>exact hQ ρ1 w1 a1 e1 ht1
  |cond x y z=>
   dsimp only at h;split at h
   ·rename_i t hx
    have h1:=hg _ _ _ _ hw h
    cases r with
    |call v=>exact h1.elim
    |code e fr2=>
     obtain⟨hm1,hn1,hc1⟩:=h1;refine⟨hm1,hn1,fun ro G ρ w a Q hro hG hr hf ht hQ=>?_⟩
     have hv:=aU ht hx;have hb:a.eval x=.bool t:=by
      generalize a.eval x=y at hv
      cases hv;rfl
     refine wpIn_cond hb ?_;have:=wpS.wp (hc1 ro G ρ w a Q hro hG hr hf ht hQ)
     cases t<;>exact this
   ·cases h
  |block id x=>
   dsimp only at h;split at h
   ·rename_i id' fr1 s1 h1
    cases h
    obtain⟨hm1,hn1,hc1⟩:=hg _ _ _ _ hw h1;refine⟨hm1,hn1,fun ro G ρ w a Q hro hG hr hf ht hQ=>?_⟩
    refine wpIn_block (wpS.wp (hc1 ro G ρ w a _ hro hG hr hf ht fun ρ1 w1 a1 e1 ht1=>?_))
    have hq:=hQ ρ1 w1 a1 e1 ht1;show if id'=id then Q .normal a1 w1 else Q (.exit id') a1 w1
    cases hb:id'.beq id with
    |true=>
     rw[hb] at hq
     rw[if_pos (Nat.eq_of_beq_eq_true hb)];exact hq
    |false=>
     rw[hb] at hq
     rw[if_neg (fun e=>by subst e;rw[Nat.beq_refl] at hb;cases hb)]
     exact hq
   ·rename_i hne
    have h1:=hg _ _ _ _ hw h
    cases r with
    |call v=>exact h1.elim
    |code e fr2=>
     obtain⟨hm1,hn1,hc1⟩:=h1;refine⟨hm1,hn1,fun ro G ρ w a Q hro hG hr hf ht hQ=>?_⟩
     refine wpIn_block (wpS.wp (hc1 ro G ρ w a _ hro hG hr hf ht fun ρ1 w1 a1 e1 ht1=>?_))
     cases e with
     |normal=>exact hQ ρ1 w1 a1 e1 ht1
     |exit id'=>exact(hne id' fr2 s' h).elim
     |ret=>exact hQ ρ1 w1 a1 e1 ht1
  |loop x=>
   dsimp only at h;split at h
   ·rename_i fr1 s1 h1
    obtain⟨hm1,hn1,hc1⟩:=hg _ _ _ _ hw h1;have h2:=hg _ _ _ _ (hm1.wf hw) h
    cases r with
    |call v=>exact h2.elim
    |code e fr2=>
     obtain⟨hm2,hn2,hc2⟩:=h2;refine⟨hm1.trans hm2,hn2.trans hn1,fun ro G ρ w a Q hro hG hr hf ht hQ=>?_⟩
     refine fg.round (wpS.wp (hc1 ro G ρ w a _ hro (hG.back hm2) hr (hf.left hm2) ht fun ρ1 w1 a1 e1 ht1=>?_))
     exact hc2 ro G ρ1 w1 a1 Q (fun e=>hro (by rw[<-hn1];exact e)) hG e1.rep (hf.right hm1 e1) ht1 fun ρ2 w2 a2 e2 ht2=>hQ ρ2 w2 a2 (e1.trans hw hm1 hm2 e2) ht2
   ·rename_i hne
    have h1:=hg _ _ _ _ hw h
    cases r with
    |call v=>exact h1.elim
    |code e fr2=>
     obtain⟨hm1,hn1,hc1⟩:=h1;refine⟨hm1,hn1,fun ro G ρ w a Q hro hG hr hf ht hQ=>?_⟩
     refine fg.round (wpS.wp (hc1 ro G ρ w a _ hro hG hr hf ht fun ρ1 w1 a1 e1 ht1=>?_))
     cases e with
     |normal=>exact(hne fr2 s' h).elim
     |exit id=>exact hQ ρ1 w1 a1 e1 ht1
     |ret=>exact hQ ρ1 w1 a1 e1 ht1
  |exit id=>
   cases h
   exact⟨aA.refl _,rfl,fun ro G ρ w a Q hro hG hr hf ht hQ=>wpIn_exit (hQ ρ w a (bB hr) ht)⟩
  |ret=>
   cases h
   exact⟨aA.refl _,rfl,fun ro G ρ w a Q hro hG hr hf ht hQ=>wpIn_ret (hQ ρ w a (bB hr) ht)⟩
  |rangeFunc g ps assign body=>exact yI hg hng hw h
  |_=>cases h
theorem E1(t:Task)(s:St):A3 t P rec s=ui P rec t s:=by
 cases t with
 |call f args=>rfl
 |code c fr=>cases c<;>rfl
theorem CT(hng:dZ P)(hmix:P.follows .mixedOrders=true):∀n,Good P (run P n)
 |0=>fun _ _ _ _ _ h=>by cases h
 |n+1=>fun t s r s' hw h=>by
  have h':A3 t P (run P n) s=some (r,s'):=h;rw[E1] at h'
  exact AY (CT hng hmix n) hng hmix t s r s' hw h'
theorem Gu(h:(P.funcs.toList.all fun fn=>!fn.body.isSome || !(fn.name == "runtime.NumGoroutine"))=true):dZ P:=by
 intro f fn hf hb;have hm:fn∈P.funcs.toList:=List.mem_of_getElem? (i:=f) (by simpa using hf)
 have h1:=List.all_eq_true.1 h fn hm;rw[hb] at h1
 simpa using h1
def isTrue:Option (Ans×St)->Bool
 |some (.call (.bool true),_)=>true
 |_=>false
theorem yg(hng:dZ P)(hmix:P.follows .mixedOrders=true){n:Nat}{f:FuncId}(h:isTrue (run P n (.call f []) St.start)=true)(w:World)(hT:TZ w):Calls P f #[] w fun r w'=>r=.returned (.bool true)/\Below w.heap.size w w':=by
 cases hrun:run P n (.call f []) St.start with
 |none=>rw[hrun] at h;cases h
 |some p=>
  obtain⟨a,s'⟩:=p;rw[hrun] at h
  unfold isTrue at h
  split at h
  ·rename_i s2 e
   simp only[Option.some.injEq,Prod.mk.injEq] at e
   obtain⟨rfl,rfl⟩:=e;have hw:WF St.start:=⟨fun n _=>Tr.jN n,by decide,by decide⟩
   obtain⟨_,hc⟩:=CT hng hmix n _ _ _ _ hw hrun;have hr:aV (fun _=>True) (fun _=>none) St.start.heap w:=⟨fun n b _ hb=>(by rw[show St.start.heap.get n=none from Tr.jN n] at hb;cases hb),fun n m _ _ hl=>absurd (Tr.jN n) hl,hT,fun n p _ hl=>absurd (Tr.jN n) hl⟩
   refine(callsIn_wide (n:=0)).1 ((hc (fun _=>True) (fun _=>none) w #[] ⟨fun _ _=>trivial,fun _ _ _=>trivial⟩ hr (fun _ _ _=>rfl) .nil).mono ?_)
   rintro e w' ⟨ρ',x,rfl,hx,he⟩
   cases hx
   exact⟨rfl,he.os,he.tape,he.output,he.size,fun k hk=>he.frame k hk fun n p _ hl=>absurd (Tr.jN n) hl⟩
  ·cases h
end
end Go.Proofs.YtdjjlghlcffflaaGreatDoor.Ev
namespace Go.Proofs.YtdjjlghlcffflaaGreatDoor
open Go.RowKit
theorem Iv:Ev.dZ Tryz.prog:=Ev.Gu (by kernel_rfl)
variable {w:World}
theorem I3(h:TzT w):Ev.TZ w:=fun g hg=>by
 have h1:Ev.tzB=some (pO.g 1):=by kernel_rfl
 obtain rfl:=Option.some.inj (h1.symm.trans hg);exact h
theorem yc(w:World)(hT:TzT w):Calls Tryz.prog 4 #[] w fun r w'=>r=.returned (.bool true)/\Below w.heap.size w w':=
 Ev.yg Iv (by kernel_rfl) (n:=100000) (by kernel_rfl) w (I3 hT)
section
variable {w wr w2 w3:World} {g:Nat} {al y:Int} {B T:Nat} {zss yss:List (List Int)} {h:Hdr} {i:Nat} {bp cp:Option Addr} {bn bc cn cc:Nat} {op q:Option Addr} {on m:Nat} {hs':List Hdr}
end
section
variable {D E K N lo lo' D' E':Nat} {X Y:Nat->Prop} {w v:World} {z y:List (List Int)} {h g:Hdr} {zq:Int} {uq un:Ent}
end
namespace Sk
end Sk
section
variable {w wr w2 w3:World} {g:Nat} {al y:Int} {B T:Nat} {zss yss:List (List Int)} {h:Hdr} {i:Nat} {bp cp:Option Addr} {bn bc cn cc:Nat} {op q:Option Addr} {on m:Nat} {hs':List Hdr}
end
variable {l:List (List Int)} {n:Nat}
theorem Gw(h:∀k,n<=k->∀t,gx (gt l k) t=0):aE l<=n:=by
 rcases Ju n (aE l) with h1|h1
 ·exfalso
  have h2:gx (l.map fun z=>(ad z:Int)) (aE l-1)≠0:=aw _ (by show 0<aE l;omega)
  have h3:=iW l;have h4:gx (l.map fun z=>(ad z:Int)) (aE l-1)=(ad (gt l (aE l-1)):Int):=by
   have hlt:aE l-1<l.length:=by omega
   simp[gx,gt,hlt]
  rw[h4] at h2
  have h5:=aX (gt l (aE l-1)) 0 (fun j _=>h _ (by omega) j) (.inl rfl)
  omega
 ·exact h1
theorem Co{a b:List (List Int)}(h:∀j t,gx (gt a j) t=gx (gt b j) t):aE a=aE b:=by
 have e1:∀(x y:List (List Int)),(∀j t,gx (gt x j) t=gx (gt y j) t)->aE x<=aE y:=fun x y hxy=>Gw fun k hk t=>by rw[hxy];exact Sk.De y k hk t
 exact Nat.le_antisymm (e1 a b h) (e1 b a fun j t=>(h j t).symm)
theorem Cn(l:List (List Int)):aE (otr l)=aE l:=Co fun j t=>wI l j t
theorem DT(f:List Int->List Int)(l:List (List Int))(j:Nat)(h:j<l.length):gt (l.map f) j=f (gt l j):=by simp[gt,h]
theorem wR(c:Int)(q:List Int):(ax [c] q).length=q.length:=by
 unfold ax;split
 ·rename_i h
  rcases h with h|h
  ·simp at h
  ·simp[h]
 ·rename_i h
  rw[cx];simp at h ⊢
theorem oo(c:Int)(ys:List Int)(t:Nat):gx (ax [c] ys) t=c*gx ys t:=by
 rcases Jw ys.length with h|h
 ·have:ys=[]:=JB h
  subst this;have e:ax [c] []=[]:=by simp[ax]
  rw[e];simp[gx]
 ·exact DW c ys t
variable {c:Int}
theorem A4(hc:c≠0){q:List Int}(hq:ad q=q.length):ad (ax [c] q)=(ax [c] q).length:=by
 rw[wR];refine aX _ _ (fun j hj=>?_) ?_
 ·rw[oo,ak q _ (Jr _) j hj,JC]
 ·rcases Jw q.length with h|h
  ·exact .inl h
  ·right
   have:=aw q (by omega)
   rw[hq] at this
   rw[oo];exact Int.mul_ne_zero hc this
theorem GH{z c:List Int}(hc:ad c=c.length)(c0:0<c.length)(h:Dvd z c)(hz:0<ad z):0<ad (quo z c)/\gx z (ad z-1)=gx (quo z c) (ad (quo z c)-1)*gx c (c.length-1):=by
 obtain⟨h1,h2⟩:=ky h;obtain⟨m,hm⟩:∃m,c.length=m+1:=⟨c.length-1,by omega⟩
 have ht:=aw c (by omega)
 rw[hc,hm,JD] at ht
 rcases dV hm ht h1 with h3|⟨a,h3,h4,h5⟩
 ·omega
 ·refine⟨by omega,?_⟩
  rw[h4,h3,hm,JD,JD,JD];exact h5
variable {yss:List (List Int)}
theorem ue{c:List Int}(hn:aE yss=n)(h0:0<n)(hc:ad c=c.length)(c0:0<c.length)(cp:0<gx c (c.length-1))(hd:∀i,i<n->Dvd (gt yss i) c){ld:Int}(hl:ld=gx (gt yss (n-1)) (ad (gt yss (n-1))-1)):
  otr ((List.range n).map fun i=>quo (gt yss i) (sgc ld c))=rpl ((List.range n).map fun i=>quo (gt yss i) c):=by
 have hz:0<ad (gt yss (n-1)):=by rw[<-hn];exact ft (by omega)
 obtain⟨q1,q2⟩:=GH hc c0 (hd (n-1) (by omega)) hz
 rw[<-hl] at q2
 have hr:rpl ((List.range n).map fun i=>quo (gt yss i) c)=if gx (quo (gt yss (n-1)) c) (ad (quo (gt yss (n-1)) c)-1)<0 then otr (((List.range n).map fun i=>quo (gt yss i) c).map (ax [-1])) else (List.range n).map fun i=>quo (gt yss i) c:=by
  unfold rpl;rw[List.length_map,List.length_range,qW _ (by omega)]
 have htop:=aw _ q1;rw[hr];by_cases hneg:ld<0
 ·have h1:gx (quo (gt yss (n-1)) c) (ad (quo (gt yss (n-1)) c)-1)<0:=by
   rcases Int.lt_or_gt_of_ne htop with h|h
   ·exact h
   ·have:=Int.mul_pos h cp
    omega
  rw[if_pos h1,List.map_map];congr 1;refine List.map_congr_left fun i hi=>?_
  have hi:=List.mem_range.1 hi;obtain⟨s1,s2,s3,s4⟩:=jF ld hc;obtain⟨k1,k2⟩:=ky (hd i hi);refine(xz s1 (by omega) (A4 (by decide) k2) fun t=>?_).symm
  have e1:gx (ax (ax [-1] (quo (gt yss i) c)) (sgc ld c)) t=gx (ax ((quo (gt yss i) c).map ((-1) * ·)) (sgc ld c)) t:=by
   rw[Sk.ao,Sk.ao];exact Sk.a_ (fun j=>by rw[oo,Md.BZ]) (fun _=>rfl) t
  rw[e1,Md.mY,Md.kY (b:=c) (c := -1) (fun t=>by rw[s3,if_pos hneg]),k1]
  omega
 ·have h1:¬gx (quo (gt yss (n-1)) c) (ad (quo (gt yss (n-1)) c)-1)<0:=fun h=>by
   have:=Int.mul_neg_of_neg_of_pos h cp;omega
  rw[if_neg h1];have hs:sgc ld c=c:=by unfold sgc;rw[if_neg hneg]
  rw[hs];have ho:aE ((List.range n).map fun i=>quo (gt yss i) c)=n:=by
   refine mi _ _ (fun j hj=>?_) (.inr ?_)
   ·have e:gt ((List.range n).map fun i=>quo (gt yss i) c) j=[]:=by
     have hl:((List.range n).map fun i=>quo (gt yss i) c).length<=j:=by simpa using hj
     exact gy _ _ hl
    rw[e];rfl
   ·rw[qW _ (by omega)]
    omega
  unfold otr;rw[ho];exact Jv (by simp)
variable {p q:Option Addr} {nc m mc:Nat} {es0:List Ent}
theorem vS{hs0:List Hdr}(h:RZ w p n nc hs0)(k:PZ w q m mc es0)(hTz:TzT w):
  Calls Tryz.prog 3 #[.slice p n nc,.slice q m mc] w fun r w'=>r=.returned (.bool true)/\Below w.heap.size w w':=by
 have HX:Hid (RZ w p n nc hs0/\PZ w q m mc es0/\TzT w):=⟨h,k,hTz⟩;clear h k hTz;go_enter Tryz.func3,Tryz.ntmps3;go_wp2_with fail;go_fit (yc _ HX.out.2.2);rintro e1 W ⟨rfl,hb1⟩;go_wp2_with fail;go_fit (vQ (HX.out.2.1.below hb1) 3 1 (by decide) (by decide))
 rintro r w1 ⟨p1,n1,nc1,es1,xs,rfl,hP1,hn1,-,-,hb2⟩;have hm1:n1<=3:=by omega
 have hf1:=AU hP1 (by omega) (by decide)
 have hB1:=ae hb1 hb2;clear hn1;go_wp2_with fail;go_fit hf1;rintro r w2 ⟨px,nx,ex,rfl,hRx,-,htx,hb3⟩;clear hf1;have hB2:=ae hB1 hb3;have HZ:Hid (PR w2 2 px nx nx ex (tr xs)/\ad (tr xs)=nx/\nx<=3):=⟨hRx,htx,by
  have h1:=aj xs;have h2:=hP1.zl;rw[aM] at htx
  omega⟩
 clear hRx htx hb1 hb2 hb3 hP1 hB1;go_wp2_with fail;go_fit (Dg (HX.out.1.below hB2) 3 3 1 (by decide) (by decide) (by decide))
 rintro r w3 ⟨hc,zss,rfl,-,hA,hb3⟩;dsimp only[Hdr.val];have hf8:=AP hA (Jr _) (by decide) (by decide) (by decide)
 have hB3:=ae hB2 hb3;have HZ3:Hid (PR w3 2 px nx nx ex (tr xs)/\ad (tr xs)=nx/\nx<=3):=⟨HZ.out.1.below hb3,HZ.out.2⟩;clear HZ hA hb3 hB2;obtain⟨A0,hA0⟩:∃A0,zss.map tr=A0:=⟨_,rfl⟩;rw[hA0] at hf8
 clear hA0;go_wp2_with fail;go_fit hf8;rintro r w4 ⟨p4,rfl,hA4,hb4⟩;clear hf8;have hB4:=ae hB3 hb4;have HZ4:Hid (PR w4 2 px nx nx ex (tr xs)/\ad (tr xs)=nx/\nx<=3/\HR (3+1) (EY 2 3) w4 w3.heap.size w4.heap.size (otr A0) ⟨p4,aE A0,aE A0⟩):=⟨HZ3.out.1.below hb4,HZ3.out.2.1,HZ3.out.2.2,hA4⟩;have hsc:=qx (K:=1) (L:=1) (E':=6) HZ4.out.1 (by rw[HZ4.out.2.1,HZ4.out.1.zl]) (by decide) (oG (K:=1) HZ4.out.1) hA4 (Jr _) (by decide) (by decide) (by have:=HZ4.out.2.2.1;omega) (by decide) (by have:=HZ4.out.2.2.1;omega) (by decide)
 clear HZ3 hA4 hb4 hB3;simp only at hsc
 generalize hoA:aE A0=nA at hsc
 have HOA:=(show Hid _ from hoA)
 clear hoA;go_wp2_with fail;go_fit hsc;rintro r w5 ⟨p5,rfl,hU,hb5⟩;clear hsc;obtain⟨U0,hU0⟩:∃U0,(otr A0).map (ax (tr xs))=U0:=⟨_,rfl⟩;rw[hU0] at hU ⊢
 have hoU:=Cn U0;obtain⟨yss,hy⟩:∃yss,otr U0=yss:=⟨_,rfl⟩;rw[hy] at hU hoU
 have hyl:yss.length=aE U0:=by rw[<-hy,mU]
 have hfac:∀i,i<aE U0->∀t,gx (gt yss i) t=gx (ax (gt (otr A0) i) (tr xs)) t:=fun i hi t=>by
  have h1:=iW U0;have h2:U0.length=(otr A0).length:=by rw[<-hU0,List.length_map]
  rw[<-hy,wI,<-hU0,DT _ _ _ (by omega),jC]
 generalize aE U0=nU at *
 have hen:∀i,i<nU->ad (gt yss i)=(gt yss i).length/\(gt yss i).length<=6/\∀t,((gx (gt yss i) t).natAbs:Int)<pw 3:=fun i hi=>by
  obtain⟨hs,g⟩:=hU;obtain⟨fs,hP,e1,e2,e3,-⟩:=g.ev i hi;exact⟨by rw[e2,hP.zl],by rw[hP.zl];exact e3,fun t=>oG (K:=3) hP t⟩
 have hea:∀i,i<nU->ad (gt (otr A0) i)<=3/\∀t,zb (gx (gt (otr A0) i) t)<=32:=fun i hi=>by
  obtain⟨hs,g⟩:=HZ4.out.2.2.2;rcases Ju i (aE A0) with h9|h9
  ·obtain⟨fs,hP,e1,e2,e3,-⟩:=g.ev i h9
   exact⟨by rw[e2];exact e3,fun t=>nG (by have:=oG (K:=1) hP t;exact this)⟩
  ·have e:gt (otr A0) i=[]:=gy _ _ (by rw[mU];omega)
   rw[e];exact⟨by decide,fun t=>by rw[Sk.cS,pY];omega⟩
 have hnU:nU<=4:=by obtain⟨hs,g⟩:=hU;exact g.few
 have hGL:∃gl Hl:Nat->List Int,Md.GL yss nU gl Hl:=by
  rcases Jw nU with h0|h0
  ·subst h0
   exact⟨fun _=>[],fun _=>[],rfl,fun i hi=>by omega,fun i hi=>⟨rfl,by decide,fun t=>by simpa [gx] using bu 4⟩⟩
  ·have hz0:0<ad (tr xs):=by
    rcases Jw (ad (tr xs)) with h1|h1
    ·exfalso
     have h2:=ft (zss:=yss) (by omega)
     have h3:=aw _ h2;rw[hfac _ (by omega),Sk.ao,Sk.Ad fun i=>az _ i (by omega)] at h3
     exact h3 rfl
    ·exact h1
   obtain⟨gl,Hl,-,hG,-⟩:=Md.FB (yss:=yss) (ass:=otr A0) hz0 (by rw[HZ4.out.1.zl];exact HZ4.out.2.2.1) (fun t=>nG (by have:=oG (K:=1) HZ4.out.1 t;exact this)) (N:=nU) (by omega) hfac (fun i hi=>(hen i hi).1) (fun i hi=>by have:=(hen i hi).2.1;omega) (fun i hi t=>Int.lt_of_lt_of_le ((hen i hi).2.2 t) (aW (by decide))) (fun i hi=>(hea i hi).1) (fun i hi=>(hea i hi).2) nU (Jr _)
   exact⟨gl,Hl,hG⟩
 obtain⟨gl,Hl,hG⟩:=hGL;have HU:Hid (HR (3+1) (EY 8 8) w5 w4.heap.size w5.heap.size yss ⟨p5,nU,nU⟩/\aE yss=nU/\Md.GL yss nU gl Hl/\(∀i,i<nU->ad (gt yss i)=(gt yss i).length)/\(∀i,i<nU->∀t,((gx (gt yss i) t).natAbs:Int)<pw 4)/\Below w.heap.size w w5):=⟨HR.le hU (by decide) (by decide),hoU,hG,fun i hi=>(hen i hi).1,fun i hi t=>Int.lt_of_lt_of_le ((hen i hi).2.2 t) (aW (by decide)),ae hB4 hb5⟩
 clear hU hoU hG hen hea hfac hU0 hy hyl hb5 hB4 HOA HZ4;have hto:=EC (K:=5) HU.out.1 (Jr _) (by decide) (by decide) (by decide) (by decide)
 go_wp2_with fail;go_fit hto;rintro r w6 ⟨⟨p6,n6,c6⟩,rfl,hn6,hB,hb6⟩;simp only at hn6
 subst hn6;clear hto;dsimp only[Hdr.val];have H6:Hid (HR (3+1) (EY 8 8) w6 w4.heap.size w5.heap.size yss ⟨p5,n6,n6⟩/\HR (3+1) (EZ 5 8) w6 w5.heap.size w6.heap.size yss ⟨p6,n6,c6⟩/\w5.heap.size<=w6.heap.size/\Below w.heap.size w w6):=⟨(cT (bO 8 8)).below HU.out.1 (Jr _) hb6,hB,hb6.size,ae HU.out.2.2.2.2.2 hb6⟩;clear hB hb6;have hct:=oB H6.out.2.1 (Jr _) (by decide) HU.out.2.2.1 HU.out.2.2.2.1 (HX.out.2.2.below H6.out.2.2.2)
 go_wp2_with fail;go_fit hct;rintro r w7 ⟨p7,n7,e7,rfl,hC,hb7⟩;clear hct;have hpm:=Cl ((cT (df 5 8)).below H6.out.2.1 (Jr _) hb7) hb7.size (by decide) HU.out.2.2.1 HU.out.2.2.2.1 HU.out.2.1 (HX.out.2.2.below (ae H6.out.2.2.2 hb7))
 rw[HU.out.2.1] at hpm
 simp only at hpm;obtain⟨LP,hLP⟩:∃LP,(List.range n6).map (fun i=>quo (gt yss i) (sgc (gx (gt yss (n6-1)) (ad (gt yss (n6-1))-1)) (gl n6)))=LP:=⟨_,rfl⟩
 rw[hLP] at hpm
 go_wp2_with fail;go_fit hpm;rintro r w8 ⟨p8,h8,rfl,hD8,hb8⟩;clear hpm;have hb78:=ae hb7 hb8;have H8:Hid (PN 0 w8 (5+70) p7 n7 e7 (gl n6)/\NO w7.heap.size w8 17 13 (otr LP) p8 (aE LP) h8/\HR (3+1) (EY 8 8) w8 w4.heap.size w5.heap.size yss ⟨p5,n6,n6⟩/\w5.heap.size<=w8.heap.size/\Below w.heap.size w w8):=⟨hC.below hb8,hD8,(cT (bO 8 8)).below H6.out.1 H6.out.2.2.1 hb78,JA H6.out.2.2.1 hb78.size,ae H6.out.2.2.2 hb78⟩;have HLP:=(show Hid _ from hLP)
 clear hC hD8 hb7 hb8 hb78 hLP;rcases Jw n6 with h0|h0
 ·subst h0
  have e7:n7=0:=by
   have h1:=H8.out.1.zl;rw[HU.out.2.2.1.z] at h1
   exact h1.symm
  have e8:aE LP=0:=by rw[<-HLP.out];rfl
  rw[e8];subst e7;have HB:Hid (Below w.heap.size w w8):=H8.out.2.2.2.2;clear H8 HU e8 HLP;go_wp2;go_ret;exact⟨rfl,HB.out⟩
 ·have i0:((n6:Int)==0)=false:=by rw[beq_eq_false_iff_ne];omega
  have i1:¬(n6:Int)=0:=by omega
  have HS:Hid (otr LP=rpl ((List.range n6).map fun i=>quo (gt yss i) (gl n6))):=by
   have hgt:=HU.out.2.2.1.t n6 (Jr _);have h1:=ft (zss:=yss) (by rw[HU.out.2.1];exact h0)
   have h2:=(Md.gk (HU.out.2.2.1.all HU.out.2.2.2.1 (i:=aE yss-1) (by rw[HU.out.2.1];omega)) h1).2
   rw[<-HLP.out];exact ue HU.out.2.1 h0 hgt.1 (by have:=hgt.1;omega) (HU.out.2.2.1.pos (by have:=hgt.1;omega)) (fun i hi=>HU.out.2.2.1.all HU.out.2.2.2.1 hi) rfl
  have hrc:=nM H8.out.2.2.1 (by decide) H8.out.2.2.2.1 (by decide) HU.out.2.2.1
  go_wp2_with fail;go_fit hrc;rintro r w9 ⟨p9,n9,e9,rfl,hR9,hb9⟩;clear hrc;have hn9:n9=n7:=by have h1:=hR9.zl;have h2:=H8.out.1.zl;omega
  subst hn9;have his:=xP (H8.out.1.below hb9) hR9 (by decide) (by decide) (by have h1:=hR9.zl;have:=(HU.out.2.2.1.t n6 (Jr _)).2.1;omega)
  clear hR9;go_wp2_with fail;go_fit his;rintro r w10 ⟨rfl,hb10⟩;clear his;have hb11:=ae hb9 hb10;have hrp:=AR ((cT (bO 8 8)).below H8.out.2.2.1 H8.out.2.2.2.1 hb11) (JA H8.out.2.2.2.1 hb11.size) (by decide) HU.out.2.2.1 HU.out.2.2.2.1 HU.out.2.1 h0 HU.out.2.2.2.2.1
  go_wp2_with fail;go_fit hrp;rintro r w12 ⟨⟨p12,n12,c12⟩,rfl,hR12,hb12⟩;clear hrp;dsimp only[Hdr.val];have his8:=Ez ((H8.out.2.1.below hb11).below hb12) (by rw[HS.out];exact hR12) (Jr _) (by decide) (by decide) (by decide) (by decide)
  have HB:Hid (Below w.heap.size w w12):=ae (ae H8.out.2.2.2.2 hb11) hb12;clear hb9 hb10 hb11 hb12 hR12;generalize aE LP=oL at *
  go_wp2_with fail;go_fit his8;rintro r w13 ⟨rfl,hb13⟩;have HB13:Hid (Below w.heap.size w w13):=ae HB.out hb13;clear his8 hb13;go_wp2;go_ret;exact⟨rfl,HB13.out⟩
open Go.ChangeShapes Go.WideShapes Go.ChangeAt Go.RowKit Go.Joins
variable {W:World} {base:Nat}
theorem Iy{H:Type}{enc:TypeId×Value->H}{v0:Value}{d0:DataW H}{p0:List MemPlace}(hv:Value.okWide Tryz.prog W .any base 23 v0)
  (h0:DataW.Trod enc Tryz.prog W 0 (fun _=>true) true 23 v0 d0 p0):∃(p:Option Addr) (n nc:Nat) (hs:List Hdr),v0=.slice p n nc/\RZ W p n nc hs:=by
 obtain⟨a0,len,cap,rfl⟩:=okWide_slice Tryz.underlying23 hv;obtain⟨fuel,hf⟩:=h0;obtain⟨-,h1,h2,h3,hs,h4,h5,h6⟩:=IV Tryz.underlying23 Ig hf (E:=fun h=>∃es,PZ W h.p h.n h.c es) (fun fuel u y hy=>Jf hy)
 exact⟨a0,len,cap,hs,rfl,h4,h1,h2,h3,h5,h6⟩
end Go.Proofs.YtdjjlghlcffflaaGreatDoor
