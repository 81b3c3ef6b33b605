/- Own. -/
import Derived.Test.YtdjjlghlcffflaaGreatDoorG3
set_option linter.unusedVariables false
set_option linter.unusedSimpArgs false
set_option maxHeartbeats 8000000
set_option maxRecDepth 100000
namespace Go.Proofs.YtdjjlghlcffflaaGreatDoor.Ev
open Go.RowKit
section
variable {P:Program} {ops:Array Oper} {Q:Exit->Act->World->Prop} {F:Fence} {n:Nat}
theorem rX{l:Array Bool}{i:Nat}(h:l.getD i true=false):(l.setIfInBounds i true).toList.count false<l.toList.count false:=by
 have hi:i<l.size:=by
  rcases Nat.lt_or_ge i l.size with h'|h'
  ·exact h'
  ·simp[Array.getElem?_eq_none h'] at h
 have hv:l.toList[i]'(by simpa using hi)=false:=by simpa [hi] using h
 have hp:0<l.toList.count false:=List.count_pos_iff.2 (hv ▸ List.getElem_mem _);rw[Array.toList_setIfInBounds,List.count_set (by simpa using hi),hv]
 show _-1+0<_
 omega
theorem tY{md:Region.Mode}{listed:Array Bool}{i:Nat}:i∈Region.ready md ops listed<->listed.getD i true=false/\∃o,ops[i]?=some o/\∀e∈o.after,Region.binds md e=true->listed.getD e.on false=true:=by
 unfold Region.ready;rw[List.mem_filter,List.mem_range];constructor
 ·rintro⟨hi,h⟩
  simp only[Bool.and_eq_true,Bool.not_eq_true'] at h
  refine⟨h.1,ops[i],Array.getElem?_eq_getElem hi,fun e he hb=>?_⟩
  have h2:=h.2;rw[Array.getElem?_eq_getElem hi] at h2
  simp only[Option.map_some,Option.getD_some,Array.all_eq_true_iff_forall_mem] at h2
  have:=h2 e he;rw[hb] at this
  simpa using this
 ·rintro⟨h1,o,ho,h2⟩
  have hi:i<ops.size:=(Array.getElem?_eq_some_iff.1 ho).1;refine⟨hi,?_⟩;simp only[Bool.and_eq_true,Bool.not_eq_true'];refine⟨h1,?_⟩;rw[ho];simp only[Option.map_some,Option.getD_some,Array.all_eq_true_iff_forall_mem];intro e he
  cases hb:Region.binds md e with
  |false=>rfl
  |true=>simpa using h2 e he hb
def vN(ops:Array Oper):Prop:=∀(i:Nat) (o:Oper),ops[i]?=some o->∀e∈o.after,Region.binds .any e=true->e.on<i
theorem yR(ha:vN ops){listed:Array Bool}(hs:listed.size=ops.size)(hr:Region.ready .any ops listed=[]):∀j,j<ops.size->listed.getD j false=true:=by
 intro j;induction j using Nat.strongRecOn with
 |_ j ih=>
  intro hj
  cases hc:listed.getD j false with
  |true=>rfl
  |false=>
   exfalso;have ho:ops[j]?=some ops[j]:=Array.getElem?_eq_getElem hj;have hc2:listed.getD j true=false:=by
    have:j<listed.size:=by omega
    simpa [this] using hc
   have:j∈Region.ready .any ops listed:=tY.2 ⟨hc2,ops[j],ho,fun e he hb=>ih e.on (ha j _ ho e he hb) (by have:=ha j _ ho e he hb;omega)⟩
   rw[hr] at this
   cases this
theorem yM(I:Array Bool->Act->World->Prop)(ha:vN ops)
  (hend:∀listed a w,I listed a w->(∀j,j<ops.size->listed.getD j false=true)->Q .normal a w)
  (hsz:∀listed a w,I listed a w->listed.size=ops.size)
  (hstep:∀listed a w,I listed a w->∀i o,ops[i]?=some o->listed.getD i false=false->(∀e∈o.after,Region.binds .any e=true->listed.getD e.on false=true)->wpOpIn F n P ops Q i (fun a' w'=>I (listed.setIfInBounds i true) a' w') a w):
  ∀(fuel:Nat) (listed:Array Bool) (a:Act) (w:World),listed.toList.count false<=fuel->I listed a w->wpAnyIn F n P .any ops Q fuel listed a w:=by
 intro fuel;induction fuel with
 |zero=>
  intro listed a w hc hI;have hr:Region.ready .any ops listed=[]:=by
   rw[List.eq_nil_iff_forall_not_mem];intro j hj;have h1:=rX (tY.1 hj).1;omega
  exact⟨hr,hend _ _ _ hI (yR ha (hsz _ _ _ hI) hr)⟩
 |succ fuel ih=>
  intro listed a w hc hI;refine⟨fun hr=>hend _ _ _ hI (yR ha (hsz _ _ _ hI) hr),fun i hi=>?_⟩
  obtain⟨h0,o,ho,hd⟩:=tY.1 hi;have h0':listed.getD i false=false:=by
   have h1:i<listed.size:=by
    have:=(Array.getElem?_eq_some_iff.1 ho).1;have:=hsz _ _ _ hI;omega
   simpa [h1] using h0
  exact wpOpIn_mono (fun a' w' h=>ih _ _ _ (by have:=rX h0;omega) h) (hstep _ _ _ hI i o ho h0' hd)
end
section
variable {P:Program} {ops:Array Oper}
theorem eval_congr{f1 f2:Fr}{x:Operand}(h:∀t,x=.tmp t->f1.get t=f2.get t):f1.eval x=f2.eval x:=by
 cases x with
 |tmp t=>simp only[Fr.eval];rw[h t rfl]
 |_=>rfl
theorem jo{f1 f2:Fr}:∀{xs:List Operand},(∀t,Operand.tmp t∈xs->f1.get t=f2.get t)->f1.fG xs=f2.fG xs
 | [],_=>rfl
 |x::xs,h=>by
  simp only[Fr.fG];rw[eval_congr (x:=x) fun t e=>h t (by simp[e]),jo fun t ht=>h t (by simp[ht])]
theorem lH{f1 f2:Fr}:∀{xs:List (Nat×Operand)},(∀t,Operand.tmp t∈xs.map (·.2)->f1.get t=f2.get t)->f1.parts xs=f2.parts xs
 | [],_=>rfl
 |(i,x)::xs,h=>by
  simp only[Fr.parts];rw[eval_congr (x:=x) fun t e=>h t (by simp[e]),lH fun t ht=>h t (by
   simp only[List.map_cons,List.mem_cons];exact .inr ht)]
theorem lG{f1 f2:Fr}{x:Option Operand}(h:∀t,x=some (.tmp t)->f1.get t=f2.get t):f1.iu x=f2.iu x:=by
 cases x with
 |none=>rfl
 |some y=>simp only[Fr.iu];rw[eval_congr fun t e=>h t (by rw[e])]
theorem Am{f1 f2:Fr}{op:Op}{s:St}(h:∀t,Operand.tmp t∈op.operands.toList->f1.get t=f2.get t):b_ P f1 op s=b_ P f2 op s:=by
 have ev:∀x,x∈op.operands.toList->f1.eval x=f2.eval x:=fun x hx=>eval_congr fun t e=>h t (e ▸ hx)
 cases op with
 |call c=>
  simp only[b_,lT];have h1:f1.fG c.args.toList=f2.fG c.args.toList:=jo fun t ht=>h t (by simp only[Op.operands,Call.operands,Array.toList_append,List.mem_append];exact .inr ht)
  rw[h1]
  cases hc:c.callee with
  |builtin b=>rfl
  |invoke r m=>
   have h2:f1.eval r=f2.eval r:=ev r (by simp[Op.operands,Call.operands,hc])
   simp only[h2]
  |value f=>
   have h2:f1.eval f=f2.eval f:=ev f (by simp[Op.operands,Call.operands,hc])
   simp only[h2]
 |build t ps=>
  simp only[b_];rw[lH fun t ht=>h t (by simpa [Op.operands] using ht)]
 |buildSlice t l ps=>
  simp only[b_];rw[lH fun t ht=>h t (by simpa [Op.operands] using ht)]
 |makeFunc fn first captured=>
  simp only[b_];rw[jo (xs:=first.toList) fun t ht=>h t (by simp only[Op.operands,Array.toList_append,List.mem_append];exact .inl ht),jo (xs:=captured.toList) fun t ht=>h t (by simp only[Op.operands,Array.toList_append,List.mem_append];exact .inr ht)]
 |slice t x lo hi mx=>
  simp only[b_];rw[ev x (by simp[Op.operands]),lG (x:=lo) fun t e=>h t (by simp[Op.operands,e]),lG (x:=hi) fun t e=>h t (by simp[Op.operands,e]),lG (x:=mx) fun t e=>h t (by simp[Op.operands,e])]
 |move x=>simp only[b_];rw[ev x (by simp[Op.operands])]
 |assign x=>simp only[b_];rw[ev x (by simp[Op.operands])]
 |pick c x y=>simp only[b_];rw[ev c (by simp[Op.operands]),ev x (by simp[Op.operands]),ev y (by simp[Op.operands])]
 |box e x=>simp only[b_];rw[ev x (by simp[Op.operands])]
 |load t x=>simp only[b_];rw[ev x (by simp[Op.operands])]
 |store t x y=>simp only[b_];rw[ev x (by simp[Op.operands]),ev y (by simp[Op.operands])]
 |nilCheck x=>simp only[b_];rw[ev x (by simp[Op.operands])]
 |binOp o t x y u=>simp only[b_];rw[ev x (by simp[Op.operands]),ev y (by simp[Op.operands])]
 |unOp o t x=>simp only[b_];rw[ev x (by simp[Op.operands])]
 |convert s d x=>simp only[b_];rw[ev x (by simp[Op.operands])]
 |makeInterface t x=>simp only[b_];rw[ev x (by simp[Op.operands])]
 |makeSlice t x y=>simp only[b_];rw[ev x (by simp[Op.operands]),ev y (by simp[Op.operands])]
 |fieldAddr t x f=>simp only[b_];rw[ev x (by simp[Op.operands])]
 |field t x f=>simp only[b_];rw[ev x (by simp[Op.operands])]
 |indexAddr t x y=>simp only[b_];rw[ev x (by simp[Op.operands]),ev y (by simp[Op.operands])]
 |index t x y=>simp only[b_];rw[ev x (by simp[Op.operands]),ev y (by simp[Op.operands])]
 |typeAssert x a b c=>simp only[b_];rw[ev x (by simp[Op.operands])]
 |extract x i=>simp only[b_];rw[ev x (by simp[Op.operands])]
 |_=>rfl
theorem iY{f1 f2 f1':Fr}{dst:Option Tmp}{v:LV}(hn:f1.nt=f2.nt)(h:f1.put dst v=some f1'):∃f2',f2.put dst v=some f2':=by
 unfold Fr.put at h ⊢
 cases dst with
 |none=>exact⟨f2,rfl⟩
 |some d=>
  obtain⟨h1,_⟩:=ay h;dsimp only;rw[<-hn,h1];exact⟨_,rfl⟩
theorem ml{f1 f1':Fr}{dst:Option Tmp}{v:LV}(hr:f1.nt<1000000000)(h:f1.put dst v=some f1')(t:Nat):f1'.get t=if dst=some t then v else f1.get t:=by
 unfold Fr.put at h
 cases dst with
 |none=>cases h;simp
 |some d=>
  obtain⟨h1,h⟩:=ay h
  cases h
  have hd:Nat.succ d<=f1.nt:=Nat.le_of_ble_eq_true h1;unfold Fr.get;dsimp only;rw[Tr.l6 40 _ _ _ _ (by omega)]
  by_cases e:t=d
  ·subst e;simp
  ·rw[if_neg e,if_neg (by simpa using fun e2:d=t=>e e2.symm)]
theorem oQ{rec:Task->St->Option (Ans×St)}{o:Oper}{f1 f1':Fr}{s s':St}(h:et P rec ops o f1 s=some (f1',s')):∃v,f1.put o.dst v=some f1'/\∀f2:Fr,f2.nt=f1.nt->(∀t∈fJ ops o,f1.get t=f2.get t)->∃f2',f2.put o.dst v=some f2'/\et P rec ops o f2 s=some (f2',s'):=by
 have hw:∀f2:Fr,(∀t∈fJ ops o,f1.get t=f2.get t)->dN f2 ops o=dN f1 ops o:=by
  intro f2 hl;unfold dN
  cases hg:o.guard with
  |none=>rfl
  |some p=>
   obtain⟨j,want⟩:=p;dsimp only
   cases hj:ops[j]? with
   |none=>rfl
   |some g=>
    dsimp only
    cases hd:g.dst with
    |none=>rfl
    |some d=>
     dsimp only;rw[hl d (by unfold fJ;rw[hg];simp[hj,hd])]
 have ho:∀f2:Fr,(∀t∈fJ ops o,f1.get t=f2.get t)->b_ P f2 o.op s=b_ P f1 o.op s:=fun f2 hl=>(Am fun t ht=>hl t (by
  unfold fJ;refine List.mem_append.2 (.inl (List.mem_filterMap.2 ⟨_,ht,rfl⟩)))).symm
 unfold et at h
 rcases fF h with ⟨hc,h⟩|⟨hc,h⟩
 ·split at h
  ·rename_i v s1 hop
   split at h
   ·rename_i hp
    cases h
    refine⟨v,hp,fun f2 hn hl=>?_⟩
    obtain⟨f2',h2⟩:=iY hn.symm hp;refine⟨f2',h2,?_⟩;unfold et;rw[hw f2 hl,hc,cond_true,ho f2 hl,hop];simp only[h2]
   ·cases h
  ·rename_i s1 hop
   split at h
   ·rename_i hp
    cases h
    refine⟨.un,hp,fun f2 hn hl=>?_⟩
    obtain⟨f2',h2⟩:=iY hn.symm hp;refine⟨f2',h2,?_⟩;unfold et;rw[hw f2 hl,hc,cond_true,ho f2 hl,hop];simp only[h2]
   ·cases h
  ·rename_i f args s1 hop
   split at h
   ·rename_i v s2 hrec
    split at h
    ·rename_i hp
     cases h
     refine⟨v,hp,fun f2 hn hl=>?_⟩
     obtain⟨f2',h2⟩:=iY hn.symm hp;refine⟨f2',h2,?_⟩;unfold et;rw[hw f2 hl,hc,cond_true,ho f2 hl,hop];simp only[hrec,h2]
    ·cases h
   ·cases h
  ·rename_i n0 r0 f0 s1 hop
   obtain⟨hchk,h⟩:=ay h;split at h
   ·rename_i v s2 hrnd
    split at h
    ·rename_i hp
     cases h
     refine⟨v,hp,fun f2 hn hl=>?_⟩
     obtain⟨f2',h2⟩:=iY hn.symm hp;refine⟨f2',h2,?_⟩;unfold et;rw[hw f2 hl,hc,cond_true,ho f2 hl,hop];simp only[hchk,cond_true,hrnd,h2]
    ·cases h
   ·cases h
  ·cases h
 ·split at h
  ·rename_i hp
   cases h
   refine⟨.un,hp,fun f2 hn hl=>?_⟩
   obtain⟨f2',h2⟩:=iY hn.symm hp;refine⟨f2',h2,?_⟩;unfold et;rw[hw f2 hl,hc,cond_false];simp only[h2]
  ·cases h
theorem uG(acc:List Nat):∀(es:List Edge) (m0 k:Nat),(es.foldl (fun m e=>cond (Region.binds .any e) (m|||2^e.on|||(acc[e.on]?.getD 0)) m) m0).testBit k=true->m0.testBit k=true\/∃e∈es,Region.binds .any e=true/\(k=e.on\/(acc[e.on]?.getD 0).testBit k=true)
 | [],m0,k,h=>.inl h
 |e::es,m0,k,h=>by
  simp only[List.foldl_cons] at h
  rcases uG acc es _ k h with h1|⟨e',he',hb,hk⟩
  ·cases hb:Region.binds .any e with
   |false=>rw[hb] at h1;exact .inl h1
   |true=>
    rw[hb] at h1
    simp only[cond_true,Nat.testBit_or,Bool.or_eq_true] at h1
    rcases h1 with (h1|h1)|h1
    ·exact .inl h1
    ·rw[Nat.testBit_two_pow] at h1
     exact .inr ⟨e,by simp,hb,.inl (by simpa using (of_decide_eq_true h1).symm)⟩
    ·exact .inr ⟨e,by simp,hb,.inr h1⟩
  ·exact .inr ⟨e',by simp[he'],hb,hk⟩
theorem sw:∀(os:List Oper) (acc:List Nat),(∀j,j<acc.length->(eJ os acc)[j]?=acc[j]?)/\(eJ os acc).length=acc.length+os.length/\
  ∀(j:Nat) (o:Oper),os[j]?=some o->∃m,(eJ os acc)[acc.length+j]?=some m/\∀k,m.testBit k=true->∃e∈o.after.toList,Region.binds .any e=true/\(k=e.on\/∃m',(eJ os acc)[e.on]?=some m'/\m'.testBit k=true)
 | [],acc=>by simp[eJ]
 |o::os,acc=>by
  obtain⟨h1,h2,h3⟩:=sw os (acc++[o.after.toList.foldl (fun m e=>cond (Region.binds .any e) (m|||2^e.on|||(acc[e.on]?.getD 0)) m) 0])
  have hm:eJ (o::os) acc=eJ os (acc++[o.after.toList.foldl (fun m e=>cond (Region.binds .any e) (m|||2^e.on|||(acc[e.on]?.getD 0)) m) 0]):=rfl
  rw[hm];refine⟨fun j hj=>?_,by rw[h2];simp;omega,fun j o' ho'=>?_⟩
  ·rw[h1 j (by simp;omega),List.getElem?_append_left hj]
  ·cases j with
   |zero=>
    simp only[List.getElem?_cons_zero,Option.some.injEq] at ho'
    subst ho';refine⟨o.after.toList.foldl (fun m e=>cond (Region.binds .any e) (m|||2^e.on|||(acc[e.on]?.getD 0)) m) 0,by rw[Nat.add_zero,h1 _ (by simp),List.getElem?_append_right (Nat.le_refl _),Nat.sub_self];rfl,fun k hk=>?_⟩
    rcases uG acc _ 0 k hk with h4|⟨e,he,hb,h5⟩
    ·simp at h4
    ·refine⟨e,he,hb,?_⟩
     rcases h5 with h5|h5
     ·exact .inl h5
     ·cases ha:acc[e.on]? with
      |none=>rw[ha] at h5;simp at h5
      |some m'=>
       rw[ha] at h5
       have hlt:=(List.getElem?_eq_some_iff.1 ha).1;exact .inr ⟨m',by rw[h1 _ (by simp;omega),List.getElem?_append_left hlt];exact ha,h5⟩
   |succ j=>
    simp only[List.getElem?_cons_succ] at ho'
    obtain⟨m,h4,h5⟩:=h3 j o' ho';refine⟨m,?_,h5⟩;rw[<-h4,List.length_append,List.length_singleton];congr 1;omega
end
def dc(S:Nat->St)(j:Nat):Met:=⟨j,(S j).next,(S (j+1)).next,(S (j+1)).fp,(S (j+1)).wr⟩
section
variable {P:Program} {ops:Array Oper} {rec:Task->St->Option (Ans×St)}
theorem qh{m:Nat}{b:Met}:∀{ms:List Met},pA m b ms=true->∀a∈ms,m.testBit a.i=true\/py a b=true
 | [],_,a,h=>by cases h
 |x::xs,h,a,ha=>by
  simp only[pA,Bool.and_eq_true,Bool.or_eq_true] at h
  rcases List.mem_cons.1 ha with rfl|ha
  ·exact h.1
  ·exact qh h.2 a ha
theorem nN:∀(os:List Oper) (mk:List Nat) (i:Nat) (ms:List Met) (fr:Fr) (s:St) (fr':Fr) (s':St) (ms':List Met),gV P rec ops os mk i ms fr s=some (fr',s',ms')->
  ∃(S:Nat->St) (R:Nat->Fr),S i=s/\R i=fr/\S (i+os.length)=s'/\R (i+os.length)=fr'/\
   (∀j o,os[j]?=some o->∃m,mk[j]?=some m/\et P rec ops o (R (i+j)) (S (i+j)).base=some (R (i+j+1),S (i+j+1))/\(∀a∈ms,m.testBit a.i=true\/py a (dc S (i+j))=true)/\∀k,k<j->m.testBit (i+k)=true\/py (dc S (i+k)) (dc S (i+j))=true)/\
   (∀a∈ms,a∈ms')/\(∀j,j<os.length->dc S (i+j)∈ms')/\∀a∈ms',a∈ms\/∃j,j<os.length/\a=dc S (i+j)
 | [],mk,i,ms,fr,s,fr',s',ms',h=>by
  cases mk<;>(simp only[gV,Option.some.injEq,Prod.mk.injEq] at h;obtain⟨rfl,rfl,rfl⟩:=h;exact⟨fun _=>s,fun _=>fr,rfl,rfl,rfl,rfl,fun j o hj=>by simp at hj,fun a ha=>ha,fun j hj=>by simp at hj,fun a ha=>.inl ha⟩)
 |o::os,[],i,ms,fr,s,fr',s',ms',h=>by simp[gV] at h
 |o::os,m::mk,i,ms,fr,s,fr',s',ms',h=>by
  simp only[gV,vi] at h
  split at h
  ·rename_i f1 s1 h1
   obtain⟨hfree,h⟩:=ay h;obtain⟨S,R,hS,hR,hS',hR',hall,hin,hmem,hback⟩:=nN os mk (i+1) (⟨i,s.next,s1.next,s1.fp,s1.wr⟩::ms) f1 s1 fr' s' ms' h;have sh:∀j,i+1+j=i+(j+1):=fun j=>by omega
   refine⟨fun k=>if k=i then s else S k,fun k=>if k=i then fr else R k,by simp,by simp,?_,?_,?_,?_,?_,?_⟩
   ·dsimp only;rw[if_neg (by simp),<-hS'];congr 1;simp;omega
   ·dsimp only;rw[if_neg (by simp),<-hR'];congr 1;simp;omega
   ·intro j o' hj
    have hmet:dc (fun k=>if k=i then s else S k) i=⟨i,s.next,s1.next,s1.fp,s1.wr⟩:=by
     unfold dc;simp[hS]
    have hmet2:∀k,dc (fun k=>if k=i then s else S k) (i+(k+1))=dc S (i+1+k):=fun k=>by
     unfold dc;dsimp only;rw[if_neg (by omega),if_neg (by omega),<-sh]
    cases j with
    |zero=>
     simp only[List.getElem?_cons_zero,Option.some.injEq] at hj
     subst hj;refine⟨m,rfl,?_,?_,fun k hk=>by omega⟩
     ·simp only[Nat.add_zero,if_pos,if_neg (show ¬i+1=i by omega),hS,hR]
      exact h1
     ·intro a ha
      rw[Nat.add_zero,hmet];exact qh hfree a ha
    |succ j=>
     simp only[List.getElem?_cons_succ] at hj
     obtain⟨m',hm',hrun,hms,hks⟩:=hall j o' hj;refine⟨m',by simpa using hm',?_,?_,?_⟩
     ·dsimp only
      rw[if_neg (by omega),if_neg (by omega),if_neg (by omega),if_neg (by omega),<-sh]
      exact hrun
     ·intro a ha
      rw[hmet2];exact hms a (by simp[ha])
     ·intro k hk
      rw[hmet2]
      cases k with
      |zero=>
       rw[Nat.add_zero,hmet];exact hms ⟨i,s.next,s1.next,s1.fp,s1.wr⟩ (by simp)
      |succ k=>
       rw[hmet2,<-sh];exact hks k (by omega)
   ·exact fun a ha=>hin a (by simp[ha])
   ·intro j hj
    cases j with
    |zero=>
     have:dc (fun k=>if k=i then s else S k) i=⟨i,s.next,s1.next,s1.fp,s1.wr⟩:=by
      unfold dc;simp[hS]
     rw[Nat.add_zero,this];exact hin _ (by simp)
    |succ j=>
     have hmet2:dc (fun k=>if k=i then s else S k) (i+(j+1))=dc S (i+1+j):=by
      unfold dc;dsimp only;rw[if_neg (by omega),if_neg (by omega),sh j]
     rw[hmet2];exact hmem j (by simpa using hj)
   ·intro a ha
    rcases hback a ha with ha|⟨j,hj,rfl⟩
    ·rcases List.mem_cons.1 ha with rfl|ha
     ·refine .inr ⟨0,by simp,?_⟩
      unfold dc;simp[hS]
     ·exact .inl ha
    ·refine .inr ⟨j+1,by simpa using hj,?_⟩
     unfold dc;dsimp only;rw[if_neg (by omega),if_neg (by omega),sh j]
  ·cases h
theorem sX{b:Oper}{mask:Nat}:∀{bs0:List Oper} {i:Nat},oS ops b mask bs0 i=true->∀(j:Nat) (x:Oper),bs0[j]?=some x->mask.testBit (i+j)=true\/(jt ops x b=true/\jt ops b x=true/\(∀d,x.dst=some d->b.dst≠some d))
 | [],i,_,j,x,hx=>by simp at hx
 |y::ys,i,h,j,x,hx=>by
  simp only[oS,Bool.and_eq_true,Bool.or_eq_true] at h
  cases j with
  |zero=>
   simp only[List.getElem?_cons_zero,Option.some.injEq] at hx
   subst hx;rcases h.1 with h1|⟨⟨h1,h2⟩,h3⟩
   ·exact .inl h1
   ·refine .inr ⟨h1,h2,fun d hd e=>?_⟩
    rw[hd] at h3
    simp[e] at h3
  |succ j=>
   simp only[List.getElem?_cons_succ] at hx
   have:=sX h.2 j x hx;rwa [show i+1+j=i+(j+1) by omega] at this
structure Trc(P:Program)(rec:Task->St->Option (Ans×St))(ops:Array Oper)(mk:List Nat)(S:Nat->St)(R:Nat->Fr):Prop where
 step:∀(j:Nat) (o:Oper),ops[j]?=some o->et P rec ops o (R j) (S j).base=some (R (j+1),S (j+1))
 free:∀(j:Nat),j<ops.size->∀k,k<j->(mk[j]?.getD 0).testBit k=true\/py (dc S k) (dc S j)=true
 ahead:vN ops
 sep:∀(j:Nat) (b:Oper),ops[j]?=some b->∀(k:Nat) (x:Oper),k<j->ops[k]?=some x->(mk[j]?.getD 0).testBit k=true\/(jt ops x b=true/\jt ops b x=true/\(∀d,x.dst=some d->b.dst≠some d))
 bits:∀(j:Nat) (o:Oper),ops[j]?=some o->∀k,(mk[j]?.getD 0).testBit k=true->∃e∈o.after,Region.binds .any e=true/\(k=e.on\/(mk[e.on]?.getD 0).testBit k=true)
theorem I1{fr fr':Fr}{s s':St}{ms:List Met}(hok:r_ ops (eJ ops.toList [])=true)(h:gV P rec ops ops.toList (eJ ops.toList []) 0 [] fr s=some (fr',s',ms)):
  ∃S R,Trc P rec ops (eJ ops.toList []) S R/\S 0=s/\R 0=fr/\S ops.size=s'/\R ops.size=fr'/\(∀j,j<ops.size->dc S j∈ms)/\∀a∈ms,∃j,j<ops.size/\a=dc S j:=by
 obtain⟨S,R,hS,hR,hS',hR',hall,_,hmem,hback⟩:=nN _ _ _ _ _ _ _ _ _ h;have hmk:=sw ops.toList [];have hok':∀(k:Nat) (o:Oper),ops[k]?=some o->∃m,(eJ ops.toList [])[k]?=some m/\(∀e∈o.after,Region.binds .any e=true->e.on<k)/\oS ops o m (ops.toList.take k) 0=true:=by
  intro k o ho;have hk:k<ops.size:=(Array.getElem?_eq_some_iff.1 ho).1;unfold r_ at hok
  have h1:=List.all_eq_true.1 hok k (List.mem_range.2 (by simpa using hk))
  have ho':ops.toList[k]?=some o:=by simpa using ho
  rw[ho'] at h1
  obtain⟨m,hm,_⟩:=hmk.2.2 k o ho';rw[List.length_nil,Nat.zero_add] at hm
  rw[hm] at h1
  simp only[Bool.and_eq_true] at h1
  refine⟨m,hm,fun e he hb=>?_,h1.2⟩
  have h2:=List.all_eq_true.1 h1.1 e (by simpa using he)
  rw[hb] at h2
  simp only[Bool.not_true,Bool.false_or] at h2
  exact Nat.le_of_ble_eq_true h2
 refine⟨S,R,⟨fun j o ho=>?_,fun j hj k hk=>?_,fun i o ho e he hb=>?_,fun j b hb k x hk hx=>?_,fun j o ho k hk=>?_⟩,by simpa using hS,by simpa using hR,by simpa using hS',by simpa using hR',fun j hj=>by simpa using hmem j (by simpa using hj),fun a ha=>?_⟩
 ·obtain⟨m,_,h1,_⟩:=hall j o (by simpa using ho)
  simpa using h1
 ·obtain⟨m,hm,_,_,h1⟩:=hall j ops[j] (by simp[hj])
  rw[hm];simpa using h1 k hk
 ·obtain⟨m,_,h1,_⟩:=hok' i o ho
  exact h1 e he hb
 ·obtain⟨m,hm,_,h1⟩:=hok' j b hb
  rw[hm];have h2:=sX h1 k x (by rw[List.getElem?_take,if_pos hk];simpa using hx)
  simpa using h2
 ·obtain⟨m,hm,h1⟩:=hmk.2.2 j o (by simpa using ho)
  rw[List.length_nil,Nat.zero_add] at hm
  rw[hm] at hk
  obtain⟨e,he,hb,h2⟩:=h1 k hk;refine⟨e,by simpa using he,hb,?_⟩
  rcases h2 with h2|⟨m',hm',h2⟩
  ·exact .inl h2
  ·exact .inr (by rw[hm'];exact h2)
 ·rcases hback a ha with ha|⟨j,hj,rfl⟩
  ·cases ha
  ·exact⟨j,by simpa using hj,by simp⟩
def Down(ops:Array Oper)(lst:Nat->Bool):Prop:=∀(i:Nat) (o:Oper),lst i=true->ops[i]?=some o->∀e∈o.after,Region.binds .any e=true->lst e.on=true
theorem gN{mk:List Nat}{S:Nat->St}{R:Nat->Fr}(T:Trc P rec ops mk S R){lst:Nat->Bool}(hd:Down ops lst):∀(i:Nat) (o:Oper),ops[i]?=some o->(∀e∈o.after,Region.binds .any e=true->lst e.on=true)->∀k,(mk[i]?.getD 0).testBit k=true->lst k=true:=by
 intro i;induction i using Nat.strongRecOn with
 |_ i ih=>
  intro o ho hl k hk;obtain⟨e,he,hb,h1⟩:=T.bits i o ho k hk;rcases h1 with rfl|h1
  ·exact hl e he hb
  ·have hlt:=T.ahead i o ho e he hb
   have hi:e.on<ops.size:=by have:=(Array.getElem?_eq_some_iff.1 ho).1;omega
   exact ih e.on hlt ops[e.on] (Array.getElem?_eq_getElem hi) (hd e.on _ (hl e he hb) (Array.getElem?_eq_getElem hi)) k h1
end
end Go.Proofs.YtdjjlghlcffflaaGreatDoor.Ev
