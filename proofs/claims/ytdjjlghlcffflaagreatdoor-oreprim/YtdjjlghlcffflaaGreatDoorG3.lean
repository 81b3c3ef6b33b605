/- Own. -/
import Derived.Test.YtdjjlghlcffflaaGreatDoorG1
import Derived.RecoverIn
set_option linter.unusedVariables false
set_option linter.unusedSimpArgs false
set_option maxHeartbeats 8000000
set_option maxRecDepth 100000
namespace Go.Proofs.YtdjjlghlcffflaaGreatDoor.Ev
open Go.RowKit
section
variable {P:Program}
theorem fg.round{F:Fence}{n:Nat}{c:Code}{Q:Exit->Act->World->Prop}{a:Act}{w:World}(h:c.wpIn F n P (Exit.then (fg F n P c Q) Q) a w):fg F n P c Q a w:=by
 intro b k cs hro hb hr;obtain⟨e,a₁,w₁,hq,harr⟩:=h b (.inLoop c::k) cs hro hb hr
 cases e with
 |normal=>
  obtain⟨e₂,a₂,w₂,hq₂,harr₂⟩:=hq b k cs hro hb hr;exact⟨e₂,a₂,w₂,hq₂,.of_steps (StepsIn.trans harr (.one (fenced_calm hb hr rfl) stepR_inLoop)) harr₂⟩
 |exit id=>exact⟨_,a₁,w₁,hq,.pass (x:=.inLoop c) rfl (fun _ _=>.inl (by simp)) harr⟩
 |goto l=>exact⟨_,a₁,w₁,hq,.pass (x:=.inLoop c) rfl (fun _ _=>.inl (by simp)) harr⟩
 |ret=>exact⟨_,a₁,w₁,hq,.pass (x:=.inLoop c) rfl (fun _ _=>.inl (by simp)) harr⟩
 |panic ch=>exact⟨_,a₁,w₁,hq,.pass (x:=.inLoop c) rfl (fun _ _=>.inl (by simp)) harr⟩
 |outgrown=>exact⟨_,a₁,w₁,hq,.pass (x:=.inLoop c) rfl (fun _ _=>.inl (by simp)) harr⟩
theorem vj{rec:Task->St->Option (Ans×St)}(hg:Good P rec)(hng:dZ P){ops:Array Oper}:∀(os:List Oper) (k:Nat) (fr fr':Fr) (s s':St),ops.toList.drop k=os->WF s->oR P rec ops os fr s=some (fr',s')->
  aA s s'/\fr'.rnd=fr.rnd/\∀(ro:Option Nat) (G:Nat->Prop) (ρ:Ren) (w:World) (a:Act) (Q:Exit->Act->World->Prop),Gok G s'->aV G ρ s.heap w->bg ρ s s'->bH ρ fr a->
   (∀ρ' w' a',Ext G s s' ρ ρ' w w'->bH ρ' fr' a'->Q .normal a' w')->wpOpsIn (Fw ro) 0 P ops Q (List.range' k os.length) a w
 | [],k,fr,fr',s,s',_,hw,h=>by
  cases h
  exact⟨aA.refl _,rfl,fun ro G ρ w a Q hG hr hf ht hQ=>hQ ρ w a (bB hr) ht⟩
 |o::os,k,fr,fr',s,s',hd,hw,h=>by
  simp only[oR] at h
  split at h
  ·rename_i f1 s1 h1
   obtain⟨hm1,hn1,ho⟩:=kD hg hng hw h1;have hk:ops[k]?=some o:=by
    have:(ops.toList.drop k)[0]?=some o:=by rw[hd];rfl
    simpa using this
   have hd':ops.toList.drop (k+1)=os:=by
    have:=congrArg (List.drop 1) hd;simpa [List.drop_drop] using this
   obtain⟨hm2,hn2,hos⟩:=vj hg hng os (k+1) f1 fr' s1 s' hd' (hm1.wf hw) h;refine⟨hm1.trans hm2,hn2.trans hn1.2.2,fun ro G ρ w a Q hG hr hf ht hQ=>?_⟩
   simp only[List.length_cons,List.range'_succ];rw[wpOpsIn_cons];unfold wpOpIn;rw[hk];refine ho ro G ρ w a _ Q (hG.back hm2) hr (hf.left hm2) ht fun ρ1 w1 a1 e1 ht1=>?_
   exact hos ro G ρ1 w1 a1 Q hG e1.rep (hf.right hm1 e1) ht1 fun ρ2 w2 a2 e2 ht2=>hQ ρ2 w2 a2 (e1.trans hw hm1 hm2 e2) ht2
  ·cases h
theorem put_defers{a:Act}{dst:Option Tmp}{v:Value}{ds:List Deferred}:Act.put {a with defers:=ds} dst v={a.put dst v with defers:=ds}:=by
 cases dst<;>rfl
theorem BC{ops:Array Oper}{o:Oper}{fr fr':Fr}{s:St}(h:wg P fr o s=some fr'):
  fr'.rnd=fr.rnd/\fr.rnd=false/\∀(ρ:Ren) (w:World) (a:Act) (K:Act->World->Prop) (Q:Exit->Act->World->Prop),bH ρ fr a->(∀a',bH ρ fr' a'->K a' w)->
   if Region.wanted o (yielded ops a.tmps) then o.wpIn (Fw none) 0 P a w K Q else (∀f,o.about P w a.eval=some f->(Fw none).fn f)/\K (a.put o.dst undef) w:=by
 unfold wg at h
 split at h
 ·rename_i c hop hgd hrd
  split at h
  ·rename_i f hcal hargs
   split at h
   ·rename_i g cap hev
    split at h
    ·rename_i x hent
     split at h
     ·rename_i tm nt ms rd hp
      cases h
      have hmk:=c_ hp;refine⟨hmk.2,hrd,fun ρ w a K Q ht hK=>?_⟩
      have hwt:Region.wanted o (yielded ops a.tmps)=true:=by unfold Region.wanted;rw[hgd]
      rw[hwt];simp only[if_true];refine⟨fun _ _=>trivial,?_⟩
      have hv:=aU ht hev;generalize hge:a.eval f=fv at hv
      cases hv
      rename_i x1 y h1 h2
      cases h1
      have hargs':c.args=#[]:=by
       apply Array.ext';exact hargs
      have hrun:(o.semAt (Fw none).round a.eval).run P w=.ok (.defer {target:=.fn (.func g) y.toArray,args:=#[]}) w:=by
       show(execOp a.eval o).run P w=_
       unfold execOp;rw[hop];simp only[resolve,hcal,hge,hargs'];simp[Deferred.ofValue]
      rw[hrun];show K _ w
      rw[put_defers];have ht2:=ht.put hp pV;exact hK _ ⟨ht2.size,ht2.val,ht2.room,.call (by simpa using h2) (by
       have h3:DfR ρ ms (a.put o.dst undef).defers:=ht2.dfs;have h4:(a.put o.dst undef).defers=a.defers:=by cases o.dst<;>rfl
       rw[h4] at h3
       exact h3)⟩
     ·cases h
    ·cases h
   ·cases h
  ·cases h
 ·cases h
theorem nj{rec:Task->St->Option (Ans×St)}(hg:Good P rec)(hng:dZ P){ops:Array Oper}:∀(os:List Oper) (k:Nat) (fr fr':Fr) (s s':St),ops.toList.drop k=os->WF s->mr P rec ops os fr s=some (fr',s')->
  aA s s'/\fr'.rnd=fr.rnd/\∀(ro:Option Nat) (G:Nat->Prop) (ρ:Ren) (w:World) (a:Act) (Q:Exit->Act->World->Prop),(fr.rnd=false->ro=none)->Gok G s'->aV G ρ s.heap w->bg ρ s s'->bH ρ fr a->
   (∀ρ' w' a',Ext G s s' ρ ρ' w w'->bH ρ' fr' a'->Q .normal a' w')->wpOpsIn (Fw ro) 0 P ops Q (List.range' k os.length) a w
 | [],k,fr,fr',s,s',_,hw,h=>by
  cases h
  exact⟨aA.refl _,rfl,fun ro G ρ w a Q hro hG hr hf ht hQ=>hQ ρ w a (bB hr) ht⟩
 |o::os,k,fr,fr',s,s',hd,hw,h=>by
  have hk:ops[k]?=some o:=by
   have:(ops.toList.drop k)[0]?=some o:=by rw[hd];rfl
   simpa using this
  have hd':ops.toList.drop (k+1)=os:=by
   have:=congrArg (List.drop 1) hd;simpa [List.drop_drop] using this
  simp only[mr] at h
  split at h
  ·rename_i f1 s1 h1
   obtain⟨hm1,hn1,ho⟩:=kD hg hng hw h1;obtain⟨hm2,hn2,hos⟩:=nj hg hng os (k+1) f1 fr' s1 s' hd' (hm1.wf hw) h;refine⟨hm1.trans hm2,hn2.trans hn1.2.2,fun ro G ρ w a Q hro hG hr hf ht hQ=>?_⟩
   simp only[List.length_cons,List.range'_succ];rw[wpOpsIn_cons];unfold wpOpIn;rw[hk];refine ho ro G ρ w a _ Q (hG.back hm2) hr (hf.left hm2) ht fun ρ1 w1 a1 e1 ht1=>?_
   exact hos ro G ρ1 w1 a1 Q (fun e=>hro (by rw[<-hn1.2.2];exact e)) hG e1.rep (hf.right hm1 e1) ht1 fun ρ2 w2 a2 e2 ht2=>hQ ρ2 w2 a2 (e1.trans hw hm1 hm2 e2) ht2
  ·split at h
   ·rename_i f1 h1
    obtain⟨hn1,hrd,ho⟩:=BC (ops:=ops) h1;obtain⟨hm2,hn2,hos⟩:=nj hg hng os (k+1) f1 fr' s s' hd' hw h;refine⟨hm2,hn2.trans hn1,fun ro G ρ w a Q hro hG hr hf ht hQ=>?_⟩
    have hro':=hro hrd;subst hro';simp only[List.length_cons,List.range'_succ];rw[wpOpsIn_cons];unfold wpOpIn;rw[hk];exact ho ρ w a _ Q ht fun a1 ht1=>hos none G ρ w a1 Q (fun _=>rfl) hG hr hf ht1 hQ
   ·cases h
theorem wH:∀(args:List LV) (i:Nat) (t:Tr LV) (j:Nat),i+args.length<1000000000->(qT args i t).get j=if i<=j/\j<i+args.length then args[j-i]? else t.get j
 | [],i,t,j,_=>by simp[qT];omega
 |v::vs,i,t,j,h=>by
  simp only[List.length_cons] at h
  simp only[qT];rw[wH vs (i+1) _ j (by omega),Tr.l6 40 _ _ _ _ (by omega)]
  by_cases e:j=i
  ·subst e
   rw[if_neg (by omega),if_pos rfl,if_pos (by simp)]
   simp
  ·by_cases e2:i+1<=j/\j<i+1+vs.length
   ·rw[if_pos e2,if_pos (by simp;omega)]
    have:j-i=(j-(i+1))+1:=by omega
    rw[this];simp
   ·rw[if_neg e2,if_neg e,if_neg (by simp;omega)]
theorem uC{ρ:Ren}{args:List LV}{xs:Array Value}{nt:Nat}(hx:VRs ρ args xs.toList)(hl:args.length<=nt)(hn:nt<1000000000):
  bH ρ ⟨qT args 0 .e,nt,[],false⟩ {tmps:=xs++Array.replicate (nt-xs.size) undef,defers:=[]}:=by
 have hlen:xs.size=args.length:=by have:=hx.length;simpa using this
 refine⟨by simp;omega,fun t=>?_,hn,.nil⟩
 unfold Fr.get;dsimp only;rw[wH args 0 .e t (by omega),Array.getD_eq_getD_getElem?]
 by_cases h:t<args.length
 ·rw[if_pos (by omega),Array.getElem?_append_left (by omega)]
  have hv:args[t]?=some args[t]:=List.getElem?_eq_getElem h;obtain⟨x,hx1,hvr⟩:=hx.get hv;have hx2:xs[t]?=some x:=by simpa using hx1
  rw[hx2];simpa [hv] using hvr
 ·rw[if_neg (by omega),Tr.jN,Array.getElem?_append_right (by omega)]
  have:(Array.replicate (nt-xs.size) undef)[t-xs.size]?.getD undef=undef:=by
   rw[Array.getElem?_replicate];split<;>rfl
  rw[this];exact pV
def vK(tmps:Array Value):ResultVar->Sem Value
 | .tmp t=>pure (tmps.getD t undef)
 | .cell q t=>do loadVar t (<-asAddr (tmps.getD q undef))
theorem sO(fn:Func)(tmps:Array Value):results fn tmps=(do let vs <-fn.results.mapM (vK tmps);pure (if h:vs.size=1 then vs[0] else .tuple vs)):=rfl
theorem nf{fr:Fr}:∀{rs:List ResultVar} {s s':St} {vs:List LV},WF s->i_ P fr s rs=some (vs,s')->
  aA s s'/\∀(G:Nat->Prop) (ρ:Ren) (w:World) (a:Act),Gok G s'->aV G ρ s.heap w->bH ρ fr a->
   ∃xs:List Value,(rs.mapM (vK a.tmps)).run P w=.ok xs w/\VRs ρ vs xs/\Ext G s s' ρ ρ w w
 | [],s,s',vs,hw,h=>by
  cases h
  exact⟨aA.refl _,fun G ρ w a hG hr ht=>⟨[],by simp,.nil,bB hr⟩⟩
 | .tmp t::rs,s,s',vs,hw,h=>by
  simp only[i_] at h
  split at h
  ·rename_i us s1 h1
   cases h
   obtain⟨hm,hk⟩:=nf hw h1;refine⟨hm,fun G ρ w a hG hr ht=>?_⟩
   obtain⟨xs,h2,h3,h4⟩:=hk G ρ w a hG hr ht;exact⟨_::xs,by simp only[List.mapM_cons,vK,Sem.run_bind,Sem.run_pure,Result.andThen_ok];rw[h2];rfl,.cons (ht.val t) h3,h4⟩
  ·cases h
 | .cell q t::rs,s,s',vs,hw,h=>by
  simp only[i_] at h
  split at h
  ·rename_i v s1 h1
   split at h
   ·rename_i us s2 h2
    cases h
    have hm1:=lF h1;obtain⟨hm,hk⟩:=nf (hm1.wf hw) h2;refine⟨hm1.trans hm,fun G ρ w a hG hr ht=>?_⟩
    obtain⟨v',hv',_,y,h3,h4,h5⟩:=n_ (P:=P) h1 (ht.val q) hw (hG.back hm) hr
    cases hv'
    obtain⟨xs,h6,h7,h8⟩:=hk G ρ w a hG h4.rep ht;refine⟨y::xs,?_,.cons h5 h7,h4.trans hw hm1 hm h8⟩;have hq:(do loadVar t (<-asAddr (a.tmps.getD q undef)):Sem Value).run P w=.ok y w:=by
     have hvq:=ht.val q;generalize a.tmps.getD q undef=qv at hvq h3 ⊢
     generalize fr.get q=ql at hvq h1
     cases hvq with
     |ptr hp=>simpa [Instr.loadAt,Instr.sureAddr,asAddr] using h3
     |_=>unfold fR at h1;cases h1
    have hq':(vK a.tmps (.cell q t)).run P w=.ok y w:=hq;rw[List.mapM_cons,Sem.run_bind,hq',Result.andThen_ok,Sem.run_bind,h6];rfl
   ·cases h
  ·cases h
theorem wC{G:Nat->Prop}{s:St}{n:Nat}{p:Pl}{ρ:Ren}{w w':World}(hw:WF s)(hl:Live s.heap n)(hG:G n)(hr:aV G ρ s.heap w)(hp:ρ n=some p)
  (hother:∀k,k≠p.blk->w'.heap[k]?=w.heap[k]?) (hsz:w'.heap.size=w.heap.size) (hos:w'.os=w.os) (hta:w'.tape=w.tape) (hou:w'.output=w.output):Ext G s (s.set n none) ρ ρ w w':=by
 have hlt:=cL hw hl;have h9:=Nat.lt_of_lt_of_le hlt hw.lt;have old:∀k,Live (s.set n none).heap k->k≠n/\Live s.heap k:=fun k h=>by
  unfold Live at h
  rw[dX _ h9] at h
  split at h
  ·exact absurd rfl h
  ·rename_i e;exact⟨e,h⟩
 refine⟨fun _ _=>rfl,⟨fun k c hGk hc=>?_,fun k j h1 h2 h3 h4=>hr.sep k j h1 h2 (old k h3).2 (old j h4).2,hr.tz.eN fun g hg=>hother g fun e=>hr.off n p hG hl hp (by rw[<-e];exact hg),fun k q hGk hlk hq=>hr.off k q hGk (old k hlk).2 hq⟩,fun k hk hne=>hother k fun e=>hne n p hG hl hp e.symm,by rw[hsz];exact Nat.le_refl _,hos,hta,hou,fun k q h1 h2 _ _=>by rw[cH] at h2;omega⟩
 have hlk:Live (s.set n none).heap k:=by unfold Live;rw[hc];simp
 have hk:=old k hlk;rw[dX _ h9,if_neg hk.1] at hc
 have hb:=hr.rep k c hGk hc;exact hb.eN (fun _ _ h=>h) fun q hq=>hother _ (hr.sep k n hGk hG hk.2 hl hk.1 q p hq hp)
theorem B5{b:Option Blk}(h:wK b=true):∃c,b=some c/\c.lp=some .marks:=by
 unfold wK at h
 split at h
 ·rename_i c
  split at h
  ·rename_i hl;exact⟨c,rfl,hl⟩
  ·cases h
 ·cases h
theorem yE{o:Oper}(h:kW o=true)(a:Act)(w:World):o.guard=none/\(execOp a.eval o).run P w=.ok .recover w:=by
 unfold kW at h
 split at h
 ·rename_i c hop hgd
  split at h
  ·rename_i hcal hargs
   refine⟨hgd,?_⟩;unfold execOp;rw[hop];simp only[resolve,hcal];simp[invoke,builtin]
  ·cases h
 ·cases h
theorem iF(hng:dZ P){ops:Array Oper}:∀(os:List Oper) (k:Nat) (fr fr':Fr) (s s':St),ops.toList.drop k=os->WF s->pQ P ops os fr s=some (fr',s')->
  aA s s'/\fr'.rnd=fr.rnd/\∀(G:Nat->Prop) (ρ:Ren) (w:World) (a:Act) (cs:List Frame) (Q:Exit->Act->List Frame->World->Prop),Gok G s'->aV G ρ s.heap w->bg ρ s s'->bH ρ fr a->recoverD cs=none->
   (∀ρ' w' a',Ext G s s' ρ ρ' w w'->bH ρ' fr' a'->Q .normal a' cs w')->wpOpsSIn Fence.wide 0 P ops Q (List.range' k os.length) a cs w
 | [],k,fr,fr',s,s',_,hw,h=>by
  cases h
  exact⟨aA.refl _,rfl,fun G ρ w a cs Q hG hr hf ht hc hQ=>hQ ρ w a (bB hr) ht⟩
 |o::os,k,fr,fr',s,s',hd,hw,h=>by
  have hk:ops[k]?=some o:=by
   have:(ops.toList.drop k)[0]?=some o:=by rw[hd];rfl
   simpa using this
  have hd':ops.toList.drop (k+1)=os:=by
   have:=congrArg (List.drop 1) hd;simpa [List.drop_drop] using this
  simp only[pQ] at h
  split at h
  ·rename_i f1 s1 h1
   unfold CS at h1
   rcases Bool.eq_false_or_eq_true (kW o) with hrc|hrc
   ·rw[hrc] at h1
    simp only[cond_true] at h1
    split at h1
    ·rename_i f2 hp
     cases h1
     obtain⟨hm2,hn2,hos⟩:=iF hng os (k+1) f1 fr' s s' hd' hw h;refine⟨hm2,hn2.trans (c_ hp).2,fun G ρ w a cs Q hG hr hf ht hc hQ=>?_⟩
     obtain⟨hgd,hrun⟩:=yE (P:=P) hrc a w;have hwt:Region.wanted o (yielded ops a.tmps)=true:=by unfold Region.wanted;rw[hgd]
     simp only[List.length_cons,List.range'_succ,wpOpsSIn,hk];refine⟨fun _ _=>trivial,?_⟩
     rw[hwt];simp only[if_true,hrun,hc];exact hos G ρ w _ cs Q hG hr hf (ht.put hp .nilIface) hc hQ
    ·cases h1
   ·rw[hrc] at h1
    simp only[cond_false] at h1
    rcases Bool.eq_false_or_eq_true (dN fr ops o) with hwt|hwt
    ·rw[hwt] at h1
     simp only[cond_true] at h1
     split at h1
     ·rename_i v s2 hop
      split at h1
      ·rename_i f2 hp
       cases h1
       have hm1:=gM hw hop;obtain⟨hm2,hn2,hos⟩:=iF hng os (k+1) f1 fr' s1 s' hd' (hm1.wf hw) h;refine⟨hm1.trans hm2,hn2.trans (c_ hp).2,fun G ρ w a cs Q hG hr hf ht hc hQ=>?_⟩
       obtain⟨_,ρ',w',nx,h1,h2,h3⟩:=jU hng hop ht hw (hG.back hm2) hr (hf.left hm2);simp only[List.length_cons,List.range'_succ,wpOpsSIn,hk];refine⟨fun _ _=>trivial,?_⟩
       rw[eT ht,hwt];simp only[if_true,h1]
       cases nx<;>first|(exact h3.elim;done)|skip
       exact hos G ρ' w' _ cs Q hG h2.rep (hf.right hm1 h2) ((ht.mono (h2.le (hf.left hm2))).put hp h3) hc fun ρ2 w2 a2 e2 ht2=>hQ ρ2 w2 a2 (h2.trans hw hm1 hm2 e2) ht2
      ·cases h1
     ·rename_i s2 hop
      split at h1
      ·rename_i f2 hp
       cases h1
       have hm1:=gM hw hop;obtain⟨hm2,hn2,hos⟩:=iF hng os (k+1) f1 fr' s1 s' hd' (hm1.wf hw) h;refine⟨hm1.trans hm2,hn2.trans (c_ hp).2,fun G ρ w a cs Q hG hr hf ht hc hQ=>?_⟩
       obtain⟨_,ρ',w',nx,h1,h2,h3⟩:=jU hng hop ht hw (hG.back hm2) hr (hf.left hm2);simp only[List.length_cons,List.range'_succ,wpOpsSIn,hk];refine⟨fun _ _=>trivial,?_⟩
       rw[eT ht,hwt];simp only[if_true,h1]
       cases nx<;>first|(exact h3.elim;done)|skip
       exact hos G ρ' w' _ cs Q hG h2.rep (hf.right hm1 h2) ((ht.mono (h2.le (hf.left hm2))).put hp pV) hc fun ρ2 w2 a2 e2 ht2=>hQ ρ2 w2 a2 (h2.trans hw hm1 hm2 e2) ht2
      ·cases h1
     ·cases h1
    ·rw[hwt] at h1
     simp only[cond_false] at h1
     split at h1
     ·rename_i f2 hp
      cases h1
      obtain⟨hm2,hn2,hos⟩:=iF hng os (k+1) f1 fr' s s' hd' hw h;refine⟨hm2,hn2.trans (c_ hp).2,fun G ρ w a cs Q hG hr hf ht hc hQ=>?_⟩
      simp only[List.length_cons,List.range'_succ,wpOpsSIn,hk];refine⟨fun _ _=>trivial,?_⟩
      rw[eT ht,hwt];simp only[Bool.false_eq_true,if_false];exact hos G ρ w _ cs Q hG hr hf (ht.put hp pV) hc hQ
     ·cases h1
  ·cases h
theorem mq{rec:Task->St->Option (Ans×St)}(hg:Good P rec)(hng:dZ P):∀(k:Nat) (c:Code) (fr fr':Fr) (s s':St) (e:Ex),WF s->fr.rnd=false->ug P rec k c fr s=some (e,fr',s')->
  aA s s'/\fr'.rnd=false/\∀(G:Nat->Prop) (ρ:Ren) (w:World) (a:Act) (cs:List Frame) (Q:Exit->Act->List Frame->World->Prop),Gok G s'->aV G ρ s.heap w->bg ρ s s'->bH ρ fr a->recoverD cs=none->
   (∀ρ' w' a',Ext G s s' ρ ρ' w w'->bH ρ' fr' a'->Q (jG e) a' cs w')->c.wpSIn Fence.wide 0 P Q a cs w
 |0,c,fr,fr',s,s',e,hw,hrd,h=>by cases h
 |k+1,c,fr,fr',s,s',e,hw,hrd,h=>by
  have other:(match rec (.code c fr) s with
   |some (.code e fr',s')=>some (e,fr',s')
   |_=>none)=some (e,fr',s')->aA s s'/\fr'.rnd=false/\∀(G:Nat->Prop) (ρ:Ren) (w:World) (a:Act) (cs:List Frame) (Q:Exit->Act->List Frame->World->Prop),Gok G s'->aV G ρ s.heap w->bg ρ s s'->bH ρ fr a->recoverD cs=none->
   (∀ρ' w' a',Ext G s s' ρ ρ' w w'->bH ρ' fr' a'->Q (jG e) a' cs w')->c.wpSIn Fence.wide 0 P Q a cs w:=by
   intro h;split at h
   ·rename_i e1 f1 s1 hrec
    cases h
    obtain⟨hm,hn,hc⟩:=hg _ _ _ _ hw hrec;refine⟨hm,hn.trans hrd,fun G ρ w a cs Q hG hr hf ht _ hQ=>?_⟩
    exact wpSIn_of_wpIn rfl (wpS.wp (hc none G ρ w a (fun e a' w'=>Q e a' cs w') (fun _=>rfl) hG hr hf ht hQ))
   ·cases h
  unfold ug at h
  cases c with
  |skip=>
   cases h
   exact⟨aA.refl _,hrd,fun G ρ w a cs Q hG hr hf ht _ hQ=>wpSIn_of_wpIn rfl (wpIn_skip (hQ ρ w a (bB hr) ht))⟩
  |ret=>
   cases h
   exact⟨aA.refl _,hrd,fun G ρ w a cs Q hG hr hf ht _ hQ=>wpSIn_of_wpIn rfl (wpIn_ret (hQ ρ w a (bB hr) ht))⟩
  |region id ops draw=>
   cases draw with
   |true=>exact other h
   |false=>
    dsimp only at h;split at h
    ·rename_i f1 s1 h1
     cases h
     obtain⟨hm,hn,hk⟩:=iF hng _ 0 _ _ _ _ (by simp) hw h1
     refine⟨hm,hn.trans hrd,fun G ρ w a cs Q hG hr hf ht hc hQ=>wpSIn_region ?_⟩
     have:=hk G ρ w a cs Q hG hr hf ht hc hQ;rw[List.range_eq_range'];simpa using this
    ·cases h
  |seq x y=>
   dsimp only at h;split at h
   ·rename_i fr1 s1 h1
    obtain⟨hm1,hn1,hc1⟩:=mq hg hng k x fr fr1 s s1 .normal hw hrd h1;obtain⟨hm2,hn2,hc2⟩:=mq hg hng k y fr1 fr' s1 s' e (hm1.wf hw) hn1 h;refine⟨hm1.trans hm2,hn2,fun G ρ w a cs Q hG hr hf ht hc hQ=>wpSIn_seq ?_⟩
    refine hc1 G ρ w a cs _ (hG.back hm2) hr (hf.left hm2) ht hc fun ρ1 w1 a1 e1 ht1=>?_
    exact hc2 G ρ1 w1 a1 cs Q hG e1.rep (hf.right hm1 e1) ht1 hc fun ρ2 w2 a2 e2 ht2=>hQ ρ2 w2 a2 (e1.trans hw hm1 hm2 e2) ht2
   ·rename_i hne
    obtain⟨hm1,hn1,hc1⟩:=mq hg hng k x fr fr' s s' e hw hrd h;refine⟨hm1,hn1,fun G ρ w a cs Q hG hr hf ht hc hQ=>wpSIn_seq ?_⟩
    refine hc1 G ρ w a cs _ hG hr hf ht hc fun ρ1 w1 a1 e1 ht1=>?_
    cases e with
    |normal=>exact(hne fr' s' h).elim
    |exit id=>exact hQ ρ1 w1 a1 e1 ht1
    |ret=>exact hQ ρ1 w1 a1 e1 ht1
  |cond x y z=>
   dsimp only at h;split at h
   ·rename_i t hx
    obtain⟨hm1,hn1,hc1⟩:=mq hg hng k _ fr fr' s s' e hw hrd h;refine⟨hm1,hn1,fun G ρ w a cs Q hG hr hf ht hc hQ=>?_⟩
    have hv:=aU ht hx;have hb:a.eval x=.bool t:=by
     generalize a.eval x=y at hv
     cases hv;rfl
    refine wpSIn_cond hb ?_;have:=hc1 G ρ w a cs Q hG hr hf ht hc hQ
    cases t<;>exact this
   ·cases h
  |_=>exact other h
theorem yH{rec:Task->St->Option (Ans×St)}(hg:Good P rec)(hng:dZ P){f:FuncId}{args:List LV}{s s':St}(hw:WF s)(h:rI P rec f args s=some s'):
  aA s s'/\(∀xs w,(callFunc f xs).run P w=.ok (.enter f xs) w)/\∀(G:Nat->Prop) (ρ:Ren) (w:World) (xs:Array Value),Gok G s'->aV G ρ s.heap w->bg ρ s s'->VRs ρ args xs.toList->
   CallsDIn Fence.wide 0 P f xs .returning w fun e u' w'=>u'=.returning/\∃ρ' x,e=.returned x/\Ext G s s' ρ ρ' w w':=by
 unfold rI at h
 split at h
 ·cases h
 ·rename_i fn hfn
  split at h
  ·cases h
  ·rename_i c hb
   obtain⟨hc,h⟩:=ay h;simp only[Bool.and_eq_true] at hc
   have hl:=Nat.le_of_ble_eq_true hc.1.1;have hn:fn.ntmps<1000000000:=Nat.le_of_ble_eq_true hc.1.2;have hres:fn.results=#[]:=by
    have:=hc.2;apply Array.ext';simpa using this
   have hcf:∀xs w,(callFunc f xs).run P w=.ok (.enter f xs) w:=by
    have hent:eL P f [] s=some (.enter f [],s):=by unfold eL;rw[hfn];dsimp only;rw[hb]
    exact(jx hng hent).2.2
   split at h
   ·rename_i e fr s1 hrun
    obtain⟨hm,hn1,hk⟩:=mq hg hng 100 c _ fr s s1 e hw rfl hrun;have fin:fr.marks=[]->s1=s'->jG e=.normal\/jG e=.ret->aA s s'/\(∀xs w,(callFunc f xs).run P w=.ok (.enter f xs) w)/\∀(G:Nat->Prop) (ρ:Ren) (w:World) (xs:Array Value),Gok G s'->aV G ρ s.heap w->bg ρ s s'->VRs ρ args xs.toList->
      CallsDIn Fence.wide 0 P f xs .returning w fun e u' w'=>u'=.returning/\∃ρ' x,e=.returned x/\Ext G s s' ρ ρ' w w':=by
     intro hmk hs he;subst hs;refine⟨hm,hcf,fun G ρ w xs hG hr hf hx=>?_⟩
     refine callsDIn_of_wpSIn hfn hb trivial fun c₀ cs hu=>?_
     have hrcv:recoverD (c₀::cs)=none:=by simp[recoverD,hu]
     refine hk G ρ w _ (c₀::cs) _ hG hr hf (uC hx hl hn) hrcv fun ρ' w' a' hext ht=>?_
     have hdf:a'.defers=[]:=by
      have h3:=ht.dfs;rw[hmk] at h3
      generalize a'.defers=dd at h3
      cases h3
      rfl
     have key:a'.defers=[]/\∃u',(c₀::cs)={c₀ with mode:=u'}::cs/\∃v,(results fn a'.tmps).run P w'=.ok v w'/\(u'=FrameMode.returning/\∃ρ' x,Ending.returned v=.returned x/\Ext G s s1 ρ ρ' w w'):=
      ⟨hdf,.returning,by cases c₀;simp only at hu;subst hu;rfl,.tuple #[],by rw[sO,hres];simp,rfl,ρ',_,rfl,hext⟩
     rcases he with he|he<;>rw[he]<;>exact key
    cases e with
    |exit id=>cases h
    |normal=>
     split at h
     ·cases h
     ·rename_i hmk hne
      cases h
      exact fin hmk rfl (.inl rfl)
     ·cases h
    |ret=>
     split at h
     ·cases h
     ·rename_i hmk hne
      cases h
      exact fin hmk rfl (.inr rfl)
     ·cases h
   ·cases h
theorem rj{rec:Task->St->Option (Ans×St)}(hg:Good P rec)(hng:dZ P):∀{ds:List Dm} {s s':St},ma P rec ds s=some s'->WF s->aA s s'/\∀(G:Nat->Prop) (ρ:Ren) (w:World) (dl:List Deferred) (fn:Func) (tmps:Array Value) (R:Ending->World->Prop),Gok G s'->aV G ρ s.heap w->bg ρ s s'->DfR ρ ds dl->
  (∀ρ' w',Ext G s s' ρ ρ' w w'->∃v,(results fn tmps).run P w'=.ok v w'/\R (.returned v) w')->LeavesInM Fence.wide 0 P fn tmps R dl .returning w
 | [],s,s',h,hw=>by
  cases h
  exact⟨aA.refl _,fun G ρ w dl fn tmps R hG hr hf hd hR=>by
   cases hd
   exact hR ρ w (bB hr)⟩
 | .mark n::ds,s,s',h,hw=>by
  obtain⟨h1,h⟩:=ay h;obtain⟨c,hc,hlp⟩:=B5 h1;have hl:Live s.heap n:=by unfold Live;rw[hc];simp
  have hlt:=cL hw hl;have hm1:aA s (s.set n none):=fm none (Nat.lt_of_lt_of_le hlt hw.lt) hl hlt;obtain⟨hm2,hk⟩:=rj hg hng h (hm1.wf hw);refine⟨hm1.trans hm2,fun G ρ w dl fn tmps R hG hr hf hd hR=>?_⟩
  obtain _|⟨hp,hd⟩|_:=hd
  rename_i p dl
  have hGn:G n:=l7 hw hl (hG.back hm2);obtain⟨q,hq,hmk⟩:=(hr.rep n c hGn hc).other _ hlp;rw[hp] at hq
  cases hq
  have hrun:(Instr.takeDeferred p.blk).run P w=.ok [] (w.putObj p.blk (.deferred none)):=by
   have hmk':w.heap[p.blk]?=some (.deferred (some [])):=hmk;simp[Instr.takeDeferred,getObj,setObj,Sem.run_bind,Sem.run,hmk',World.putObj,Result.andThen]
  have e1:Ext G s (s.set n none) ρ ρ w (w.putObj p.blk (.deferred none)):=wC hw hl hGn hr hp (fun k hk=>World.putObj_heap_other hk) (by simp) rfl rfl rfl
  refine⟨by simp,.inl ⟨p.blk,_,rfl,hrun,?_⟩⟩
  exact hk G ρ _ dl fn tmps R hG e1.rep (hf.right hm1 e1) hd fun ρ' w' e2=>hR ρ' w' (e1.trans hw hm1 hm2 e2)
 | .call f args::ds,s,s',h,hw=>by
  simp only[ma] at h
  split at h
  ·rename_i s1 h1
   obtain⟨hm1,hcf,hcall⟩:=yH hg hng hw h1;obtain⟨hm2,hk⟩:=rj hg hng h (hm1.wf hw);refine⟨hm1.trans hm2,fun G ρ w dl fn tmps R hG hr hf hd hR=>?_⟩
   obtain _|_|⟨hx,hd⟩:=hd
   rename_i xs dl
   refine⟨by simp,.inr ⟨fun e=>(by cases e),.func f,xs,f,xs,rfl,?_,fun _ _=>trivial,?_⟩⟩
   ·simp[invoke,hcf]
   ·refine(hcall G ρ w xs (hG.back hm2) hr (hf.left hm2) hx).mono ?_
    rintro e u' w' ⟨rfl,ρ1,x,rfl,e1⟩;exact hk G ρ1 w' dl fn tmps R hG e1.rep (hf.right hm1 e1) (hd.mono (e1.le (hf.left hm2))) fun ρ2 w2 e2=>hR ρ2 w2 (e1.trans hw hm1 hm2 e2)
  ·cases h
theorem AW{rec:Task->St->Option (Ans×St)}(hg:Good P rec)(hng:dZ P){f:FuncId}{args:List LV}{s s':St}{r:Ans}(hw:WF s)(h:pP P rec f args s=some (r,s')):rS P (.call f args) s r s':=by
 unfold pP at h
 split at h
 ·cases h
 ·rename_i fn hfn
  split at h
  ·cases h
  ·rename_i c hb
   obtain⟨hc,h⟩:=ay h;simp only[Bool.and_eq_true] at hc
   have hl:=Nat.le_of_ble_eq_true hc.1;have hn:fn.ntmps<1000000000:=Nat.le_of_ble_eq_true hc.2;split at h
   ·rename_i e fr s1 hrec
    obtain⟨hm1,hn1,hcode⟩:=hg _ _ _ _ hw hrec;have hw1:=hm1.wf hw;have fin:∀s0 vs s2 v,ma P rec fr.marks s1=some s0->i_ P fr s0 fn.results.toList=some (vs,s2)->(∀xs:List Value,∀ρ,VRs ρ vs xs->VR ρ v (if h:xs.toArray.size=1 then xs.toArray[0] else .tuple xs.toArray))->jG e=.normal\/jG e=.ret->aA s s2/\Bc P f args s v s2:=by
     intro s0 vs s2 v hlv hres hv he;obtain⟨hmd,hdrop⟩:=rj hg hng hlv hw1;obtain⟨hm2,hk⟩:=nf (hmd.wf hw1) hres;refine⟨hm1.trans (hmd.trans hm2),fun G ρ w xs hG hr hf hx=>?_⟩
     refine callsIn_of_wp_marks hfn hb trivial ?_ rfl;refine wpS.wp (hcode none G ρ w _ _ (fun _=>rfl) ((hG.back hm2).back hmd) hr (hf.left (hmd.trans hm2)) (uC hx hl hn) fun ρ' w' a' hext ht=>?_)
     have key:LeavesInM Fence.wide 0 P fn a'.tmps (fun e w'=>∃ρ' x,e=.returned x/\VR ρ' v x/\Ext G s s2 ρ ρ' w w') a'.defers .returning w':=by
      have hf1:bg ρ' s1 s0:=(hf.left hm2 |>.right hm1 hext)
      refine hdrop G ρ' w' a'.defers fn a'.tmps _ (hG.back hm2) hext.rep hf1 ht.dfs fun ρ2 w'' e2=>?_
      obtain⟨ys,h1,h2,h3⟩:=hk G ρ2 w'' a' hG e2.rep (ht.mono (e2.le hf1));refine⟨if h:ys.toArray.size=1 then ys.toArray[0] else .tuple ys.toArray,?_,ρ2,_,rfl,hv ys ρ2 h2,(hext.trans hw hm1 hmd e2).trans hw (hm1.trans hmd) hm2 h3⟩
      rw[sO,Array.mapM_eq_mapM_toList];simp only[Sem.run_bind,Sem.run_map,h1,Result.andThen_ok,Sem.run_pure]
     rcases he with he|he<;>rw[he]<;>exact key
    have one:∀v:LV,∀xs:List Value,∀ρ,VRs ρ [v] xs->VR ρ v (if h:xs.toArray.size=1 then xs.toArray[0] else .tuple xs.toArray):=fun v xs ρ hx=>by
     obtain _|⟨hx1,_|_⟩:=hx
     simpa using hx1
    have many:∀vs:List LV,(∀v,vs=[v]->False)->∀xs:List Value,∀ρ,VRs ρ vs xs->VR ρ (.tuple vs) (if h:xs.toArray.size=1 then xs.toArray[0] else .tuple xs.toArray):=fun vs hne xs ρ hx=>by
     rw[dif_neg]
     ·exact .tuple hx
     ·intro e1
      have e2:=hx.length;simp at e1
      rw[e1] at e2
      obtain⟨v0,hv0⟩:=List.length_eq_one_iff.1 e2.symm;exact hne v0 hv0
    cases e with
    |exit id=>cases h
    |normal=>
     dsimp only at h;split at h
     ·rename_i s0 hlv
      split at h
      ·rename_i v s2 hres
       cases h
       exact fin _ _ _ _ hlv hres (one v) (.inl rfl)
      ·rename_i vs s2 hne hres
       cases h
       exact fin _ _ _ _ hlv hres (many vs hne) (.inl rfl)
      ·cases h
     ·cases h
    |ret=>
     dsimp only at h;split at h
     ·rename_i s0 hlv
      split at h
      ·rename_i v s2 hres
       cases h
       exact fin _ _ _ _ hlv hres (one v) (.inr rfl)
      ·rename_i vs s2 hne hres
       cases h
       exact fin _ _ _ _ hlv hres (many vs hne) (.inr rfl)
      ·cases h
     ·cases h
   ·cases h
end
end Go.Proofs.YtdjjlghlcffflaaGreatDoor.Ev
