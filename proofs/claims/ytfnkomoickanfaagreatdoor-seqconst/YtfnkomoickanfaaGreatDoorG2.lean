/- Own. -/
import Derived.Test.YtfnkomoickanfaaGreatDoorG1
set_option linter.unusedVariables false
set_option linter.unusedSimpArgs false
set_option maxHeartbeats 8000000
set_option maxRecDepth 100000
namespace Go.Proofs.YtfnkomoickanfaaGreatDoor.Ev
open Go.RowKit
def Fw(ro:Option Nat):Fence:={Fence.wide with round:=ro}
def gJ:Ex→Exit
 | .normal=>.normal
 | .exit id=>.exit id
 | .ret=>.ret
def fb(F:Fence)(n:Nat)(P:Program)(c:Code)(Q:Exit→Act→World→Prop)(a:Act)(w:World):Prop:=
 ∀(b:Frame) (k:List Item) (cs:List Frame),b.roundOf=F.round→F.fn b.fn→F.room (cs.length+1+n)→
  ∃e a' w',Q e a' w'∧ArrivesIn (Machine.fenced P F) P (lone (b.atR a (.code c :: .inLoop c::k)) cs w) b k cs e a' w'
theorem fb.wp{F:Fence}{n:Nat}{P:Program}{c:Code}{Q:Exit→Act→World→Prop}{a:Act}{w:World}(h:fb F n P c Q a w):(Code.loop c).wpIn F n P Q a w:=by
 intro b k cs hro hb hr
 obtain⟨e,a',w',hq,harr⟩:=h b k cs hro hb hr
 exact⟨e,a',w',hq,.of_steps (.one (fenced_calm hb hr rfl) stepR_loop) harr⟩
def wpS(F:Fence)(n:Nat)(P:Program)(c:Code)(Q:Exit→Act→World→Prop)(a:Act)(w:World):Prop:=
 match c with
 | .loop d=>fb F n P d Q a w
 |c=>c.wpIn F n P Q a w
theorem wpS.wp{F:Fence}{n:Nat}{P:Program}{c:Code}{Q:Exit→Act→World→Prop}{a:Act}{w:World}(h:wpS F n P c Q a w):c.wpIn F n P Q a w:=by
 cases c<;>first|exact h|exact fb.wp h
def rD(P:Program)(c:Code)(fr:Fr)(s:St)(e:Ex)(fr':Fr)(s':St):Prop:=
 ∀(ro:Option Nat) (G:Nat→Prop) (ρ:Ren) (w:World) (a:Act) (Q:Exit→Act→World→Prop),(fr.rnd=false→ro=none)→Gok G s'→aI G ρ s.heap w→aK ρ s s'→aV ρ fr a→
  (∀ρ' w' a',Ext G s s' ρ ρ' w w'→aV ρ' fr' a'→Q (gJ e) a' w')→wpS (Fw ro) 0 P c Q a w
def xE(P:Program)(f:FuncId)(args:List LV)(s:St)(v:LV)(s':St):Prop:=
 ∀(G:Nat→Prop) (ρ:Ren) (w:World) (xs:Array Value),Gok G s'→aI G ρ s.heap w→aK ρ s s'→VRs ρ args xs.toList→
  CallsIn Fence.wide 0 P f xs w fun e w'=>∃ρ' x,e=.returned x∧VR ρ' v x∧Ext G s s' ρ ρ' w w'
def ir(P:Program):Task→St→Ans→St→Prop
 | .code c fr,s,.code e fr',s'=>ar s s'∧fr'.rnd=fr.rnd∧rD P c fr s e fr' s'
 | .call f args,s,.call v,s'=>ar s s'∧xE P f args s v s'
 |_,_,_,_=>False
def Good(P:Program)(rec:Task→St→Option (Ans×St)):Prop:=∀t s r s',WF s→rec t s=some (r,s')→ir P t s r s'
section
variable {P:Program}
theorem du{ρ:Ren}{fr:Fr}{a:Act}(ht:aV ρ fr a)(ops:Array Oper)(o:Oper):Region.wanted o (yielded ops a.tmps)=cR fr ops o:=by
 unfold Region.wanted cR
 cases o.guard with
 |none=>rfl
 |some p=>
  obtain⟨j,want⟩:=p
  dsimp only
  unfold yielded
  cases hj:ops[j]? with
  |none=>simp
  |some g=>
   dsimp only[Option.bind_some]
   cases hd:g.dst with
   |none=>simp
   |some d=>
    dsimp only[Option.bind_some]
    have hv:=ht.val d
    cases hx:a.tmps[d]? with
    |none=>
     have:a.tmps.getD d undef=undef:=by rw[Array.getD_eq_getD_getElem?,hx];rfl
     rw[this] at hv
     generalize fr.get d=l at hv ⊢
     cases hv
     cases want<;>rfl
    |some x=>
     have:a.tmps.getD d undef=x:=by rw[Array.getD_eq_getD_getElem?,hx];rfl
     rw[this] at hv
     generalize fr.get d=l at hv ⊢
     cases hv<;>first|(cases want<;>rfl)|(rename_i b;cases b<;>cases want<;>rfl)
theorem dW{α:Type}{b:Bool}{x y:Option α}{z:α}(h:cond b x y=some z):(b=true∧x=some z)∨(b=false∧y=some z):=by
 cases b
 ·exact .inr ⟨rfl,h⟩
 ·exact .inl ⟨rfl,h⟩
theorem jo{t:TypeId}{u:LV}{s s':St}{r:R}(h:ey P t u s=some (r,s')):ar s s':=by
 unfold ey at h
 split at h
 ·rename_i n off
  split at h
  ·rename_i b s1 hl ha
   obtain⟨hb,rfl,hlp⟩:=look_eq hl
   split at h
   ·split at h
    ·cases h;exact bG s n
    ·cases h
   ·cases h
  ·rename_i b s1 hl ha
   obtain⟨hb,rfl,hlp⟩:=look_eq hl
   split at h
   ·cases h;exact bG s n
   ·cases h
  ·cases h
 ·cases h
theorem qO{ts:List TypeId}{us:List LV}{s s':St}{r:R}(hw:WF s)(h:iz P ts us s=some (r,s')):ar s s':=by
 unfold iz at h
 split at h
 ·split at h
  ·split at h
   ·cases h
   ·split at h
    ·obtain⟨_,h⟩:=an h
     split at h
     ·cases h
     ·rename_i new s1 hf
      have hm1:=dB hf
      have hw1:=hm1.wf hw
      obtain⟨_,h⟩:=an h
      split at h
      ·rcases dW h with ⟨_,h⟩|⟨_,h⟩
       ·cases h;exact hm1
       ·split at h
        ·rename_i hnew;cases h;exact hm1.trans (aS hnew)
        ·cases h
      ·obtain⟨_,h⟩:=an h
       split at h
       ·rcases dW h with ⟨_,h⟩|⟨_,h⟩
        ·split at h
         ·rename_i hst;cases h;exact hm1.trans (cE hw1 hst)
         ·cases h
        ·split at h
         ·cases h
         ·rename_i b s2 hl
          obtain⟨hb,rfl,hlp⟩:=look_eq hl
          split at h
          ·cases h
          ·split at h
           ·rename_i hnew;cases h;exact hm1.trans ((bG _ _).trans (aS hnew))
           ·cases h
       ·split at h
        ·cases h
        ·rename_i b s2 hl
         obtain⟨hb,rfl,hlp⟩:=look_eq hl
         split at h
         ·cases h
         ·obtain⟨_,h⟩:=an h
          rcases dW h with ⟨_,h⟩|⟨_,h⟩
          ·split at h
           ·rename_i hst;cases h;exact hm1.trans (cE hw1 hst)
           ·cases h
          ·split at h
           ·cases h
           ·split at h
            ·rename_i hnew
             cases h
             exact hm1.trans (qA hw1 (by unfold Live;rw[hb];simp) hnew)
            ·cases h
      ·cases h
    ·cases h
  ·cases h
 ·cases h
theorem o9{ts:List TypeId}{us:List LV}{s s':St}{r:R}(hw:WF s)(h:gE P ts us s=some (r,s')):ar s s':=by
 unfold gE at h
 split at h
 ·rename_i hd
  cases h
  exact qO hw hd
 ·unfold iU at h
  split at h
  ·split at h
   ·split at h
    ·obtain⟨_,h⟩:=an h
     split at h
     ·rename_i hnew;cases h;exact aS hnew
     ·cases h
    ·cases h
   ·cases h
  ·cases h
theorem t_{ts:List TypeId}{us:List LV}{s s':St}{r:R}(hw:WF s)(h:k_ P ts us s=some (r,s')):ar s s':=by
 unfold k_ at h
 split at h
 ·split at h
  ·split at h
   ·split at h
    ·cases h
    ·rename_i cs s1 hf
     have hm1:=dB hf
     split at h
     ·split at h
      ·rename_i hst;cases h;exact hm1.trans (cE (hm1.wf hw) hst)
      ·cases h
     ·cases h;exact hm1
     ·cases h
   ·cases h
  ·cases h
 ·cases h
theorem rW{t:TypeId}{u:LV}{lo hi mx:Option LV}{s s':St}{r:R}(h:ia P t u lo hi mx s=some (r,s')):ar s s':=by
 unfold ia at h
 split at h
 ·rename_i elem n off len c hu
  split at h
  ·split at h
   ·rename_i v s1 hs
    cases h
    unfold pV at hs
    split at hs
    ·cases hs
    ·rename_i k sure hc
     have hm:ar s (cond sure s (s.aO n)):=by
      cases sure
      ·exact bG s n
      ·exact ar.refl s
     dsimp only at hs
     split at hs
     ·rcases dW hs with ⟨_,hs⟩|⟨_,hs⟩
      ·cases hs;exact hm
      ·obtain⟨_,hs⟩:=an hs
       rcases dW hs with ⟨_,hs⟩|⟨_,hs⟩
       ·cases hs;exact hm
       ·split at hs
        ·rename_i hfr;cases hs;exact hm.trans (ot hfr)
        ·cases hs
     ·split at hs
      ·obtain⟨_,hs⟩:=an hs;cases hs;exact hm
      ·cases hs
     ·cases hs
   ·cases h
  ·cases h
 ·obtain⟨_,h⟩:=an h;cases h;exact ar.refl s
 ·split at h
  ·obtain⟨_,h⟩:=an h;cases h;exact ar.refl s
  ·cases h
 ·cases h
theorem gm{f:FuncId}{args:List LV}{s s':St}{r:R}(h:dk P f args s=some (r,s')):s'=s:=by
 unfold dk at h
 split at h
 ·split at h
  ·cases h;rfl
  ·cases h
 ·cases h
theorem kR{u:LV}{name:String}{us:List LV}{s s':St}{r:R}(h:fI P u name us s=some (r,s')):ar s s':=by
 unfold fI at h
 split at h
 ·split at h
  ·split at h
   ·obtain⟨_,h⟩:=an h
    split at h
    ·split at h
     ·rw[gm h];exact ar.refl s
     ·split at h
      ·rename_i hl;rw[gm h];exact jo hl
      ·cases h
     ·rw[gm h];exact ar.refl s
     ·cases h
    ·cases h
   ·cases h
  ·cases h
 ·cases h
theorem bn{v:Option LV}{s s':St}{r:R}(h:bf v s=some (r,s')):ar s s':=by
 obtain⟨_,_,_,rfl⟩:=bL h;exact ar.refl _
theorem eP{fr:Fr}{op:Op}{s s':St}{r:R}(hw:WF s)(h:bA P fr op s=some (r,s')):ar s s':=by
 unfold bA at h
 split at h
 ·exact bn h
 ·exact bn h
 ·split at h
  ·cases h;exact ar.refl _
  ·cases h
 ·unfold fH at h
  split at h
  ·obtain⟨n,hn,_⟩:=dR h;exact aS hn
  ·cases h
 ·split at h
  ·obtain⟨n,hn,_⟩:=dR h;exact aS hn
  ·cases h
 ·split at h
  ·unfold jB at h
   split at h
   ·split at h
    ·split at h
     ·cases h;exact ar.refl _
     ·cases h
    ·cases h
   ·cases h
  ·cases h
 ·split at h
  ·unfold dK at h
   split at h
   ·split at h
    ·obtain⟨_,h⟩:=an h
     split at h
     ·split at h
      ·rename_i hn;cases h;exact aS hn
      ·cases h
     ·cases h
    ·cases h
   ·cases h
  ·cases h
 ·split at h
  ·exact jo h
  ·cases h
 ·split at h
  ·unfold jE at h
   split at h
   ·obtain⟨_,h⟩:=an h
    split at h
    ·rename_i hst;cases h;exact cE hw hst
    ·cases h
   ·cases h
  ·cases h
 ·split at h
  ·unfold ff at h
   split at h<;>cases h<;>exact ar.refl _
  ·cases h
 ·split at h
  ·exact bn h
  ·cases h
 ·split at h
  ·exact bn h
  ·cases h
 ·split at h
  ·exact bn h
  ·cases h
 ·split at h
  ·exact bn h
  ·cases h
 ·split at h
  ·cases h;exact ar.refl _
  ·cases h
 ·split at h
  ·unfold eA at h
   split at h
   ·split at h
    ·obtain⟨_,h⟩:=an h
     split at h
     ·rename_i hn;cases h;exact aS hn
     ·cases h
    ·cases h
   ·cases h
  ·cases h
 ·split at h
  ·exact rW h
  ·cases h
 ·split at h
  ·exact bn h
  ·cases h
 ·split at h
  ·exact bn h
  ·cases h
 ·split at h
  ·exact bn h
  ·cases h
 ·split at h
  ·exact bn h
  ·cases h
 ·split at h
  ·exact bn h
  ·cases h
 ·split at h
  ·exact bn h
  ·cases h
 ·unfold jC at h
  split at h
  ·cases h
  ·split at h
   ·unfold iV at h
    split at h
    ·exact o9 hw h
    ·exact t_ hw h
    ·exact kZ hw h
    ·exact bn h
    ·exact bn h
    ·split at h
     ·exact bn h
     ·cases h
    ·split at h
     ·exact bn h
     ·cases h
    ·cases h
   ·split at h
    ·exact kR h
    ·cases h
   ·split at h
    ·rw[gm h];exact ar.refl _
    ·split at h
     ·exact kR h
     ·cases h
    ·unfold me at h
     split at h
     ·split at h
      ·split at h
       ·cases h;exact bG _ _
       ·cases h
      ·cases h
     ·cases h
    ·cases h
 ·cases h
theorem kI{G:Nat→Prop}{s:St}{n:Nat}{p:Pl}{ρ:Ren}{w:World}{r:dH}{L L':Loop}(st:LSt)(hw:WF s)(hl:Live s.heap n)(hG:G n)(hr:aI G ρ s.heap w)(hp:ρ n=some p)(hL:w.heap[p.blk]?=some (.loop L))(hL':gO ρ {r with st:=st} L'):
  ar s (s.eX n r st)∧Ext G s (s.eX n r st) ρ ρ w (w.putObj p.blk (.loop L')):=by
 have hlt:=bR hw hl
 have h9:=Nat.lt_of_lt_of_le hlt hw.lt
 have hb:=(Array.getElem?_eq_some_iff.1 hL).1
 refine⟨dQ _ h9 hl hlt,sf h9 hlt hl hG hr hp ⟨fun e=>(by cases e),fun x hx=>?_⟩ (fun k hk=>World.putObj_heap_other hk) (by simp) rfl rfl rfl⟩
 cases hx
 exact⟨p,hp,L',World.putObj_heap_same hb,hL'⟩
theorem qx{b:Option Blk}{r:dH}(h:fm b=some r):∃c,b=some c∧c.lp=some (.loop r):=by
 unfold fm at h
 split at h
 ·rename_i c
  split at h
  ·rename_i r hl;cases h;exact⟨c,rfl,hl⟩
  ·cases h
 ·cases h
theorem mu{G:Nat→Prop}{s:St}{n:Nat}{p:Pl}{ρ:Ren}{w:World}{r:dH}(h:fm (s.heap.get n)=some r)(hG:G n)(hr:aI G ρ s.heap w)(hp:ρ n=some p):Live s.heap n∧∃L,w.heap[p.blk]?=some (.loop L)∧gO ρ r L:=by
 obtain⟨c,hc,hlp⟩:=qx h
 obtain⟨q,hq,L,hL,hLR⟩:=(hr.rep n c hG hc).other _ hlp
 rw[hp] at hq
 cases hq
 exact⟨by unfold Live;rw[hc];simp,L,hL,hLR⟩
theorem jd{s:St}{n:Nat}{r:dH}(h:fm (s.heap.get n)=some r):Live s.heap n:=by
 obtain⟨c,hc,_⟩:=qx h
 unfold Live;rw[hc];simp
theorem gO.A7{ρ:Ren}{r:dH}{L:Loop}(h:gO ρ r L)(st:LSt)(state:LoopState)(pend:Option Code)(hs:match st with
  | .ready=>state=.ready∧pend=none
  | .busy=>state=.busy
  | .done e=>state=.done∧pend=some (sd e)):gO ρ {r with st:=st} {L with state:=state,pending:=pend}:=
 ⟨h.params,h.assign,h.body,h.xw,h.A8,h.room,hs⟩
theorem iM{s:St}{n:Nat}{r:dH}{st:LSt}(hw:WF s)(hl:Live s.heap n):ar s (s.eX n r st):=dQ _ (Nat.lt_of_lt_of_le (bR hw hl) hw.lt) hl (bR hw hl)
theorem uc{n:Nat}{e:Ex}{f2:Fr}{s s':St}{v:LV}(hw:WF s)(h:endRound n e f2 s=some (v,s')):ar s s'∧∀(G:Nat→Prop) (ρ:Ren) (w:World) (p:Pl) (a:Act) (R:Ending→World→Prop),G n→aI G ρ s.heap w→ρ n=some p→
  (∀x w',VR ρ v x→Ext G s s' ρ ρ w w'→R (.returned x) w')→roundPost P p.blk R (gJ e) a w:=by
 unfold endRound at h
 split at h
 ·rename_i r2 hl hmk
  have hlive:=jd hl
  split at h
  ·rename_i hst
   split at h
   ·cases h
    refine⟨iM hw hlive,fun G ρ w p a R hG hr hp hR=>?_⟩
    obtain⟨_,L,hL,hLR⟩:=mu hl hG hr hp
    have h1:=kI .ready hw hlive hG hr hp hL (hLR.A7 .ready .ready none ⟨rfl,rfl⟩)
    exact⟨_,_,run_endRound none hL,hR _ _ (.bool true) h1.2⟩
   ·rename_i hne
    cases h
    refine⟨iM hw hlive,fun G ρ w p a R hG hr hp hR=>?_⟩
    obtain⟨_,L,hL,hLR⟩:=mu hl hG hr hp
    have h1:=kI (.done e) hw hlive hG hr hp hL (hLR.A7 (.done e) .done (some (sd e)) ⟨rfl,rfl⟩)
    cases e with
    |normal=>exact(hne rfl).elim
    |exit id=>exact⟨_,_,run_endRound (some (.exit id)) hL,hR _ _ (.bool false) h1.2⟩
    |ret=>exact⟨_,_,run_endRound (some .ret) hL,hR _ _ (.bool false) h1.2⟩
  ·cases h
 ·cases h
theorem uy{rec:Task→St→Option (Ans×St)}(hg:Good P rec){n:Nat}{r:dH}{f:Fr}{s s':St}{v:LV}(hw:WF s)(h:kF rec n r f s=some (v,s')):ar s s'∧
  ∀(ro:Option Nat) (G:Nat→Prop) (ρ:Ren) (w:World) (p:Pl) (tmps:Array Value) (fn:FuncId) (R:Ending→World→Prop),G n→n<s.next→Gok G s'→aI G ρ s.heap w→aK ρ s s'→ρ n=some p→aV ρ {f with marks:=[],rnd:=true} {tmps:=tmps,defers:=[]}→
   (∀ρ' x w',VR ρ' v x→Ext G s s' ρ ρ' w w'→R (.returned x) w')→RoundIn (Fw ro) 0 P p.blk fn tmps r.assign r.body w R:=by
 unfold kF at h
 split at h
 ·rename_i f1 s1 h1
  obtain⟨hm1,hrn1,hc1⟩:=hg _ _ _ _ hw h1
  have hw1:=hm1.wf hw
  split at h
  ·rename_i r1 hl1 hmk1
   have hlive1:=jd hl1
   split at h
   ·rename_i hst1
    split at h
    ·rename_i e f2 s2 h2
     have hmb:=iM (r:=r1) (st:=.busy) hw1 hlive1
     have hwb:=hmb.wf hw1
     obtain⟨hm2,hrn2,hc2⟩:=hg _ _ _ _ hwb h2
     have hw2:=hm2.wf hwb
     obtain⟨hm3,hend⟩:=uc (P:=P) hw2 h
     have hm12:=hm1.trans (hmb.trans hm2)
     refine⟨hm12.trans hm3,fun ro G ρ w p tmps fn R hGn hnlt hG hr hf hp ht hR=>?_⟩
     have hG2:=hG.back hm3
     have hGb:=hG2.back hm2
     have hG1:=hGb.back hmb
     have hle1:∀ρ1 w1,Ext G s s1 ρ ρ1 w w1→ρ1 n=some p:=fun ρ1 w1 e1=>by rw[e1.out n (.inl hnlt)];exact hp
     refine roundIn_of_wpIn (F:=Fw ro) trivial (wpS.wp (hc1 (some p.blk) G ρ w _ _ (fun e=>by cases e) hG1 hr (hf.left (hmb.trans (hm2.trans hm3))) ht fun ρ1 w1 a1 e1 ht1=>?_))
     have hp1:=hle1 ρ1 w1 e1
     obtain⟨_,L,hL,hLR⟩:=mu hl1 hGn e1.rep hp1
     have hready:L.state=.ready:=by have:=hLR.st;rw[hst1] at this;exact this.1
     have hb:=kI (r:=r1) .busy hw1 hlive1 hGn e1.rep hp1 hL (hLR.A7 .busy .busy L.pending rfl)
     refine⟨_,run_beginRound hL hready,?_⟩
     have hf1:aK ρ1 s1 s':=hf.right hm1 e1
     have hfb:aK ρ1 (s1.eX n r1 .busy) s':=hf1.right hmb hb.2
     refine wpS.wp (hc2 (some p.blk) G ρ1 _ a1 _ (fun e=>by rw[hrn1] at e;cases e) hG2 hb.2.rep (hfb.left hm3) ht1 fun ρ2 w2 a2 e2 ht2=>?_)
     have hn1:n<(s1.eX n r1 .busy).next:=Nat.lt_of_lt_of_le hnlt (Nat.le_trans hm1.next hmb.next)
     have hp2:ρ2 n=some p:=by rw[e2.out n (.inl hn1)];exact hp1
     refine hend G ρ2 w2 p a2 R hGn e2.rep hp2 fun x w3 hx e3=>?_
     exact hR ρ2 x w3 hx ((e1.trans hw hm1 (hmb.trans hm2) (hb.2.trans hw1 hmb hm2 e2)).trans hw hm12 hm3 e3)
    ·cases h
   ·cases h
  ·cases h
 ·cases h
theorem qG(rec:Task→St→Option (Ans×St))(ops:Array Oper)(o:Oper)(fr:Fr)(s:St):lQ P rec ops o fr s=da P rec ops o fr s:=by
 unfold lQ da
 have hw:xz o.guard fr ops o=cR fr ops o:=by
  unfold xz
  cases h:o.guard with
  |none=>unfold cR;rw[h]
  |some p=>rfl
 rw[hw,zV]
 cases cR fr ops o with
 |false=>rfl
 |true=>
  show Bf rec (bA P fr o.op s) fr o.dst=_
  cases bA P fr o.op s with
  |none=>rfl
  |some p=>
   obtain⟨r,s1⟩:=p
   cases r with
   |val v=>rfl
   |skip=>rfl
   |enter f args=>
    show pt (rec (.call f args) s1) fr o.dst=_
    dsimp only
    unfold pt
    cases h:rec (.call f args) s1 with
    |none=>rfl
    |some q=>
     obtain⟨a,s2⟩:=q
     cases a<;>rfl
   |round n r f=>rfl
theorem oK(rec:Task→St→Option (Ans×St))(ops:Array Oper):∀(os:List Oper) (fr:Fr) (s:St),pR P rec ops os fr s=lS P rec ops os fr s
 | [],fr,s=>rfl
 |o::os,fr,s=>by
  show wK (lQ P rec ops o fr s) (pR P rec ops os)=_
  rw[qG]
  unfold wK lS
  cases da P rec ops o fr s with
  |none=>rfl
  |some p=>
   obtain⟨fr1,s1⟩:=p
   exact oK rec ops os fr1 s1
def OpOK(P:Program)(ops:Array Oper)(o:Oper)(fr:Fr)(s:St)(fr':Fr)(s':St):Prop:=
 ∀(ro:Option Nat) (G:Nat→Prop) (ρ:Ren) (w:World) (a:Act) (K:Act→World→Prop) (Q:Exit→Act→World→Prop),Gok G s'→aI G ρ s.heap w→aK ρ s s'→aV ρ fr a→
  (∀ρ' w' a',Ext G s s' ρ ρ' w w'→aV ρ' fr' a'→K a' w')→
  if Region.wanted o (yielded ops a.tmps) then o.wpIn (Fw ro) 0 P a w K Q else (∀f,o.about P w a.eval=some f→(Fw ro).fn f)∧K (a.put o.dst undef) w
theorem kH{ro:Option Nat}{a:Act}{o:Oper}{fr:Fr}{s s':St}{r:R}(h:bA P fr o.op s=some (r,s')):o.semAt (Fw ro).round a.eval=execOp a.eval o:=by
 refine Oper.semAt_eq _ _ _ fun c e=>?_
 rw[e] at h
 cases h
theorem iJ{rec:Task→St→Option (Ans×St)}(hg:Good P rec)(hng:cT P){ops:Array Oper}{o:Oper}{fr fr':Fr}{s s':St}(hw:WF s)(h:da P rec ops o fr s=some (fr',s')):
  ar s s'∧(fr'.nt=fr.nt∧fr'.marks=fr.marks∧fr'.rnd=fr.rnd)∧OpOK P ops o fr s fr' s':=by
 unfold da at h
 rcases Bool.eq_false_or_eq_true (cR fr ops o) with hwt|hwt
 ·rw[hwt] at h
  simp only[cond_true] at h
  split at h
  ·rename_i v s1 hop
   split at h
   ·rename_i f1 hp
    cases h
    refine⟨eP hw hop,⟨iE hp,cl hp⟩,fun ro G ρ w a K Q hG hr hf ht hK=>?_⟩
    rw[du ht,hwt]
    simp only[if_true]
    obtain⟨hm,ρ',w',nx,h1,h2,h3⟩:=h_ hng hop ht hw hG hr hf
    refine⟨fun _ _=>trivial,?_⟩
    rw[kH hop,h1]
    cases nx<;>first|(exact h3.elim;done)|skip
    exact hK ρ' w' _ h2 ((ht.mono (h2.le hf)).put hp h3)
   ·cases h
  ·rename_i s1 hop
   split at h
   ·rename_i f1 hp
    cases h
    refine⟨eP hw hop,⟨iE hp,cl hp⟩,fun ro G ρ w a K Q hG hr hf ht hK=>?_⟩
    rw[du ht,hwt]
    simp only[if_true]
    obtain⟨hm,ρ',w',nx,h1,h2,h3⟩:=h_ hng hop ht hw hG hr hf
    refine⟨fun _ _=>trivial,?_⟩
    rw[kH hop,h1]
    cases nx<;>first|(exact h3.elim;done)|skip
    exact hK ρ' w' _ h2 ((ht.mono (h2.le hf)).put hp mG)
   ·cases h
  ·rename_i f args s1 hop
   split at h
   ·rename_i v s2 hrec
    split at h
    ·rename_i f1 hp
     cases h
     have hm1:=eP hw hop
     have hw1:=hm1.wf hw
     obtain⟨hm2,hcall⟩:=hg _ _ _ _ hw1 hrec
     refine⟨hm1.trans hm2,⟨iE hp,cl hp⟩,fun ro G ρ w a K Q hG hr hf ht hK=>?_⟩
     rw[du ht,hwt]
     simp only[if_true]
     obtain⟨_,ρ1,w1,nx,h1,h2,h3⟩:=h_ hng hop ht hw (hG.back hm2) hr (hf.left hm2)
     refine⟨fun _ _=>trivial,?_⟩
     rw[kH hop,h1]
     cases nx<;>first|(exact h3.elim;done)|skip
     rename_i g xs
     obtain⟨rfl,hxs⟩:=h3
     refine⟨fun e=>(by cases e),?_⟩
     have hc:=hcall G ρ1 w1 xs hG h2.rep (hf.right hm1 h2) hxs
     refine CallsIn.mono (F:=Fw ro) hc ?_
     rintro e w2 ⟨ρ2,x,rfl,hx,he2⟩
     have he:=h2.trans hw hm1 hm2 he2
     exact hK ρ2 w2 _ he ((ht.mono (he.le hf)).put hp hx)
    ·cases h
   ·cases h
  ·rename_i n0 r0 f0 s1 hop
   obtain⟨hchk,h⟩:=an h
   split at h
   ·rename_i v s2 hrnd
    split at h
    ·rename_i f1 hp
     cases h
     have hm1:=eP hw hop
     have hw1:=hm1.wf hw
     obtain⟨hm2,hround⟩:=uy hg hw1 hrnd
     refine⟨hm1.trans hm2,⟨iE hp,cl hp⟩,fun ro G ρ w a K Q hG hr hf ht hK=>?_⟩
     rw[du ht,hwt]
     simp only[if_true]
     obtain⟨_,ρ1,w1,nx,h1,h2,h3⟩:=h_ hng hop ht hw (hG.back hm2) hr (hf.left hm2)
     refine⟨fun _ _=>trivial,?_⟩
     rw[kH hop,h1]
     cases nx<;>first|(exact h3.elim;done)|skip
     rename_i l fn tmps asg bod
     obtain⟨p,hpn,rfl,rfl,rfl,htm⟩:=h3
     refine⟨fun e=>(by cases e),?_⟩
     have hn0:Live s1.heap n0∧n0<s1.next∧G n0:=by
      simp only[Bool.and_eq_true,Bool.or_eq_true] at hchk
      obtain⟨r9,hr9⟩:=Option.isSome_iff_exists.1 hchk.1
      have hl1:=jd hr9
      have hlt:=bR hw1 hl1
      refine⟨hl1,hlt,?_⟩
      rcases hchk.2 with h5|h5
      ·exact(hG.back hm2).own n0 (Nat.le_of_ble_eq_true h5) hlt
      ·exact(hG.back hm2).fp n0 (by simpa using h5)
     refine(hround ro G ρ1 w1 p tmps fn _ hn0.2.2 hn0.2.1 hG h2.rep (hf.right hm1 h2) hpn htm fun ρ2 x w2 hx he2=>?_)
     have he:=h2.trans hw hm1 hm2 he2
     exact hK ρ2 w2 _ he ((ht.mono (he.le hf)).put hp hx)
    ·cases h
   ·cases h
  ·cases h
 ·rw[hwt] at h
  simp only[cond_false] at h
  split at h
  ·rename_i f1 hp
   cases h
   refine⟨ar.refl s,⟨iE hp,cl hp⟩,fun ro G ρ w a K Q hG hr hf ht hK=>?_⟩
   rw[du ht,hwt]
   simp only[Bool.false_eq_true,if_false]
   exact⟨fun _ _=>trivial,hK ρ w _ (aN hr) (ht.put hp mG)⟩
  ·cases h
end
end Go.Proofs.YtfnkomoickanfaaGreatDoor.Ev
