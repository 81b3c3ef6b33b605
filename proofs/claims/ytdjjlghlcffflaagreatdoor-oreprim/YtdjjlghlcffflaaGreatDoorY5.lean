/- Own. -/
import Derived.Test.YtdjjlghlcffflaaGreatDoorFc
set_option linter.unusedVariables false
set_option linter.unusedSimpArgs false
set_option maxHeartbeats 8000000
set_option maxRecDepth 100000
namespace Go.Proofs.YtdjjlghlcffflaaGreatDoor.Md
open Go.Proofs.YtdjjlghlcffflaaGreatDoor
theorem y8{p:Int}(hp:2<=p)(iv:Int->Int)(hiv:∀a,¬p∣a->(a*iv a)%p=1):∀(f:Nat) (A:List Int) (na:Nat) (B:List Int) (nb:Nat),nb<=f->na<=A.length->nb<=B.length->Res p A->Res p B->
  (0<nb->gx B (nb-1)≠0)->(nb=0->0<na/\gx A (na-1)=1)->0<(dvs p iv f A na B nb).2/\gx (dvs p iv f A na B nb).1 ((dvs p iv f A na B nb).2-1)=1
 |0,A,na,B,nb,hf,_,_,_,_,_,h1=>by
  obtain rfl:nb=0:=by omega
  rw[dvs];exact h1 rfl
 |f+1,A,na,B,nb,hf,hA,hB,rA,rB,ht,h1=>by
  rw[dvs];by_cases h0:nb=0
  ·rw[if_pos h0]
   exact h1 h0
  ·rw[if_neg h0]
   have hinv:=hiv _ (Res.zt rB (ht (by omega)))
   generalize iv (gx B (nb-1))=c at *
   have gB:gx ((B.take nb).map (· * c%p)) (nb-1)=1:=by
    rw[cE (· * c%p) (by simp)]
    show gx (B.take nb) (nb-1)*c%p=1
    rw[bm _ _ _ (by omega)]
    exact hinv
   have lB:((B.take nb).map (· * c%p)).length=nb:=by rw[List.length_map,List.length_take];omega
   have rB1:Res p ((B.take nb).map (· * c%p)):=Res.scaled hp;generalize (B.take nb).map (· * c%p)=B1 at *
   have lR:=ix p B1 (nb-1) (na-(nb-1)) A;have rR:Res p (bX p B1 (nb-1) (na-(nb-1)) A):=Res.bX hp _ rA;generalize bX p B1 (nb-1) (na-(nb-1)) A=R at *
   have hl:=aj (R.take (min (nb-1) na));rw[List.length_take] at hl
   exact y8 hp iv hiv f B1 nb R (ad (R.take (min (nb-1) na))) (by omega) (by omega) (by omega) rB1 rR (fun h=>by
    have h2:=aw _ h;rwa [bm _ _ _ (by omega)] at h2) (fun _=>⟨by omega,gB⟩)
theorem C1{p:Int}{I:(Nat->Int)->Prop}(H:Idl p I)(A:List Int):I (tk (A.map (· % p)) (ad (A.map (· % p))))<->I (gx A):=by
 have e:∀t,tk (A.map (· % p)) (ad (A.map (· % p))) t=gx A t%p:=fun t=>by
  unfold tk;split
  ·rw[cE (· % p) (by simp)]
  ·rename_i h
   have:=az (A.map (· % p)) t (by omega)
   rw[cE (· % p) (by simp)] at this
   exact this.symm
 exact⟨fun h=>H.cg h fun t=>by rw[e];exact Cr.dQ p _,fun h=>H.cg h fun t=>by rw[e];exact dP p _⟩
structure Told(m:Nat)(A B H:List Int)(u R lead:Int)(D:List Int)(nd:Nat):Prop where
 pos:0<nd
 le:nd<=ad B
 one:gx D (nd-1)=1
 ge:H.length<=nd
 eq:nd=H.length->∀t,t<nd->(m:Int)∣lead*gx D t-u*gx H t
 bad:nd≠H.length->(m:Int)∣R
variable {m F:Nat} {A H a b:List Int}
theorem AL(hp:Gs.Pri (m:Int)){B:List Int}(G:GG A B H a b){R lead u:Int}(hbz:∀I,Idl 0 I->I (gx a)->I (gx b)->I (cst R))(hu:lead=gx H (H.length-1)*u)(hl:¬(m:Int)∣lead)(hB:Gs.Prm B)(hF:ad (B.map (· % (m:Int)))<=F){D:List Int}{nd:Nat}
  (h:dvs m (fun a=>a^(m-2)%(m:Int)) F (A.map (· % (m:Int))) (ad (A.map (· % (m:Int)))) (B.map (· % (m:Int))) (ad (B.map (· % (m:Int))))=(D,nd)):Told m A B H u R lead D nd:=by
 have hp2:(2:Int)<=(m:Int):=by have:=hp.1;simp at this;omega
 have hiv:∀x:Int,¬(m:Int)∣x->(x*(x^(m-2)%(m:Int)))%(m:Int)=1:=fun x hx=>Cp.BS hp hx
 have rs:∀l:List Int,Res (m:Int) (l.map (· % (m:Int))):=fun l j=>by
  rw[cE (· % (m:Int)) (by simp)]
  exact⟨Int.emod_nonneg _ (by omega),JK _ (by omega)⟩
 have nz:0<ad (B.map (· % (m:Int))):=by
  rcases Jw (ad (B.map (· % (m:Int)))) with h0|h0
  ·exfalso
   have:=hB (m:Int) fun t=>by
    have h1:=az (B.map (· % (m:Int))) t (by omega)
    rw[cE (· % (m:Int)) (by simp)] at h1
    exact Int.dvd_of_emod_eq_zero h1
   omega
  ·exact h0
 have top:∀l:List Int,0<ad l->gx l (ad l-1)≠0:=aw;have h1:=y8 hp2 _ hiv F (A.map (· % (m:Int))) _ (B.map (· % (m:Int))) _ hF (aj _) (aj _) (rs A) (rs B) (top _) (fun h0=>by omega)
 have h2:∀I,Idl (m:Int) I->((I (gx A)/\I (gx B))<->I (tk D nd)):=fun I hI=>by
  have h3:=y7 hI hp2 (fun a=>a^(m-2)%(m:Int)) hiv F (A.map (· % (m:Int))) _ (B.map (· % (m:Int))) _ hF (aj _) (aj _) (rs A) (rs B) (top _)
  rw[h,C1 hI A,C1 hI B] at h3
  exact h3
 rw[h] at h1
 obtain⟨p1,p2⟩:=h1;simp only at p1 p2
 obtain⟨g,hg⟩:∃g,H.length=g+1:=⟨H.length-1,by
  have:=cM G.hP;have:=G.hl;omega⟩
 have hg1:H.length-1=g:=by omega
 rw[hg1] at hu
 have hHg:¬(m:Int)∣gx H g:=fun hd=>hl (by rw[hu];exact Int.dvd_mul_of_dvd_left hd)
 have hGz:∀t,g<t->gx H t=0:=fun t ht=>ak H (g+1) (by omega) t (by omega)
 have mA:Mp (m:Int) (gx H) (gx A):=⟨gx a,a.length,fun t ht=>ak a _ (Jr _) t ht,fun t=>by rw[G.hA,Int.sub_self];exact Int.dvd_zero _⟩
 have mB:Mp (m:Int) (gx H) (gx B):=⟨gx b,b.length,fun t ht=>ak b _ (Jr _) t ht,fun t=>by rw[G.hB,Int.sub_self];exact Int.dvd_zero _⟩
 have tz:∀t,nd-1<t->tk D nd t=0:=fun t ht=>by unfold tk;rw[if_neg (by omega)]
 have t1:tk D nd (nd-1)=1:=by unfold tk;rw[if_pos (by omega),p2]
 have hd1:¬(m:Int)∣tk D nd (nd-1):=by
  rw[t1];intro hd;have:=Int.le_of_dvd (by decide) hd
  omega
 have hge:g<=nd-1:=BD hp hHg hGz mA mB h2 hd1 (fun t ht=>by rw[tz t ht];exact Int.dvd_zero _)
 refine⟨p1,?_,p2,by omega,fun he t ht=>?_,fun hne=>?_⟩
 ·obtain⟨-,iB⟩:=(h2 _ (ov (m:Int) (tk D nd))).2 (zo _ _)
  rcases sy hp hd1 (fun t ht=>by rw[tz t ht];exact Int.dvd_zero _) iB with h4|⟨q,e,-,-,-,h4,-⟩
  ·exfalso
   have:=hB (m:Int) h4;omega
  ·rcases Ju (e+(nd-1)) (ad B) with h5|h5
   ·omega
   ·exact absurd (by rw[az B _ h5];exact Int.dvd_zero _) h4
 ·have hnd:nd-1=g:=by omega
  rw[hnd] at t1 tz
  have h3:=EP hp hHg hGz mA mB h2 (by rw[t1,Int.sub_self];exact Int.dvd_zero _) (fun t ht=>by rw[tz t ht];exact Int.dvd_zero _)
  have h4:=yK h3 hu t;unfold tk at h4
  rwa [if_pos ht] at h4
 ·refine Classical.byContradiction fun hR=>hne ?_
  have h3:=(Aw hp hHg hGz (fun t ht=>ak a _ (Jr _) t ht) (fun t ht=>ak b _ (Jr _) t ht) G.hA G.hB hR hbz h2 (by rw[t1,Int.sub_self];exact Int.dvd_zero _) (fun t ht=>by rw[tz t ht];exact Int.dvd_zero _)).1
  omega
structure ImS(k:Nat)(H:List Int)(u R lead:Int)(n:Nat)(l:List Nat)(e:Nat->Int):Prop where
 img:∃x:Nat->Int,Img l x e n/\(n=H.length->∀t,t<n->x t=u*gx H t)
 ge:H.length<=n
 mem:∀p∈l,p∈Cp.chain.take k
 bad:n≠H.length->∀p∈l,(p:Int)∣R
 top:∀p∈l,¬(p:Int)∣e (n-1)
 few:n=H.length->l.length<=13
 cnt:∃bad:List Nat,bad.Nodup/\(∀p∈bad,p∈Cp.chain.take k/\(p:Int)∣lead*R/\p∉l)/\k<=bad.length+l.length
variable {k:Nat}
theorem gj(hk:k<320):Cp.chain.getD k 0∈Cp.chain/\Cp.chain.getD k 0∉Cp.chain.take k/\Cp.chain.take (k+1)=Cp.chain.take k++[Cp.chain.getD k 0]:=by
 have hl:=Cp.nV;have e:Cp.chain.getD k 0=Cp.chain[k]'(by omega):=by rw[List.getD_eq_getElem?_getD,List.getElem?_eq_getElem (by omega),Option.getD_some]
 have h2:Cp.chain.take (k+1)=Cp.chain.take k++[Cp.chain[k]'(by omega)]:=by rw[List.take_succ_eq_append_getElem]
 rw[e];refine⟨List.getElem_mem _,fun hm=>?_,h2⟩
 have h3:(Cp.chain.take (k+1)).Nodup:=Cp.yf.sublist (List.take_sublist _ _);rw[h2] at h3
 exact(List.nodup_append.1 h3).2.2 _ hm _ (List.mem_singleton.2 rfl) rfl
theorem mX(hk:k<320){p:Nat}(h:p∈Cp.chain.take k):p∈Cp.chain.take (k+1):=by
 rw[(gj hk).2.2];exact List.mem_append_left _ h
theorem wT(hk:k<320):Cp.chain.getD k 0∈Cp.chain.take (k+1):=by
 rw[(gj hk).2.2];exact List.mem_append_right _ (List.mem_singleton.2 rfl)
section
variable {k:Nat} {H:List Int} {u R lead:Int} {n:Nat} {l:List Nat} {e:Nat->Int}
theorem ImS.skip(h:ImS k H u R lead n l e)(hk:k<320)(hd:((Cp.chain.getD k 0:Nat):Int)∣lead*R):ImS (k+1) H u R lead n l e:=by
 obtain⟨hm1,hm2,-⟩:=gj hk;obtain⟨bad,b1,b2,b3⟩:=h.cnt;refine⟨h.img,h.ge,fun p hp=>mX hk (h.mem p hp),h.bad,h.top,h.few,Cp.chain.getD k 0::bad,List.nodup_cons.2 ⟨fun hb=>hm2 (b2 _ hb).1,b1⟩,fun p hp=>?_,by rw[List.length_cons];omega⟩
 rcases List.mem_cons.1 hp with rfl|hp
 ·exact⟨wT hk,hd,fun hl=>hm2 (h.mem _ hl)⟩
 ·obtain⟨c1,c2,c3⟩:=b2 p hp
  exact⟨mX hk c1,c2,c3⟩
theorem zg(x:Nat->Int)(n:Nat):Img [] x (fun _=>0) n:=
 ⟨List.nodup_nil,fun p hp=>absurd hp (List.not_mem_nil),fun p hp=>absurd hp (List.not_mem_nil),fun t _=>by rw[show Cp.aH []=1 from rfl];omega,fun t _ p hp=>absurd hp (List.not_mem_nil)⟩
theorem ImS.fresh(h:ImS k H u R lead n l e){nd:Nat}(hlt:nd<n)(hge:H.length<=nd):ImS k H u R lead nd [] (fun _=>0):=by
 obtain⟨bad,b1,b2,b3⟩:=h.cnt;obtain⟨x,i1,-⟩:=h.img;refine⟨⟨fun t=>u*gx H t,zg _ _,fun _ _ _=>rfl⟩,hge,fun p hp=>absurd hp (List.not_mem_nil),fun _ p hp=>absurd hp (List.not_mem_nil),fun p hp=>absurd hp (List.not_mem_nil),fun _=>Jz _,l++bad,List.nodup_append.2 ⟨i1.nd,b1,fun a ha c hc he=>?_⟩,fun p hp=>?_,by rw[List.length_append,List.length_nil];omega⟩
 ·subst he
  exact(b2 a hc).2.2 ha
 ·rcases List.mem_append.1 hp with hp|hp
  ·exact⟨h.mem p hp,Int.dvd_mul_of_dvd_right (h.bad (by omega) p hp),List.not_mem_nil⟩
  ·exact⟨(b2 p hp).1,(b2 p hp).2.1,List.not_mem_nil⟩
theorem ImS.start(H:List Int)(u R lead:Int)(hn:H.length<n):ImS 0 H u R lead n [] (fun _=>0):=
 ⟨⟨fun t=>u*gx H t,zg _ _,fun _ _ _=>rfl⟩,by omega,fun p hp=>absurd hp (List.not_mem_nil),fun _ p hp=>absurd hp (List.not_mem_nil),fun p hp=>absurd hp (List.not_mem_nil),fun _=>Jz _,[],List.nodup_nil,fun p hp=>absurd hp (List.not_mem_nil),Jz _⟩
theorem uR:∀q∈Cp.chain,q%2=1:=by decide +kernel
theorem ImS.next(h:ImS k H u R lead n l e)(hk:k<320){A B D:List Int}(hT:Told (Cp.chain.getD k 0) A B H u R lead D n)(hl:¬((Cp.chain.getD k 0:Nat):Int)∣lead){r:Nat->Int}(hr:∀t,t<n->((Cp.chain.getD k 0:Nat):Int)∣r t-lead*gx D t)(hf:n=H.length->l.length<=12):
  ImS (k+1) H u R lead n (Cp.chain.getD k 0::l) (fun t=>Cr.nxt (Cp.chain.getD k 0) (Cp.aH l:Nat) (e t) (r t)):=by
 obtain⟨hm1,hm2,-⟩:=gj hk;have hml:Cp.chain.getD k 0∉l:=fun hx=>hm2 (h.mem _ hx)
 have hp:Gs.Pri ((Cp.chain.getD k 0:Nat):Int):=Cp.kM hm1;have ho:=uR _ hm1;have hlast:=wT hk;have hne:=hT.bad;have heq:=hT.eq;have hone:=hT.one;have hpos:=hT.pos;generalize Cp.chain.getD k 0=m at *
 obtain⟨bad,b1,b2,b3⟩:=h.cnt;obtain⟨x,i1,i2⟩:=h.img;have hM:¬(m:Int)∣((Cp.aH l:Nat):Int):=fun hd=>by
  obtain⟨q,h1,h2⟩:=Cp.jE hp l hd;rw[Cp.m_ hp (i1.pri q h1) h2] at hml
  exact hml h1
 refine⟨?_,h.ge,fun p hp'=>?_,fun hn p hp'=>?_,fun p hp'=>?_,fun hn=>by rw[List.length_cons];have:=hf hn;omega,bad,b1,fun p hp'=>?_,by rw[List.length_cons];omega⟩
 ·by_cases hn:n=H.length
  ·refine⟨x,i1.take hp ho hml fun t ht=>?_,i2⟩
   have h1:=Int.dvd_add (hr t ht) (heq hn t ht);rw[i2 hn t ht];rwa [show r t-lead*gx D t+(lead*gx D t-u*gx H t)=r t-u*gx H t by omega] at h1
  ·refine⟨fun t=>Cr.nxt m (Cp.aH l:Nat) (e t) (r t),Img.take (⟨i1.nd,i1.pri,i1.odd,i1.rD,fun t ht p hp'=>?_⟩) hp ho hml fun t ht=>?_,fun hx=>absurd hx hn⟩
   ·have h1:=Int.dvd_trans (Int.natCast_dvd_natCast.2 (Cp.jw l p hp')) (Cr.tZ m (Cp.aH l:Nat) (e t) (r t))
    have h2:=Int.dvd_neg.2 h1;rwa [show -(Cr.nxt m (Cp.aH l:Nat) (e t) (r t)-e t)=e t-Cr.nxt m (Cp.aH l:Nat) (e t) (r t) by omega] at h2
   ·have h1:=Int.dvd_neg.2 (Cr.pK hp hM (e t) (r t))
    rwa [show -(Cr.nxt m (Cp.aH l:Nat) (e t) (r t)-r t)=r t-Cr.nxt m (Cp.aH l:Nat) (e t) (r t) by omega] at h1
 ·rcases List.mem_cons.1 hp' with rfl|hp'
  ·exact hlast
  ·exact mX hk (h.mem p hp')
 ·rcases List.mem_cons.1 hp' with rfl|hp'
  ·exact hne hn
  ·exact h.bad hn p hp'
 ·intro hd
  rcases List.mem_cons.1 hp' with h1|hp'
  ·subst h1
   refine hl ?_;have h2:=Cr.pK hp hM (e (n-1)) (r (n-1));have h3:=hr (n-1) (by omega)
   rw[hone,Int.mul_one] at h3
   have h4:=Int.dvd_sub hd (Int.dvd_add h2 h3);rwa [show Cr.nxt p (Cp.aH l:Nat) (e (n-1)) (r (n-1))-(Cr.nxt p (Cp.aH l:Nat) (e (n-1)) (r (n-1))-r (n-1)+(r (n-1)-lead))=lead by omega] at h4
  ·refine h.top p hp' ?_
   have h2:=Int.dvd_trans (Int.natCast_dvd_natCast.2 (Cp.jw l p hp')) (Cr.tZ m (Cp.aH l:Nat) (e (n-1)) (r (n-1)));have h4:=Int.dvd_sub hd h2;rwa [show Cr.nxt m (Cp.aH l:Nat) (e (n-1)) (r (n-1))-(Cr.nxt m (Cp.aH l:Nat) (e (n-1)) (r (n-1))-e (n-1))=e (n-1) by omega] at h4
 ·obtain⟨c1,c2,c3⟩:=b2 p hp'
  exact⟨mX hk c1,c2,fun hx=>by
   rcases List.mem_cons.1 hx with h1|h1
   ·exact hm2 (by rw[<-h1];exact c1)
   ·exact c3 h1⟩
theorem xq:∀l:List Nat,(∀p∈l,p<=2^31)->Cp.aH l<=2^(31*l.length)
 | [],_=>by simp[Cp.aH]
 |p::l,h=>by
  rw[Cp.aH,List.length_cons,Nat.mul_add,Nat.mul_one,Nat.pow_add,Nat.mul_comm];exact Nat.mul_le_mul (xq l fun q hq=>h q (List.mem_cons_of_mem _ hq)) (h p (List.mem_cons_self ..))
theorem ImS.Fv(h:ImS k H u R lead n l e)(hR:R≠0)(hRb:R.natAbs<=2^rb):l.length<=70:=by
 have hrb:rb=2116:=rfl;by_cases hn:n=H.length
 ·have:=h.few hn;omega
 ·obtain⟨x,i1,-⟩:=h.img
  have:=Cp.sf hR hRb l i1.nd i1.pri (fun p hp=>Cp.qK p (List.mem_of_mem_take (h.mem p hp))) (h.bad hn)
  omega
theorem ImS.I9(h:ImS k H u R lead n l e)(hR:R≠0)(hRb:R.natAbs<=2^rb)(h0:lead≠0)(hlb:lead.natAbs<=2^160):k<=150:=by
 have h1:=h.Fv hR hRb;obtain⟨bad,b1,b2,b3⟩:=h.cnt;have hrb:rb=2116:=rfl;have h2:=Cp.sf (X:=lead*R) (Int.mul_ne_zero h0 hR) (B:=160+rb) (by
  rw[Int.natAbs_mul,Nat.pow_add];exact Nat.mul_le_mul hlb hRb) bad b1 (fun p hp=>Cp.kM (List.mem_of_mem_take (b2 p hp).1)) (fun p hp=>Cp.qK p (List.mem_of_mem_take (b2 p hp).1)) fun p hp=>(b2 p hp).2.1
 omega
theorem ImS.is(h:ImS k H u R lead n l e)(hn:n=H.length)(hl:13<=l.length){b:Nat}(hb:b<389)(hW:∀t,(u*gx H t).natAbs<=2^b)(t:Nat)(ht:t<n):e t=u*gx H t:=by
 obtain⟨x,i1,i2⟩:=h.img;have h1:=Cp.rF l fun p hp=>Cp.qK p (List.mem_of_mem_take (h.mem p hp))
 have h2:2^(b+2)<=2^(30*l.length):=Nat.pow_le_pow_right (by decide) (by omega)
 rw[Nat.pow_add] at h2
 have h3:=hW t;have h4:0<2^b:=Nat.pow_pos (by decide)
 rw[<-i2 hn t ht] at h3 ⊢
 generalize 2^b=P at *
 refine i1.is ht ⟨?_,?_⟩<;>omega
theorem ImS.dE(h:ImS k H u R lead n l e)(hn:n=H.length)(hl:13<=l.length){b:Nat}(hb:b<389)(hW:∀t,(u*gx H t).natAbs<=2^b){m:Nat}{A B D:List Int}(hT:Told m A B H u R lead D n){r:Nat->Int}(hr:∀t,t<n->(m:Int)∣r t-lead*gx D t)(M:Int)(t:Nat)(ht:t<n):Cr.dE m M (e t) (r t)=0:=by
 have h1:=h.is hn hl hb hW t ht;have h2:=Int.dvd_add (hr t ht) (hT.eq hn t ht);rw[<-h1,show r t-lead*gx D t+(lead*gx D t-e t)=r t-e t by omega] at h2
 have h3:=Cr.dQ (m:Int) (e t);have h4:=Int.dvd_add h2 h3;rw[show r t-e t+(e t-e t%(m:Int))=r t-e t%(m:Int) by omega] at h4
 unfold Cr.dE;rw[Int.emod_eq_zero_of_dvd h4,Int.zero_mul,Int.zero_emod]
end
theorem Cy(hl:ad H=H.length)(h0:0<gx H (H.length-1))(hP:Gs.Prm H):aC H=H:=by
 have h1:aB H=1:=by
  have:=hP (aB H:Nat) (fj H);omega
 rw[cW,prd,if_neg (by omega),h1]
 exact(List.map_congr_left (g:=id) fun x _=>by simp).trans (List.map_id _)
variable {n:Nat}
theorem Et{u:Int}{e:Nat->Int}(hu:u≠0)(hl:ad H=H.length)(h0:0<gx H (H.length-1))(hP:Gs.Prm H)(hn:n=H.length)(he:∀t,t<n->e t=u*gx H t):aC (lst n e)=H:=by
 have h1:lst n e=H.map (u * ·):=by
  refine dm _ _ (by simp[lst,hn]) fun t ht=>?_
  have ht':t<n:=by simpa [lst] using ht
  rw[Gs.eM _ (JC u),<-he t ht'];unfold lst;simp[gx,ht']
 rw[h1,AM u hu H hl,Cy hl h0 hP]
end Go.Proofs.YtdjjlghlcffflaaGreatDoor.Md
namespace Go.Proofs.YtdjjlghlcffflaaGreatDoor
open Go.RowKit
def rdd(w:World):Option Value->Nat
 |some (.slice (some ⟨b,off,none⟩) n _)=>(vd ((List.range n).map fun j=>match w.cell? ⟨b,off+j,none⟩ with|some (.int _ x)=>x|_=>0)).toNat
 |_=>0
variable {w:World} {p:Option Addr} {n:Nat} {ds:List Int} {s:Bool}
theorem CN{c:Nat}(h:RN w s p n ds):rdd w (some (.slice p n c))=(vd ds).toNat:=by
 rcases Jw n with h0|h0
 ·have e:ds=[]:=JB (by rw[h.len];exact h0)
  subst h0;rw[e]
  cases p with
  |none=>rfl
  |some a=>obtain⟨b,off,r⟩:=a;cases r<;>rfl
 ·obtain⟨b,off,rfl,hc⟩:=h.rd (by rw[h.len];exact h0)
  have e:((List.range n).map fun j=>match w.cell? ⟨b,off+j,none⟩ with|some (.int _ x)=>x|_=>0)=ds:=by
   refine dm _ _ (by simp[h.len]) fun j hj=>?_
   have hj':j<n:=by simpa using hj
   rw[bZ _ _ hj];simp only[List.getElem_map,List.getElem_range,hc j (by rw[h.len];exact hj')]
  simp only[rdd,e]
def FZ(V:Nat->Prop)(g:Nat)(N:Nat)(w:World)(e:Ending)(w':World):Prop:=
 ∃p' n' ds',e=.returned (.agg #[.bool false,.slice p' n' n'])/\RN w' false p' n' ds'/\aF false ds'=(g:Int)/\n'<=N/\Below w.heap.size w w'/\(0<n'->∀x,p'=some x->V x.block)
structure Gv(w wc:World)(g1 g2:Nat)(p1:Option Addr)(n1:Nat)(d1:List Int)(p2:Option Addr)(n2:Nat)(d2:List Int)(g N:Nat)(V:Nat->Prop):Prop where
 b1:Bx wc g1 (.bool false) (.slice p1 n1 n1)
 b2:Bx wc g2 (.bool false) (.slice p2 n2 n2)
 br:Bx wc (w.heap.size+1+1) (.bool false) (.slice none 0 0)
 r1:RN wc false p1 n1 d1
 r2:RN wc false p2 n2 d2
 ne:g1≠g2
 l1:w.heap.size+1+1<g1
 l2:w.heap.size+1+1<g2
 o1:0<n1->∀x,p1=some x->x.block≠g1/\x.block≠g2/\x.block≠w.heap.size+1+1
 o2:0<n2->∀x,p2=some x->x.block≠g1/\x.block≠g2/\x.block≠w.heap.size+1+1
 k1:n1<=N
 k2:n2<=N
 g:Int.gcd (vd d1) (vd d2)=g
 bl:Below w.heap.size w wc
 v1:0<n1->∀x,p1=some x->V x.block
 v2:0<n2->∀x,p2=some x->V x.block
variable {g1 g2 g N:Nat}
theorem Gv.later{wc wc':World}{p1:Option Addr}{n1:Nat}{d1:List Int}{p2:Option Addr}{n2:Nat}{d2:List Int}{V:Nat->Prop}(h:Gv w wc g1 g2 p1 n1 d1 p2 n2 d2 g N V)(hb:Below wc.heap.size wc wc'):Gv w wc' g1 g2 p1 n1 d1 p2 n2 d2 g N V:=
 ⟨h.b1.later hb,h.b2.later hb,h.br.later hb,h.r1.below hb,h.r2.below hb,h.ne,h.l1,h.l2,h.o1,h.o2,h.k1,h.k2,h.g,bh h.bl (Jr _) hb,h.v1,h.v2⟩
variable {r:Nat}
theorem Bx.drew{a b:Value}(h:Bx w r a b):Bx w.drew r a b:=⟨h.c0,h.c1,h.f0,h.f1⟩
theorem Gv.step{W3:World}{p1:Option Addr}{n1:Nat}{d1:List Int}{p2:Option Addr}{n2:Nat}{d2:List Int}{V:Nat->Prop}{p4:Option Addr}{n4:Nat}{d3 d4:List Int}(hV:Gv w W3 g1 g2 p1 n1 d1 p2 n2 d2 g N V)(hR:RN W3 false p4 n4 d4)
  (ho:0<n4->∀x,p4=some x->x.block≠g1/\x.block≠g2/\x.block≠w.heap.size+1+1) (hn:n4<=n2) (heq:vd d3*vd d2+vd d4=vd d1) (hv4:0<n4->∀x,p4=some x->V x.block):
  Gv w ((((W3.setCell ⟨g1,0,none⟩ (.bool false)).setCell ⟨g1,1,none⟩ (.slice p2 n2 n2)).setCell ⟨g2,0,none⟩ (.bool false)).setCell ⟨g2,1,none⟩ (.slice p4 n4 n4)).drew g1 g2 p2 n2 d2 p4 n4 d4 g N V/\
  rdd ((((W3.setCell ⟨g1,0,none⟩ (.bool false)).setCell ⟨g1,1,none⟩ (.slice p2 n2 n2)).setCell ⟨g2,0,none⟩ (.bool false)).setCell ⟨g2,1,none⟩ (.slice p4 n4 n4)).drew (((((W3.setCell ⟨g1,0,none⟩ (.bool false)).setCell ⟨g1,1,none⟩ (.slice p2 n2 n2)).setCell ⟨g2,0,none⟩ (.bool false)).setCell ⟨g2,1,none⟩ (.slice p4 n4 n4)).drew.cell? ⟨g2,1,none⟩)=(vd d4).toNat:=by
 have hne:=hV.ne;have l1:=hV.l1;have l2:=hV.l2;have e1:=(dO (x:=.bool false) (y:=.slice p4 n4 n4) (eg (x:=.bool false) (y:=.slice p2 n2 n2) hV.b1) hne).drew;have e2:=(eg (x:=.bool false) (y:=.slice p4 n4 n4) (dO (x:=.bool false) (y:=.slice p2 n2 n2) hV.b2 (fun e=>hne e.symm))).drew
 have e3:=(dO (x:=.bool false) (y:=.slice p4 n4 n4) (dO (x:=.bool false) (y:=.slice p2 n2 n2) hV.br (show w.heap.size+1+1≠g1 by omega)) (show w.heap.size+1+1≠g2 by omega)).drew
 have r2:=((((hV.r2.set (a:=⟨g1,0,none⟩) (fun h x hx=>(hV.o2 h x hx).1) (.bool false)).set (a:=⟨g1,1,none⟩) (fun h x hx=>(hV.o2 h x hx).1) (.slice p2 n2 n2)).set (a:=⟨g2,0,none⟩) (fun h x hx=>(hV.o2 h x hx).2.1) (.bool false)).set (a:=⟨g2,1,none⟩) (fun h x hx=>(hV.o2 h x hx).2.1) (.slice p4 n4 n4)).drew
 have r4:=((((hR.set (a:=⟨g1,0,none⟩) (fun h x hx=>(ho h x hx).1) (.bool false)).set (a:=⟨g1,1,none⟩) (fun h x hx=>(ho h x hx).1) (.slice p2 n2 n2)).set (a:=⟨g2,0,none⟩) (fun h x hx=>(ho h x hx).2.1) (.bool false)).set (a:=⟨g2,1,none⟩) (fun h x hx=>(ho h x hx).2.1) (.slice p4 n4 n4)).drew
 have hbl:=((((hV.bl.setCell (p:=⟨g1,0,none⟩) (show w.heap.size<=g1 by omega) (.bool false)).setCell (p:=⟨g1,1,none⟩) (show w.heap.size<=g1 by omega) (.slice p2 n2 n2)).setCell (p:=⟨g2,0,none⟩) (show w.heap.size<=g2 by omega) (.bool false)).setCell (p:=⟨g2,1,none⟩) (show w.heap.size<=g2 by omega) (.slice p4 n4 n4)).drew
 generalize ((((W3.setCell ⟨g1,0,none⟩ (.bool false)).setCell ⟨g1,1,none⟩ (.slice p2 n2 n2)).setCell ⟨g2,0,none⟩ (.bool false)).setCell ⟨g2,1,none⟩ (.slice p4 n4 n4)).drew=X at *
 refine⟨⟨e1,e2,e3,r2,r4,hne,l1,l2,hV.o2,ho,hV.k2,by have:=hV.k2;omega,by rw[mN heq];exact hV.g,hbl,hV.v2,hv4⟩,?_⟩
 rw[e2.c1,CN r4]
theorem IN(V:Nat->Prop)(s t:Bool)(p q:Option Addr)(n m N:Nat)(ds es:List Int)(w:World)(hA:RN w s p n ds)(hB:RN w t q m es)(hn:n<=N)(hm:m<=N)(hN:N<=1000)(hVp:0<n->∀x,p=some x->V x.block)(hVq:0<m->∀x,q=some x->V x.block)(hVn:∀b,w.heap.size<=b->V b):
  Calls Tryz.prog 85 #[.agg #[.bool s,.slice p n n],.agg #[.bool t,.slice q m m]] w (FZ V (Int.gcd (vd ds) (vd es)) N w):=by
 have HVV:Hid ((0<n->∀x,p=some x->V x.block)/\(0<m->∀x,q=some x->V x.block)/\(∀b,w.heap.size<=b->V b)):=⟨hVp,hVq,hVn⟩;clear hVp hVq hVn;obtain⟨g,hg⟩:∃g,g=Int.gcd (vd ds) (vd es):=⟨_,rfl⟩;have HG:Hid (g=Int.gcd (vd ds) (vd es)):=hg;rw[<-hg];clear hg;go_enter Tryz.func85,Tryz.ntmps85;go_upto_region 1 with fail
 have b1:Bx (((w.alloc (.cells #[.bool s,.slice p n n] 65)).alloc (.cells #[.bool t,.slice q m m] 65)).alloc (.cells #[.bool false,.slice none 0 0] 65)) w.heap.size (.bool s) (.slice p n n):=((Bx.new _ _ _ rfl).alloc _).alloc _;have b2:Bx (((w.alloc (.cells #[.bool s,.slice p n n] 65)).alloc (.cells #[.bool t,.slice q m m] 65)).alloc (.cells #[.bool false,.slice none 0 0] 65)) (w.heap.size+1) (.bool t) (.slice q m m):=(Bx.new _ _ _ (Js ..).symm).alloc _;have b3:Bx (((w.alloc (.cells #[.bool s,.slice p n n] 65)).alloc (.cells #[.bool t,.slice q m m] 65)).alloc (.cells #[.bool false,.slice none 0 0] 65)) (w.heap.size+1+1) (.bool false) (.slice none 0 0):=Bx.new _ _ _ (by rw[Js,Js])
 have hbw:Below w.heap.size w (((w.alloc (.cells #[.bool s,.slice p n n] 65)).alloc (.cells #[.bool t,.slice q m m] 65)).alloc (.cells #[.bool false,.slice none 0 0] 65)):=ag (ag (ag (Jt _ _)));generalize (((w.alloc (.cells #[.bool s,.slice p n n] 65)).alloc (.cells #[.bool t,.slice q m m] 65)).alloc (.cells #[.bool false,.slice none 0 0] 65))=wc at *
 have hA1:=hA.below hbw;have hB1:=hB.below hbw;have hpl:=hA.lt;have hql:=hB.lt;have k0:=b1.c0;have k1:=b1.c1;have k2:=b2.c0;have k3:=b2.c1;have hgr:w.heap.size+1+1<wc.heap.size:=block_lt_of_cell b3.c0;have hga:w.heap.size<wc.heap.size:=by omega
 have hgb:w.heap.size+1<wc.heap.size:=by omega
 have HO:Hid ((0<n->∀x,p=some x->x.block<w.heap.size)/\(0<m->∀x,q=some x->x.block<w.heap.size)):=⟨hpl,hql⟩;clear hpl hql;go_cut [5,6] (fun xv yv w3=>∃(g1 g2:Nat),xv=.pointer (some ⟨g1,0,none⟩)/\yv=.pointer (some ⟨g2,0,none⟩)/\Gv w w3 g1 g2 p n ds q m es g N V)
 case first=>
  go_region_held3 (fun w'=>w'.cell? ⟨w.heap.size,0,none⟩=some (.bool s)/\w'.cell? ⟨w.heap.size,1,none⟩=some (.slice p n n)/\w'.cell? ⟨w.heap.size+1,0,none⟩=some (.bool t)/\w'.cell? ⟨w.heap.size+1,1,none⟩=some (.slice q m m)) (first|with_reducible exact dU ⟨y0,y1,y2,y3⟩ (ag (ag (Jt _ _)))|with_reducible exact dU ⟨y0,y1,y2,y3⟩ (ag (Jt _ _))|with_reducible exact⟨y0,y1,y2,y3⟩|with_reducible exact vL (dU ⟨y0,y1,y2,y3⟩ (ag (Jt _ _))) (by omega) (by omega)|with_reducible exact vL ⟨y0,y1,y2,y3⟩ (by omega) (by omega)|with_reducible exact vL (vL ⟨y0,y1,y2,y3⟩ (by omega) (by omega)) (by omega) (by omega)|with_reducible exact dU ⟨q0,q1,q2,q3⟩ (ag (ag (Jt _ _)))|with_reducible exact dU ⟨q0,q1,q2,q3⟩ (ag (Jt _ _))|with_reducible exact⟨q0,q1,q2,q3⟩|with_reducible exact dU ⟨k0,k1,k2,k3⟩ (Below.drew (Jt _ _))|with_reducible exact dU ⟨k0,k1,k2,k3⟩ (Below.drew (ag (Jt _ _)))|with_reducible exact dU ⟨k0,k1,k2,k3⟩ (Below.drew (ag (ag (Jt _ _))))|(simp[go_sem, *];done))
   (first
    |(go_at_call_of 143 (Value.agg #[.bool s,.slice p n n]);refine(zE (hA1.below (by first|exact(Jt _ _).drew|exact(ag (Jt _ _)).drew|exact(ag (ag (Jt _ _))).drew))).mono ?_;rintro e x1 ⟨rfl,hR1,hx1⟩;have hB1':=aQ hx1;have hW1:=comp (X2:=wc) (w2:=wc) (Jt _ _) (by(repeat apply ag);exact Jt _ _) hB1';obtain⟨hc1,hf1,hz1,-,-⟩:=lM hB1';obtain⟨o1,o2,o3,o4⟩:=bne hB1';have q0:=cell_later hW1 k0;have q1:=cell_later hW1 k1;have q2:=cell_later hW1 k2;have q3:=cell_later hW1 k3;have r1:=JE hga hW1.size;have r2:=JE hgb hW1.size;have t1:=hW1.size;have t1b:=hB1'.size)
    |(go_at_call_of 143 (Value.agg #[.bool t,.slice q m m]);refine(zE (hB1.below (by(repeat apply ag);exact hW1))).mono ?_;rintro e x2 ⟨rfl,hR2,hx2⟩;have hb12:=comp hB1' (by(repeat apply ag);exact Jt _ _) hx2;have hW2:=comp hW1 (by(repeat apply ag);exact Jt _ _) hx2;have hR12:=hR1.below (comp (X2:=x1) (w2:=x1) (Jt _ _) (by(repeat apply ag);exact Jt _ _) hx2);obtain⟨hc3,hf3,hz3,-,-⟩:=lM hx2;obtain⟨hc4,hf4,hz4,-,-⟩:=lM hb12;obtain⟨m1,m2,m3,m4⟩:=bne hx2;obtain⟨m5,m6,m7,m8⟩:=bne hb12;have y0:=cell_later hW2 k0;have y1:=cell_later hW2 k1;have y2:=cell_later hW2 k2;have y3:=cell_later hW2 k3;have r3:=JE hga hW2.size;have r4:=JE hgb hW2.size;have b32:=b3.later hW2;have t2:=hW2.size;have t2b:=hx2.size))
  all_goals (go_wp2_with fail;go_meet)
  all_goals
   refine⟨_,_,rfl,rfl,?_,?_,?_,?_,?_,?_,?_,?_,fun h0 x hx=>?_,fun h0 x hx=>?_,hn,hm,HG.out.symm,?_,HVV.out.1,HVV.out.2.1⟩
   ·(repeat (first|exact lI (by simp;done)|refine eg (u:=.bool false) (v:=.slice none 0 0) ?_|refine dO ?_ (by have h1:=t1b;have h2:=t2b;have h3:=t1;have h4:=t2;(try simp only[Js] at h1 h2);(try simp only[Js]);(try dsimp only);omega)|apply mE));all_goals exact⟨by simp[go_sem, *],by simp[go_sem, *],by simp[go_sem, *],by simp[go_sem, *]⟩
   ·(repeat (first|exact lI (by simp;done)|refine eg (u:=.bool false) (v:=.slice none 0 0) ?_|refine dO ?_ (by have h1:=t1b;have h2:=t2b;have h3:=t1;have h4:=t2;(try simp only[Js] at h1 h2);(try simp only[Js]);(try dsimp only);omega)|apply mE));all_goals exact⟨by simp[go_sem, *],by simp[go_sem, *],by simp[go_sem, *],by simp[go_sem, *]⟩
   ·(repeat (first|exact b32|apply mE|refine dO ?_ (by have h1:=t1b;have h2:=t2b;have h3:=t1;have h4:=t2;(try simp only[Js] at h1 h2);(try simp only[Js]);(try dsimp only);omega)))
   ·(repeat (first|exact hR12|apply Ff|refine Bn HO.out.1 (by have h1:=t1b;have h2:=t2b;have h3:=t1;have h4:=t2;(try simp only[Js] at h1 h2);(try simp only[Js]);(try dsimp only);omega) ?_))
   ·(repeat (first|exact hR2|apply Ff|refine Bn HO.out.2 (by have h1:=t1b;have h2:=t2b;have h3:=t1;have h4:=t2;(try simp only[Js] at h1 h2);(try simp only[Js]);(try dsimp only);omega) ?_))
   ·(have h1:=t1b;have h2:=t2b;have h3:=t1;have h4:=t2;(try simp only[Js] at h1 h2);(try simp only[Js]);(try dsimp only);omega)
   ·(have h1:=t1b;have h2:=t2b;have h3:=t1;have h4:=t2;(try simp only[Js] at h1 h2);(try simp only[Js]);(try dsimp only);omega)
   ·(have h1:=t1b;have h2:=t2b;have h3:=t1;have h4:=t2;(try simp only[Js] at h1 h2);(try simp only[Js]);(try dsimp only);omega)
   ·(have hh:=HO.out.1 h0 x hx;have h1:=t1b;have h2:=t2b;have h3:=t1;have h4:=t2;(try simp only[Js] at h1 h2);(try simp only[Js]);(try dsimp only);omega)
   ·(have hh:=HO.out.2 h0 x hx;have h1:=t1b;have h2:=t2b;have h3:=t1;have h4:=t2;(try simp only[Js] at h1 h2);(try simp only[Js]);(try dsimp only);omega)
   ·refine hbw.trans (Below.mono (B:=wc.heap.size) ?_ (by omega));(repeat (first|exact hW2|refine jr ?_ (Jr _)|refine cF ?_ (by have h1:=t1b;have h2:=t2b;have h3:=t1;have h4:=t2;(try simp only[Js] at h1 h2);(try simp only[Js]);(try dsimp only);omega)))
 case rest=>
  obtain⟨g1,g2,rfl,rfl,hG⟩:=hcut;clear k0 k1 k2 k3 b1 b2 b3 hA1 hB1 hga hgb hgr;have HGV:Hid (Gv w wc g1 g2 p n ds q m es g N V):=hG;clear hG;go_wp2;go_loopw [] (fun wr=>∃(p1:Option Addr) (n1:Nat) (d1:List Int) (p2:Option Addr) (n2:Nat) (d2:List Int),Hid (Gv w wr g1 g2 p1 n1 d1 p2 n2 d2 g N V)) (fun wr=>rdd wr (wr.cell? ⟨g2,1,none⟩))
  case atStart=>exact⟨p,n,ds,q,m,es,HGV.out⟩
  case round=>
   obtain⟨p1,n1,d1,p2,n2,d2,H⟩:=hrel;have hV:=H.out;have k2:=hV.b2.c0;have k3:=hV.b2.c1;have hsg:=uY false p2 n2 n2 d2 wr hV.r2.u hV.r2.nrm;by_cases h0:n2=0
   ·subst h0
    have hz:vd d2=0:=(bj hV.r2.u).1 hV.r2.nrm;rw[aF,if_neg (by decide),hz,show bf 0=0 from rfl] at hsg
    clear hV hz;go_wp2_with fail;refine hsg.mono ?_;clear hsg;rintro e w1 ⟨rfl,hb1⟩;have hV1:=H.out.later hb1;have j0:=hV1.b1.c0;have j1:=hV1.b1.c1;have z0:=hV1.br.c0;have z1:=hV1.br.c1;have f0:=hV1.br.f0;have f1:=hV1.br.f1;have HV1:Hid (Gv w w1 g1 g2 p1 n1 d1 p2 0 d2 g N V):=hV1;clear k2 k3 hV1;go_wp2;have hV:=HV1.out;refine bodyPost_ret (v:=.agg #[.bool false,.slice p1 n1 n1]) (by simp[results,Tryz.results85,go_sem,z0,z1]) rfl ⟨p1,n1,d1,rfl,?_,?_,hV.k1,?_,hV.v1⟩
    ·exact(hV.r1.set (a:=⟨w.heap.size+1+1,0,none⟩) (fun h x hx=>(hV.o1 h x hx).2.2) _).set (a:=⟨w.heap.size+1+1,1,none⟩) (fun h x hx=>(hV.o1 h x hx).2.2) _
    ·have h1:=hV.g
     rw[(bj hV.r2.u).1 hV.r2.nrm,Int.gcd_zero_right] at h1
     have:=aI hV.r1.u;rw[aF,if_neg (by decide)]
     omega
    ·exact(hV.bl.setCell (p:=⟨w.heap.size+1+1,0,none⟩) (by simp;omega) _).setCell (p:=⟨w.heap.size+1+1,1,none⟩) (by simp;omega) _
   ·have hz:vd d2≠0:=fun e=>h0 (by rw[<-hV.r2.nrm];exact(bj hV.r2.u).2 e)
    have hs1:bf (aF false d2)=1:=by
     have:=aI hV.r2.u;rw[aF,if_neg (by decide),bf,if_neg hz,if_neg (by omega)]
    rw[hs1] at hsg
    have HM:Hid (rdd wr (wr.cell? ⟨g2,1,none⟩)=(vd d2).toNat):=by
     show _=_
     rw[hV.b2.c1];exact CN hV.r2
    clear hV hz hs1;go_wp2_with fail;refine hsg.mono ?_;clear hsg;rintro e w1 ⟨rfl,hb1⟩;have hV1:=H.out.later hb1;have i0:=hV1.b1.c0;have i1:=hV1.b1.c1;have i2:=hV1.b2.c0;have i3:=hV1.b2.c1;have hqq:=EB p1 p2 n1 n2 d1 d2 w1 hV1.r1 hV1.r2 (by have:=hV1.k1;omega) (by have:=hV1.k2;omega) (by omega)
    have HV1:Hid (Gv w w1 g1 g2 p1 n1 d1 p2 n2 d2 g N V):=hV1;clear k2 k3 hV1 hb1 H;go_wp2_with fail;refine hqq.mono ?_;clear hqq;rintro e w2 ⟨p3,n3,d3,p4,n4,d4,rfl,hR3,hR4,heq,hlt,hn4,hb2,hloc⟩;have hal:Below w2.heap.size w2 ((w2.alloc (.cells #[.bool false,.slice p3 n3 n3] 65)).alloc (.cells #[.bool false,.slice p4 n4 n4] 65)):=ag (ag (Jt _ _));have br:Bx ((w2.alloc (.cells #[.bool false,.slice p3 n3 n3] 65)).alloc (.cells #[.bool false,.slice p4 n4 n4] 65)) (w2.heap.size+1) (.bool false) (.slice p4 n4 n4):=Bx.new _ _ _ (Js ..).symm;have hV3:=(HV1.out.later hb2).later hal;have hR4':=hR4.below hal;have hg1:g1<w1.heap.size:=block_lt_of_cell i0;have hg2:g2<w1.heap.size:=block_lt_of_cell i2;have hs2:=hb2.size;have HQ:Hid (vd d3*vd d2+vd d4=vd d1/\vd d4<vd d2/\(0<n4->(p4=p1/\0<n1)\/aJ w1.heap.size p4)/\g1<w1.heap.size/\g2<w1.heap.size/\w.heap.size+1+1<w1.heap.size):=⟨heq,hlt,hloc,hg1,hg2,by have:=HV1.out.l1;omega⟩
    have HV3:Hid (Gv w ((w2.alloc (.cells #[.bool false,.slice p3 n3 n3] 65)).alloc (.cells #[.bool false,.slice p4 n4 n4] 65)) g1 g2 p1 n1 d1 p2 n2 d2 g N V/\RN ((w2.alloc (.cells #[.bool false,.slice p3 n3 n3] 65)).alloc (.cells #[.bool false,.slice p4 n4 n4] 65)) false p4 n4 d4):=⟨hV3,hR4'⟩;have j0:=hV3.b1.c0;have j1:=hV3.b1.c1;have j2:=hV3.b2.c0;have j3:=hV3.b2.c1;have f0:=hV3.b1.f0;have f1:=hV3.b1.f1;have f2:=hV3.b2.f0;have f3:=hV3.b2.f1;have j4:=br.c0;have j5:=br.c1;have hne:=hV3.ne;have hne1:w2.heap.size+1≠g1:=by omega
    have hne2:w2.heap.size+1≠g2:=by omega
    clear i0 i1 i2 i3 HV1 heq hlt hloc hal hV3 hR3 hR4 hR4' hb2 hs2 hg1 hg2;go_wp2_with fail;generalize ((w2.alloc (.cells #[.bool false,.slice p3 n3 n3] 65)).alloc (.cells #[.bool false,.slice p4 n4 n4] 65))=W3 at *
    generalize w2.heap.size+1=gr at *
    go_region;all_goals go_wp2
    obtain⟨hV,hR⟩:=HV3.out;obtain⟨heq,hlt,hloc,hg1,hg2,hgr⟩:=HQ.out;have ho:0<n4->∀x,p4=some x->x.block≠g1/\x.block≠g2/\x.block≠w.heap.size+1+1:=fun h x hx=>by
     rcases hloc h with ⟨h1,h2⟩|h1
     ·rw[h1] at hx;exact hV.o1 h2 x hx
     ·have:=h1 x hx;exact⟨by omega,by omega,by omega⟩
    have hv4:0<n4->∀x,p4=some x->V x.block:=fun h x hx=>by
     rcases hloc h with ⟨h1,h2⟩|h1
     ·rw[h1] at hx;exact hV.v1 h2 x hx
     ·have:=h1 x hx;exact HVV.out.2.2 _ (by omega)
    obtain⟨e1,e2⟩:=hV.step hR ho hn4 heq hv4;have hd:=aI hR.u;refine⟨⟨p2,n2,d2,p4,n4,d4,e1⟩,?_⟩;rw[e2,HM.out];omega
end Go.Proofs.YtdjjlghlcffflaaGreatDoor
