/- Own. -/
import Derived.Test.YtfnkomoickanfaaGreatDoorRk
set_option linter.unusedVariables false
set_option linter.unusedSimpArgs false
set_option maxHeartbeats 8000000
set_option maxRecDepth 100000
namespace Go.Proofs.YtfnkomoickanfaaGreatDoor
open Go.RowKit
theorem sP(w:World)(N:Nat):PR w N none 0 0 [] []:=⟨rfl,rfl,Nat.le_refl _,Nat.zero_le _,PL.nil,fun j hj=>by omega⟩
theorem y_(w:World)(N:Nat)(p q:Option Addr)(n m nc mc:Nat)(hn:n≤1000000)(hm:m≤1000000)(h:n=0∨m=0):
  Calls Tryz.prog 172 #[.slice p n nc,.slice q m mc] w (PrF [] N w):=by
 by_cases h0:n=0
 ·subst h0
  go_enter Tryz.func172,Tryz.ntmps172
  go_wp2
  go_ret
  exact⟨none,0,[],rfl,sP _ _,(fun a ha=>by cases ha),rfl,fun j hj=>absurd hj (Nat.not_lt_zero j),Below.refl _ _⟩
 ·have h1:m=0:=by omega
  subst h1
  have g1:((n:Int)==0)=false:=by rw[beq_eq_false_iff_ne];omega
  have g3:¬(n:Int)=0:=by omega
  go_enter Tryz.func172,Tryz.ntmps172
  go_wp2
  go_ret
  exact⟨none,0,[],rfl,sP _ _,(fun a ha=>by cases ha),rfl,fun j hj=>absurd hj (Nat.not_lt_zero j),Below.refl _ _⟩
theorem y9{w:World}{A B K L:Nat}{p q:Option Addr}{n nc m mc:Nat}{es fs:List Ent}{zs ys:List Int}(h:PR w A p n nc es zs)(k:PR w B q m mc fs ys)(hz:ad zs=zs.length)(hy:ad ys=ys.length)(hn:n≤1000)(hm:m≤1000)(hA:A≤200)(hB:B≤200)(hX:∀i,((gx zs i).natAbs:Int)<pw K)(hY:∀i,((gx ys i).natAbs:Int)<pw L)(hKL:K+L≤100):
  Calls Tryz.prog 172 #[.slice p n nc,.slice q m mc] w (PrF (fo zs ys) (2*(K+L+1)) w):=by
 rw[fo,h.zl,k.zl]
 by_cases h0:n=0∨m=0
 ·rw[if_pos h0]
  exact y_ w _ p q n m nc mc (by omega) (by omega) h0
 ·rw[if_neg h0]
  have hzl:=h.zl
  have hyl:=k.zl
  have:=uo h k hn hm (by omega) (by omega) hA hB hX hY hKL
  rwa [xt (by rw[Au hz hy (by omega) (by omega),dD])] at this
theorem qF{w:World}{A B K L:Nat}{p q:Option Addr}{n nc m mc:Nat}{es fs:List Ent}{zs ys:List Int}(h:PR w A p n nc es zs)(k:PR w B q m mc fs ys)(hz:ad zs=zs.length)(hy:ad ys=ys.length)(hn:n≤1000)(hm:m≤1000)(hA:A≤200)(hB:B≤200)(hX:∀i,((gx zs i).natAbs:Int)<pw K)(hY:∀i,((gx ys i).natAbs:Int)<pw L)(hKL:K+L≤100):
  Calls Tryz.prog 172 #[.slice p n nc,.slice q m mc] w (PrP (fo zs ys) (2*(K+L+1)) w):=
 (y9 h k hz hy hn hm hA hB hX hY hKL).mono fun _ _ h=>h.any
theorem lenm(zs ys:List Int):(fo zs ys).length≤zs.length+ys.length:=by
 unfold fo
 split
 ·exact Nat.zero_le _
 ·rw[dD];omega
theorem PR.trm{W:World}{N:Nat}{p:Option Addr}{n nc:Nat}{es:List Ent}{zs:List Int}(h:PR W N p n nc es zs):PR W N p (ad zs) (ad zs) (es.take (ad zs)) (tr zs):=by
 have h1:=ao zs
 have h2:=h.zl
 have h3:=h.cap
 exact h.take (ad zs) (ad zs) (by omega) (Nat.le_refl _) (by omega)
theorem PR.tight{W:World}{N K:Nat}{p:Option Addr}{n nc:Nat}{es:List Ent}{zs:List Int}(h:PR W N p n nc es zs)(hz:∀t,((gx zs t).natAbs:Int)<pw K):PR W (2*K) p n nc es zs:=⟨h.el,h.zl,h.cap,h.bnd,h.pl,fun j hj=>⟨(h.ev j hj).1.tight (hz j),(h.ev j hj).2⟩⟩
theorem PR.wide{W:World}{N M:Nat}{p:Option Addr}{n nc:Nat}{es:List Ent}{zs:List Int}(h:PR W N p n nc es zs)(hM:N≤M):PR W M p n nc es zs:=⟨h.el,h.zl,h.cap,h.bnd,h.pl,fun j hj=>(h.ev j hj).wide hM⟩
theorem vj{W:World}{N g:Nat}{y z:Int}{e f:Ent}(h0:W.cell? ⟨g,0,none⟩=some (.bool e.s))(h1:W.cell? ⟨g,1,none⟩=some (.slice e.p e.n e.c))(h2:W.cell? ⟨g,2,none⟩=some (.bool f.s))(h3:W.cell? ⟨g,3,none⟩=some (.slice f.p f.n f.c))(he:RE W N y e)(hf:RE W N z f):PR W N (some ⟨g,0,none⟩) 2 2 [e,f] [y,z]:=
 ⟨rfl,rfl,Nat.le_refl _,by decide,fun _=>⟨g,0,rfl,fun j hj=>by
  match j,hj with
  |0,_=>exact⟨h0,h1⟩
  |1,_=>exact⟨h2,h3⟩⟩,fun j hj=>by
  match j,hj with
  |0,_=>exact he
  |1,_=>exact hf⟩
theorem p_(w:World)(a b c d:Value)(t:Nat):(w.alloc (.cells #[a,b,c,d] t)).cell? ⟨w.heap.size,0,none⟩=some a∧(w.alloc (.cells #[a,b,c,d] t)).cell? ⟨w.heap.size,1,none⟩=some b∧(w.alloc (.cells #[a,b,c,d] t)).cell? ⟨w.heap.size,2,none⟩=some c∧(w.alloc (.cells #[a,b,c,d] t)).cell? ⟨w.heap.size,3,none⟩=some d:=⟨by simp[go_sem],by simp[go_sem],by simp[go_sem],by simp[go_sem]⟩
end Go.Proofs.YtfnkomoickanfaaGreatDoor
namespace Go.Proofs.YtfnkomoickanfaaGreatDoor.Ds
open Go.Proofs.YtfnkomoickanfaaGreatDoor
theorem vk{ys:List Int}(h2:∀t,2≤t→gx ys t=0)(s:List Int)(t:Nat):∀n,n+1≤t→ps s ys n t=0
 |0,_=>rfl
 |n+1,h=>by
  rw[ps,vk h2 s t n (by omega),if_pos (by omega),h2 _ (by omega)]
  simp
theorem yi{ys:List Int}{a b:Int}(h0:gx ys 0=a)(h1:gx ys 1=b)(h2:∀t,2≤t→gx ys t=0)(s:List Int)(t:Nat):gx (fo s ys) t=lm a b (gx s) t:=by
 rw[BS,ps,if_pos (Nat.le_refl _),Nat.sub_self,h0]
 cases t with
 |zero=>
  show 0+gx s 0*a=a*gx s 0+b*0
  rw[Int.mul_comm]
  omega
 |succ t=>
  rw[ps,vk h2 s (t+1) t (by omega),if_pos (by omega),show t+1-t=1 by omega,h1]
  show 0+gx s t*b+gx s (t+1)*a=a*gx s (t+1)+b*gx s t
  rw[Int.mul_comm (gx s t),Int.mul_comm (gx s (t+1))]
  omega
theorem Bj(a b:Int):gx (tr [a,b]) 0=a∧gx (tr [a,b]) 1=b∧∀t,2≤t→gx (tr [a,b]) t=0:=by
 refine⟨by rw[gS];simp[gx],by rw[gS];simp[gx],fun t ht=>?_⟩
 rw[gS]
 exact aJ _ 2 (by simp) t ht
theorem Bi:gx [1,1] 0=1∧gx [1,1] 1=1∧∀t,2≤t→gx [1,1] t=0:=⟨by simp[gx],by simp[gx],fun t ht=>aJ _ 2 (by simp) t ht⟩
theorem zH:∀k j,0≤W k j∧W k j≤((2^k:Nat):Int)
 |0,j=>by
  show 0≤(if j=0 then (1:Int) else 0)∧(if j=0 then (1:Int) else 0)≤_
  split<;>decide
 |k+1,j=>by
  have h1:=zH k j
  have h2:=zH k (j-1)
  show 0≤1*W k j+1*(if j=0 then 0 else W k (j-1))∧1*W k j+1*(if j=0 then 0 else W k (j-1))≤_
  rw[Nat.pow_succ]
  split<;>constructor<;>push_cast at * <;> omega
theorem zI{k:Nat}(hk:k≤31)(j:Nat):((W k j).natAbs:Int)<pw 1:=by
 have h1:=zH k j
 have h2:2^k≤2^31:=Nat.pow_le_pow_right (by decide) hk
 have h3:pw 1=4294967296:=by decide
 rw[h3]
 have h4:(2:Nat)^31=2147483648:=by decide
 omega
theorem S_lt{a b:Int}{c:Nat→Int}{K L:Nat}(ha:(a.natAbs:Int)<pw L)(hb:(b.natAbs:Int)<pw L)(hc:∀k,((c k).natAbs:Int)<pw K):∀k,k≤32→∀j,((S a b c k j).natAbs:Int)<pw (K+1+k*(L+1))
 |0,_,j=>by simpa [S] using aU _
 |k+1,hk,j=>by
  have ih:=S_lt ha hb hc k (by omega)
  have e:K+1+(k+1)*(L+1)=K+1+k*(L+1)+L+1:=by rw[Nat.succ_mul];omega
  rw[e]
  have hm:pw (K+1)≤pw (K+1+k*(L+1)+L):=bD (by omega)
  generalize K+1+k*(L+1)=B at *
  have m1:∀(x y:Int),(x.natAbs:Int)<pw L→(y.natAbs:Int)<pw B→((x*y).natAbs:Int)≤pw (B+L):=fun x y hx hy=>by
   rw[Int.natAbs_mul,gI,Int.mul_comm (pw B)]
   push_cast
   exact Int.mul_le_mul (Int.le_of_lt hx) (Int.le_of_lt hy) (by omega) (Int.le_of_lt (aU _))
  have h1:=m1 a _ ha (ih j)
  have h2:=m1 b (if j=0 then 0 else S a b c k (j-1)) hb (by
   split
   ·exact aU _
   ·exact ih _)
  have h3:((c k*W k j).natAbs:Int)≤pw (K+1):=by
   rw[Int.natAbs_mul,gI]
   push_cast
   exact Int.mul_le_mul (Int.le_of_lt (hc k)) (Int.le_of_lt (zI (by omega) j)) (by omega) (Int.le_of_lt (aU _))
  have h4:=aU (B+L)
  rw[aP]
  show((a*S a b c k j+b*(if j=0 then 0 else S a b c k (j-1))+c k*W k j).natAbs:Int)<_
  generalize a*S a b c k j=x1 at *
  generalize b*(if j=0 then 0 else S a b c k (j-1))=x2 at *
  generalize c k*W k j=x3 at *
  omega
theorem DV(x:Int)(zs:List Int)(j:Nat):gx (zs.map (x * ·)) j=x*gx zs j:=by
 unfold gx
 rw[List.getD_eq_getElem?_getD,List.getD_eq_getElem?_getD,List.getElem?_map]
 cases h:zs[j]? with
 |none=>simp
 |some v=>simp
theorem CO{a b:Int}{c:Nat→Int}{k:Nat}{xs ws:List Int}(hx:∀j,gx xs j=S a b c k j)(hw:∀j,gx ws j=W k j)(j:Nat):gx (tr (pz (· + ·) (fo xs (tr [a,b])) (tr (ws.map (c k * ·))))) j=S a b c (k+1) j:=by
 obtain⟨h0,h1,h2⟩:=Bj a b
 rw[gS,C5 _ rfl,yi h0 h1 h2,gS,DV,hw]
 show lm a b (gx xs) j+_=lm a b (S a b c k) j+_
 rw[show gx xs=S a b c k from funext hx]
theorem CV{k:Nat}{ws:List Int}(hw:∀j,gx ws j=W k j)(j:Nat):gx (fo ws [1,1]) j=W (k+1) j:=by
 obtain⟨h0,h1,h2⟩:=Bi
 rw[yi h0 h1 h2,show gx ws=W k from funext hw]
 rfl
end Go.Proofs.YtfnkomoickanfaaGreatDoor.Ds
namespace Go.Proofs.YtfnkomoickanfaaGreatDoor
open Go.RowKit
theorem qE(p:Option Addr)(n nc:Nat)(w:World)(hn:n≤1000000):
  Calls Tryz.prog 77 #[.slice p n nc] w fun r w'=>r=.returned (.int .i64 ((n:Int)-1))∧Below w.heap.size w w':=by
 have v1:IntKind.i64.wrap ((n:Int)-1)=(n:Int)-1:=by rw[IntKind.wrap_i64];omega
 go_enter Tryz.func77,Tryz.ntmps77
 go_wp2
 go_ret
 exact⟨rfl,Below.refl _ _⟩
theorem ur{w:World}{N M:Nat}{p:Option Addr}{n nc:Nat}{es0:List Ent}{zs:List Int}{y:Int}{f:Ent}(h:PR w N p n nc es0 zs)(hf:RE w M y f)(hn:n≤100000)(hN:N≤400)(hM:M≤400):
  Calls Tryz.prog 174 #[.slice p n nc,.agg #[.bool f.s,.slice f.p f.n f.c]] w (PrP (tr (zs.map (y * ·))) (M+N+1) w):=by
 obtain⟨i0,hi,hzz⟩:=Option.map_eq_some_iff.1 fN
 simp only[Prod.mk.injEq] at hzz
 obtain⟨hz0,hz1,hz2⟩:=hzz
 have HI:Hid (Tryz.prog.info? 43=some i0∧i0.zero=some (.agg #[.bool false,.slice none 0 0])∧i0.size=2∧i0.bytes=32):=⟨hi,hz0,hz1,hz2⟩
 have HX:Hid (PR w N p n nc es0 zs∧RE w M y f):=⟨h,hf⟩
 have hel0:=h.el
 have hzl0:=h.zl
 have hvl:(zs.map (y * ·)).length=n:=by simp[hzl0]
 have hvg:∀j,gx (zs.map (y * ·)) j=y*gx zs j:=fun j=>BR (y * ·) (by simp) zs j
 generalize hvs:zs.map (y * ·)=vs at *
 have HVS:Hid ((∀j,gx vs j=y*gx zs j)∧vs.length=n):=⟨hvg,hvl⟩
 clear h hf hi hz0 hz1 hz2 hvs hvg hvl
 go_enter Tryz.func174,Tryz.ntmps174
 go_wp2_with fail
 have hal0:=af (o:=.cells #[.bool f.s,.slice f.p f.n f.c] 43) (Below.refl w.heap.size w)
 have hX0:Bx (w.alloc (.cells #[.bool f.s,.slice f.p f.n f.c] 43)) w.heap.size (.bool f.s) (.slice f.p f.n f.c):=Bx.new _ _ _ rfl
 have HS0:Hid (Bx (w.alloc (.cells #[.bool f.s,.slice f.p f.n f.c] 43)) w.heap.size (.bool f.s) (.slice f.p f.n f.c)∧Below w.heap.size w (w.alloc (.cells #[.bool f.s,.slice f.p f.n f.c] 43))):=⟨hX0,hal0⟩
 generalize w.alloc (.cells #[.bool f.s,.slice f.p f.n f.c] 43)=W0 at *
 clear hal0 hX0
 go_loopw [5,6] (fun sv iv wr=>∃(k:Nat) (es:List Ent),k≤n∧iv=.int .i64 k∧Hid (es.length=k∧LG (w.heap.size+1) 43 (fun w z e=>RE w (M+N+1) z e) wr sv es (vs.take k)∧Bx wr w.heap.size (.bool f.s) (.slice f.p f.n f.c)∧Below w.heap.size w wr)) (fun _ iv _=>n-(intOf iv).toNat)
 case atStart=>exact⟨0,[],Nat.zero_le _,by go_num,rfl,by rw[List.take_zero];exact LG.nil _ _ _ _,HS0.out.1,HS0.out.2⟩
 case round=>
  obtain⟨k,es,hk,rfl,H⟩:=hrel
  rcases Nat.lt_or_ge k n with hlt|hge
  ·obtain⟨hel,hLR,hbx,hB⟩:=H.out
   have hPR:=HX.out.1.below hB
   obtain⟨b,o,hp,hc⟩:=hPR.pl (by omega)
   subst hp
   obtain⟨x0,x1⟩:=hc k (by omega)
   obtain⟨d0,d1,-,-⟩:=id hbx
   have HC:Hid (w.cell? ⟨b,o+k*2,none⟩=some (.bool (ge es0 k).s)∧w.cell? ⟨b,o+k*2+1,none⟩=some (.slice (ge es0 k).p (ge es0 k).n (ge es0 k).c)):=by
    obtain⟨b',o',hb',hc'⟩:=HX.out.1.pl (by omega)
    cases hb'
    exact hc' k (by omega)
   have hx:=hPR.ev k hlt
   have hy:=HX.out.2.below hB
   have i1:(k:Int)<(n:Int):=by omega
   have hw1:w.heap.size+1≤wr.heap.size:=block_lt_of_cell d0
   have hdr:Below wr.heap.size wr wr.drew:=(Below.refl _ _).drew
   have hmu:=tc (hy.below hdr) (hx.below hdr) (by omega) (by omega)
   obtain⟨hi,hz0,hz1,hz2⟩:=HI.out
   clear hel hLR hB hc hPR hbx
   go_upto_region 5 with fail
   go_region_held3 (fun w'=>w'.cell? ⟨b,o+k*2,none⟩=some (.bool (ge es0 k).s)∧w'.cell? ⟨b,o+k*2+1,none⟩=some (.slice (ge es0 k).p (ge es0 k).n (ge es0 k).c)∧w'.cell? ⟨w.heap.size,0,none⟩=some (.bool f.s)∧w'.cell? ⟨w.heap.size,1,none⟩=some (.slice f.p f.n f.c)) (first|with_reducible exact⟨x0,x1,d0,d1⟩|with_reducible exact K3|(refine C8 ⟨x0,x1,d0,d1⟩ ?_;(repeat (first|(with_reducible exact hB1)|(with_reducible exact Below.refl _ _)|(refine rC ?_ (Nat.le_refl _))|(refine Below.drew ?_)));done))
    (first
     |(go_at_call 43;go_fit hmu;rintro r w1 ⟨u,rfl,hN1,hF1',hb1⟩;have hF1:=unFr hF1';clear hF1';have hB1:=aC hb1;have hown0:=bW H.out.2.1.own hB1;rw[H.out.1] at hown0;have HO:Hid (w1.ownsRow (w.heap.size+1) 43 2 u5 k (fl es)):=hown0;clear hown0;have hsz:w.heap.size+1≤w1.heap.size:=Nat.le_trans hw1 hB1.size)
     |(refine step_append_lies _ rfl _ _ 54 rfl (w.heap.size+1) 43 i0 (.agg #[.bool false,.slice none 0 0]) 2 32 Tryz.underlying54 hi hz0 hz1 hz2 rfl (by decide) u5 k (fl es) rfl (HO.out.alloc _) ⟨w1.heap.size,0,none⟩ 1 1 [.bool u.s,.slice u.p u.n u.c] rfl rfl ?_ (fun x hx=>by simp at hx;rcases hx with rfl|rfl<;>rfl) (by decide) (by unfold maxLen;omega) (by omega) (by simp;omega) _ rfl ?_;exact World.news_of_block (heap_alloc_new w1 _);intro g cap w3 hown3 hgrow3 hat3 hlt3;have hB3:Below w.heap.size w w3:=((ae H.out.2.2.2 hB1).alloc (by omega) _).grown hgrow3 (by simp;omega) (fun q hq=>by have:=(HO.out.lt q hq).1;omega);have hX3:Bx w3 w.heap.size (.bool f.s) (.slice f.p f.n f.c):=Bx.kept ((H.out.2.2.1.later hB1).alloc _) hgrow3 (fun hq=>by have:=(HO.out.lt _ hq.symm).1;omega);have K3:=And.intro (cell_later hB3 HC.out.1) (And.intro (cell_later hB3 HC.out.2) (And.intro hX3.c0 hX3.c1));have HA:Hid (LG (w.heap.size+1) 43 (fun w z e=>RE w (M+N+1) z e) w3 (.slice (some ⟨g,0,none⟩) (k+1) cap) (es++[u]) (vs.take k++[y*gx zs k])):=LG.app (fP _) H.out.1 H.out.2.1 hB1 hN1 (fun h0 a ha=>.inr (hF1 a ha)) hown3 hgrow3 hat3;clear hown3 hgrow3 hat3))
   all_goals
    clear hmu hx hy hN1 x0 x1 d0 d1
    go_wp2
    refine⟨⟨k+1,es++[u],by omega,by go_num,by have:=H.out.1;simp;omega,?_,hX3,hB3⟩,by simp[intOf];omega⟩
    rw[fA vs k (by have:=HVS.out.2;omega),HVS.out.1 k]
    exact HA.out
  ·obtain rfl:k=n:=by omega
   obtain⟨hel,hLR,hbx,hB⟩:=H.out
   have hvl:=HVS.out.2
   rw[List.take_of_length_le (by omega)] at hLR
   obtain⟨q,cap,hv,hPR,hF⟩:=hLR.pr
   subst hv
   rw[hel] at hPR ⊢
   have HB:Hid (Below w.heap.size w wr):=hB
   clear H hLR hB hge hk hbx
   go_wp2_with fail
   refine(eU (M+N+1) q k cap es vs _ hPR (by omega)).mono ?_
   rintro e w1 ⟨rfl,hb1⟩
   have HP:Hid (PR wr (M+N+1) q k cap es vs):=hPR
   clear hPR
   go_wp2
   go_ret
   have htl:=ao vs
   have hcap:=HP.out.cap
   have hT:=(HP.out.below hb1).take (ad vs) (ad vs) (by omega) (Nat.le_refl _) (by omega)
   exact⟨q,ad vs,es.take (ad vs),rfl,hT,fun a ha=>Nat.le_of_succ_le (hF a ha),aZ vs,ae HB.out hb1⟩
theorem AV(p:Option Addr)(n nc:Nat)(xs:List Int)(w:World)(hl:xs.length=n)(hn:n≤1000000)(hX:Rd w p .i64 xs)(hx:∀j,-9223372036854775808≤gx xs j∧gx xs j≤9223372036854775807):
  Calls Tryz.prog 60 #[.slice p n nc] w (PrP (tr xs) 4 w):=by
 obtain⟨i0,hi,hzz⟩:=Option.map_eq_some_iff.1 fN
 simp only[Prod.mk.injEq] at hzz
 obtain⟨hz0,hz1,hz2⟩:=hzz
 have HI:Hid (Tryz.prog.info? 43=some i0∧i0.zero=some (.agg #[.bool false,.slice none 0 0])∧i0.size=2∧i0.bytes=32):=⟨hi,hz0,hz1,hz2⟩
 have HX:Hid (Rd w p .i64 xs∧∀j,-9223372036854775808≤gx xs j∧gx xs j≤9223372036854775807):=⟨hX,hx⟩
 clear hX hx hi hz0 hz1 hz2
 go_enter Tryz.func60,Tryz.ntmps60
 go_wp2_with fail
 go_loopw [3,4] (fun qv iv wr=>∃(k:Nat) (es:List Ent),k≤n∧iv=.int .i64 k∧Hid (es.length=k∧LR w.heap.size wr 4 qv es (xs.take k)∧Below w.heap.size w wr)) (fun _ iv _=>n-(intOf iv).toNat)
 case atStart=>exact⟨0,[],Nat.zero_le _,by go_num,rfl,by rw[List.take_zero];exact LR.nil _ _ _,Below.refl _ _⟩
 case round=>
  obtain⟨k,es,hk,rfl,H⟩:=hrel
  rcases Nat.lt_or_ge k n with hlt|hge
  ·obtain⟨hel,hLR,hB⟩:=H.out
   obtain⟨b,o,hp,hc⟩:=(HX.out.1.below hB) (by omega)
   subst hp
   have c0:=hc k (by omega)
   obtain⟨x0,x1⟩:=HX.out.2 k
   clear hel hLR hB hc
   go_wp2_with fail
   refine(eg (gx xs k) _ x0 x1).mono ?_
   rintro e w1 ⟨s1,p1,n1,d1,rfl,hR1,hv1,hn1,hF1,hb1⟩
   have HE:Hid (RE w1 4 (gx xs k) ⟨s1,p1,n1,n1⟩):=⟨⟨d1,hR1,hv1,hn1⟩,rfl⟩
   clear c0 hR1 hv1
   obtain⟨hi,hz0,hz1,hz2⟩:=HI.out
   have hown0:=bW H.out.2.1.own hb1
   rw[H.out.1] at hown0
   have HO:Hid (w1.ownsRow w.heap.size 43 2 u3 k (fl es)):=hown0
   have hsz:w.heap.size≤w1.heap.size:=Nat.le_trans H.out.2.2.size hb1.size
   clear hown0
   go_wp2_with (refine wpList_append_lies _ rfl _ _ 54 rfl w.heap.size 43 i0 (.agg #[.bool false,.slice none 0 0]) 2 32 Tryz.underlying54 hi hz0 hz1 hz2 rfl (by decide) u3 k (fl es) rfl (HO.out.alloc _) ⟨w1.heap.size,0,none⟩ 1 1 [.bool s1,.slice p1 n1 n1] rfl rfl ?_ (fun x hx=>by simp at hx;rcases hx with rfl|rfl<;>rfl) (by decide) (by unfold maxLen;omega) (by omega) (by simp;omega) _ rfl ?_;exact World.news_of_block (heap_alloc_new w1 _);intro g cap w3 hown3 hgrow3 hat3 hlt3;have hB3:Below w.heap.size w w3:=((ae H.out.2.2 hb1).alloc hsz _).grown hgrow3 (by simp;omega) (fun q hq=>(HO.out.lt q hq).1);have HA:Hid (LR w.heap.size w3 4 (.slice (some ⟨g,0,none⟩) (k+1) cap) (es++[⟨s1,p1,n1,n1⟩]) (xs.take k++[gx xs k])):=Da H.out.1 H.out.2.1 hb1 HE.out hF1 hown3 hgrow3 hat3;clear hown3 hgrow3 hat3)
   refine⟨⟨k+1,es++[⟨s1,p1,n1,n1⟩],by omega,by go_num,by have:=H.out.1;simp;omega,by rw[fA xs k (by omega)];exact HA.out,hB3⟩,by simp[intOf];omega⟩
  ·obtain rfl:k=n:=by omega
   obtain⟨hel,hLR,hB⟩:=H.out
   rw[List.take_of_length_le (by omega)] at hLR
   obtain⟨q,cap,hv,hPR,hF⟩:=hLR.pr
   subst hv
   rw[hel] at hPR ⊢
   have HB:Hid (Below w.heap.size w wr):=hB
   clear H hLR hB hge hk
   go_wp2_with fail
   refine(eU 4 q k cap es xs _ hPR hn).mono ?_
   rintro e w1 ⟨rfl,hb1⟩
   have HP:Hid (PR wr 4 q k cap es xs):=hPR
   clear hPR
   go_wp2
   go_ret
   have htl:=ao xs
   have hcap:=HP.out.cap
   have hT:=(HP.out.below hb1).take (ad xs) (ad xs) (by omega) (Nat.le_refl _) (by omega)
   exact⟨q,ad xs,es.take (ad xs),rfl,hT,hF,aZ xs,ae HB.out hb1⟩
theorem DE(w:World)(z:Int)(t:Nat):Rd (w.alloc (.cells #[.int .i64 z] t)) (some ⟨w.heap.size,0,none⟩) .i64 [z]:=fun _=>⟨w.heap.size,0,rfl,fun j hj=>by
 obtain rfl:j=0:=by simp at hj;omega
 simp[go_sem,gx]⟩
end Go.Proofs.YtfnkomoickanfaaGreatDoor
