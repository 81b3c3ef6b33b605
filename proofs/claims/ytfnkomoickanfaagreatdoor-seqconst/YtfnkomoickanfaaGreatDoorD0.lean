/- Own. -/
import Derived.Test.YtfnkomoickanfaaGreatDoorUg
set_option linter.unusedVariables false
set_option linter.unusedSimpArgs false
set_option maxHeartbeats 8000000
set_option maxRecDepth 100000
namespace Go.Proofs.YtfnkomoickanfaaGreatDoor.Ds
open Go.Proofs.YtfnkomoickanfaaGreatDoor
def H(u v:Int):Nat→(Nat→Int)→Int
 |0,f=>f 0
 |n+1,f=>f 0*v^(n+1)+u*H u v n (fun j=>f (j+1))
section
variable {u v:Int}
theorem oX:∀{n:Nat} {f g:Nat→Int},(∀j,j≤n→f j=g j)→H u v n f=H u v n g
 |0,f,g,h=>h 0 (Nat.le_refl _)
 |n+1,f,g,h=>by
  rw[H,H,h 0 (Nat.zero_le _),oX (n:=n) (f:=fun j=>f (j+1)) (g:=fun j=>g (j+1)) fun j hj=>h (j+1) (by omega)]
theorem rk(a b:Int):∀(n:Nat) (f g:Nat→Int),H u v n (fun j=>a*f j+b*g j)=a*H u v n f+b*H u v n g
 |0,f,g=>rfl
 |n+1,f,g=>by
  rw[H,H,H,rk a b n (fun j=>f (j+1)) (fun j=>g (j+1))]
  generalize H u v n (fun j=>f (j+1))=x
  generalize H u v n (fun j=>g (j+1))=y
  generalize v^(n+1)=w
  simp only[Int.mul_add,Int.add_mul]
  rw[Int.mul_left_comm u a x,Int.mul_left_comm u b y,Int.mul_assoc,Int.mul_assoc]
  omega
theorem H_up:∀(n:Nat) (f:Nat→Int),f (n+1)=0→H u v (n+1) f=v*H u v n f
 |0,f,h=>by
  show f 0*v^1+u*f 1=v*f 0
  rw[h,Int.mul_zero,Int.add_zero,Int.mul_comm]
  congr 1
  rw[Int.pow_succ,Int.pow_zero,Int.one_mul]
 |n+1,f,h=>by
  rw[H,H_up n (fun j=>f (j+1)) h,H,Int.mul_add,Int.pow_succ v (n+1),Int.mul_left_comm u v]
  congr 1
  rw[Int.mul_comm v,Int.mul_assoc]
def lm(a b:Int)(f:Nat→Int)(j:Nat):Int:=a*f j+b*(if j=0 then 0 else f (j-1))
theorem H_lm(a b:Int)(n:Nat)(f:Nat→Int)(h:f (n+1)=0):H u v (n+1) (lm a b f)=(a*v+b*u)*H u v n f:=by
 have h1:H u v n (fun j=>lm a b f (j+1))=a*H u v n (fun j=>f (j+1))+b*H u v n f:=by
  rw[←rk]
  refine oX fun j _=>?_
  show a*f (j+1)+b*(if j+1=0 then 0 else f (j+1-1))=_
  rw[if_neg (by omega),Nat.add_sub_cancel]
 have h2:=H_up (u:=u) (v:=v) n f h
 rw[H] at h2
 rw[H,h1]
 show(a*f 0+b*0)*v^(n+1)+_=_
 generalize H u v n (fun j=>f (j+1))=x at *
 generalize H u v n f=y at *
 generalize v^(n+1)=w at *
 have h3:a*(f 0*w+u*x)=a*(v*y):=by rw[h2]
 simp only[Int.mul_add,Int.add_mul,Int.mul_zero,Int.add_zero] at h3 ⊢
 rw[Int.mul_left_comm u a x,Int.mul_assoc a (f 0) w,Int.mul_left_comm u b y]
 rw[Int.mul_assoc a v y,Int.mul_assoc b u y]
 omega
theorem rE(hu:0<u)(hv:0<v):∀(n:Nat) (f:Nat→Int),(∀j,j≤n→0≤f j)→0≤H u v n f
 |0,f,h=>h 0 (Nat.le_refl _)
 |n+1,f,h=>by
  rw[H]
  have h1:=rE hu hv n (fun j=>f (j+1)) fun j hj=>h (j+1) (by omega)
  exact Int.add_nonneg (Int.mul_nonneg (h 0 (Nat.zero_le _)) (Int.le_of_lt (Int.pow_pos hv))) (Int.mul_nonneg (Int.le_of_lt hu) h1)
theorem rF(hu:0<u)(hv:0<v):∀(n:Nat) (f:Nat→Int),(∀j,j≤n→0≤f j)→H u v n f=0→∀j,j≤n→f j=0
 |0,f,h,h0,j,hj=>by
  obtain rfl:j=0:=by omega
  exact h0
 |n+1,f,h,h0,j,hj=>by
  rw[H] at h0
  have h1:=rE hu hv n (fun j=>f (j+1)) fun j hj=>h (j+1) (by omega)
  have h2:0<v^(n+1):=Int.pow_pos hv
  have h3:=Int.mul_nonneg (h 0 (Nat.zero_le _)) (Int.le_of_lt h2)
  have h4:=Int.mul_nonneg (Int.le_of_lt hu) h1
  have h5:f 0*v^(n+1)=0:=by omega
  have h6:u*H u v n (fun j=>f (j+1))=0:=by omega
  rcases j with _|j
  ·exact(Int.mul_eq_zero.1 h5).resolve_right (by omega)
  ·exact rF hu hv n (fun j=>f (j+1)) (fun j hj=>h (j+1) (by omega)) ((Int.mul_eq_zero.1 h6).resolve_left (by omega)) j (by omega)
end
def W:Nat→Nat→Int
 |0=>fun j=>if j=0 then 1 else 0
 |k+1=>lm 1 1 (W k)
def S(a b:Int)(c:Nat→Int):Nat→Nat→Int
 |0=>fun _=>0
 |k+1=>fun j=>lm a b (S a b c k) j+c k*W k j
theorem kW:∀k j,k<j→W k j=0
 |0,j,h=>if_neg (by omega)
 |k+1,j,h=>by
  show 1*W k j+1*(if j=0 then 0 else W k (j-1))=0
  rw[kW k j (by omega),if_neg (by omega),kW k (j-1) (by omega)]
  rfl
theorem kV(a b:Int)(c:Nat→Int):∀k j,k≤j→S a b c k j=0
 |0,j,h=>rfl
 |k+1,j,h=>by
  show a*S a b c k j+b*(if j=0 then 0 else S a b c k (j-1))+c k*W k j=0
  rw[kV a b c k j (by omega),if_neg (by omega),kV a b c k (j-1) (by omega),kW k j (by omega)]
  simp
def hr(z:Int)(c:Nat→Int):Nat→Int
 |0=>0
 |k+1=>hr z c k*z+c k
theorem H_W(u v:Int):∀k,H u v k (W k)=(u+v)^k
 |0=>by
  show(if (0:Nat)=0 then (1:Int) else 0)=(u+v)^0
  rw[if_pos rfl,Int.pow_zero]
 |k+1=>by
  show H u v (k+1) (lm 1 1 (W k))=_
  rw[H_lm 1 1 k _ (kW k _ (Nat.lt_succ_self _)),H_W u v k,Int.one_mul,Int.one_mul,Int.pow_succ,Int.mul_comm,Int.add_comm v u]
theorem H_S(a b z:Int)(c:Nat→Int):∀k,H (z-a) (b-z) k (S a b c (k+1))=(b-a)^k*hr z c (k+1)
 |0=>by
  show a*0+b*(if (0:Nat)=0 then 0 else _)+c 0*(if (0:Nat)=0 then 1 else 0)=(b-a)^0*(0*z+c 0)
  simp
 |k+1=>by
  have h1:H (z-a) (b-z) (k+1) (S a b c (k+1+1))=1*H (z-a) (b-z) (k+1) (lm a b (S a b c (k+1)))+c (k+1)*H (z-a) (b-z) (k+1) (W (k+1)):=by
   rw[←rk]
   exact oX fun j _=>by rw[Int.one_mul];rfl
  rw[h1,H_lm a b k _ (kV a b c (k+1) _ (Nat.le_refl _)),H_S a b z c k,H_W]
  have e1:z-a+(b-z)=b-a:=by omega
  have e2:a*(b-z)+b*(z-a)=z*(b-a):=by
   simp only[Int.mul_sub,Int.mul_comm]
   omega
  rw[e1,e2,Int.one_mul]
  show _=(b-a)^(k+1)*(hr z c (k+1)*z+c (k+1))
  generalize hr z c (k+1)=y
  rw[Int.mul_add,Int.mul_comm (c (k+1)) ((b-a)^(k+1))]
  congr 1
  rw[Int.pow_succ]
  generalize (b-a)^k=x
  generalize b-a=w
  ac_rfl
theorem yk(z:Int)(p:List Int):∀k,k≤p.length→hr z (fun k=>gx p (p.length-1-k)) k=evz z (p.drop (p.length-k))
 |0,_=>by
  rw[Nat.sub_zero,List.drop_length]
  rfl
 |k+1,h=>by
  rw[hr,yk z p k (by omega),mZ z p (p.length-(k+1)) (by omega),show p.length-(k+1)+1=p.length-k by omega,show p.length-1-k=p.length-(k+1) by omega]
theorem uY:∀(p:List Int),(∃t,gx p t≠0)→∃B:Nat,∀z:Int,B<z.natAbs→evz z p≠0
 | [],⟨t,h⟩=>absurd (by simp[gx]) h
 |c::cs,⟨t,h⟩=>by
  have e:∀z:Int,evz z (c::cs)=evz z cs*z+c:=fun z=>by
   have:=mZ z (c::cs) 0 (by simp)
   rw[List.drop_zero,List.drop_succ_cons,List.drop_zero] at this
   exact this
  by_cases hc:c=0
  ·obtain⟨B,hB⟩:=uY cs (by
    rcases t with _|t
    ·exact absurd hc h
    ·exact⟨t,h⟩)
   refine⟨B,fun z hz h0=>?_⟩
   rw[e,hc,Int.add_zero] at h0
   rcases Int.mul_eq_zero.1 h0 with h1|h1
   ·exact hB z hz h1
   ·rw[h1] at hz
    exact absurd hz (Nat.not_lt_zero _)
  ·refine⟨c.natAbs,fun z hz h0=>?_⟩
   rw[e] at h0
   have hd:z∣c:=⟨-(evz z cs),by rw[Int.mul_neg,Int.mul_comm];omega⟩
   have:=Nat.le_of_dvd (by omega) (Int.natAbs_dvd_natAbs.2 hd)
   omega
theorem B4{p:List Int}(hp:∃t,gx p t≠0){a b z:Int}(ha:a<z)(hb:z<b)(hs:(∀j,0≤S a b (fun k=>gx p (p.length-1-k)) p.length j)∨(∀j,S a b (fun k=>gx p (p.length-1-k)) p.length j≤0)):evz z p≠0:=fun h0=>by
 have hl:0<p.length:=by
  rcases Nat.eq_zero_or_pos p.length with h|h
  ·obtain⟨t,ht⟩:=hp
   rw[List.eq_nil_of_length_eq_zero h] at ht
   simp[gx] at ht
  ·exact h
 obtain⟨k,hk⟩:∃k,p.length=k+1:=⟨p.length-1,by omega⟩
 generalize hc:(fun k=>gx p (p.length-1-k))=c at *
 have hh:∀z,hr z c (k+1)=evz z p:=fun z=>by
  have:=yk z p (k+1) (by omega)
  rw[hc,hk,Nat.sub_self,List.drop_zero] at this
  exact this
 have hS:∀z,H (z-a) (b-z) k (S a b c (k+1))=(b-a)^k*evz z p:=fun z=>by rw[H_S,hh]
 have hz:=hS z
 rw[h0,Int.mul_zero] at hz
 rw[hk] at hs
 have hall:∀j,j≤k→S a b c (k+1) j=0:=by
  rcases hs with hs|hs
  ·exact rF (by omega) (by omega) k _ (fun j _=>hs j) hz
  ·intro j hj
   have h1:H (z-a) (b-z) k (fun j=>(-1)*S a b c (k+1) j+0*S a b c (k+1) j)=0:=by
    rw[rk,hz]
    rfl
   have h2:=rF (u:=z-a) (v:=b-z) (by omega) (by omega) k _ (fun j _=>by have:=hs j;show 0≤(-1)*S a b c (k+1) j+0*S a b c (k+1) j;omega) h1 j hj
   have h3:(-1)*S a b c (k+1) j+0*S a b c (k+1) j=0:=h2
   omega
 obtain⟨B,hB⟩:=uY p hp
 refine hB (B+1:Int) (by omega) ?_
 have h3:=hS (B+1:Int)
 have h4:∀(n:Nat) (u v:Int) (f:Nat→Int),(∀j,j≤n→f j=0)→H u v n f=0:=fun n=>by
  induction n with
  |zero=>intro u v f h;exact h 0 (Nat.le_refl _)
  |succ n ih=>
   intro u v f h
   rw[H,h 0 (Nat.zero_le _),ih u v (fun j=>f (j+1)) (fun j hj=>h (j+1) (by omega))]
   simp
 rw[h4 k _ _ _ hall] at h3
 rcases Int.mul_eq_zero.1 h3.symm with h5|h5
 ·exfalso
  have:0<(b-a)^k:=Int.pow_pos (by omega)
  omega
 ·exact h5
end Go.Proofs.YtfnkomoickanfaaGreatDoor.Ds
namespace Go.Proofs.YtfnkomoickanfaaGreatDoor
open Go.RowKit
theorem fM:(Tryz.prog.info? 3).map (fun i=>(i.zero,i.size,i.bytes))=some (some (.int .i64 0),1,8):=by kernel_rfl
theorem A1(xs:List Int)(k:Nat)(h:k<xs.length):spl (xs.take (k+1))=spl (xs.take k)++[gx xs k%65536,gx xs k/65536]:=by
 rw[lV xs k h,xr];rfl
theorem cY{W x:World}{o:Obj}(h:Below W.heap.size W x):Below W.heap.size W (x.alloc o):=h.alloc h.size o
theorem iK(neg:Bool){D:List Int}(h:U16 D):ag (nsg neg D) (tr D)=ag neg D:=by
 rw[ag,ag,jg,nsg]
 split
 ·rename_i ht
  have h0:=(bg h).1 ht
  simp[h0]
 ·rfl
theorem AZ(s:Bool)(xs:List Int):ag s (spl xs)=ak s xs:=by rw[ag,ak,DO]
def fc(N:Nat)(z:Int)(w:World)(e:Ending)(w':World):Prop:=
 ∃s' p' n' ds',e=.returned (.agg #[.bool s',.slice p' n' n'])∧RN w' s' p' n' ds'∧ag s' ds'=z∧n'≤N∧az w.heap.size p'∧Below w.heap.size w w'
theorem rY{w W wr w4:World}{r N:Nat}{neg:Bool}{q:Option Addr}{D:List Int}{z:Int}{u v:Value}(hbw:Below w.heap.size w W)(hr:w.heap.size≤r)(hr':r<W.heap.size)(hBr:Below W.heap.size W wr)(hb4:Below wr.heap.size wr w4)
  (hq3:Rd wr q .i64 D) (hq4:az W.heap.size q) (hU:U16 D) (hl:ad D≤1000000000) (hv:ag neg D=z) (hN:ad D≤N):
  fc N z w (.returned (.agg #[.bool (nsg neg D),.slice q (ad D) (ad D)])) ((w4.setCell ⟨r,0,none⟩ u).setCell ⟨r,1,none⟩ v):=by
 have htl:=ao D
 refine⟨_,q,ad D,tr D,rfl,⟨au _,?_,j6 hU,aZ _,fun h=>by rw[nsg,if_pos h],by omega⟩,by rw[iK neg hU,hv],hN,fun a ha=>Nat.le_trans hbw.size (hq4 a ha),?_⟩
 ·exact((hq3.tr.below hb4).ah _ _ (fun a ha=>by have:=hq4 a ha;simp;omega)).ah _ _ (fun a ha=>by have:=hq4 a ha;simp;omega)
 ·exact(((hbw.trans (hBr.mono hbw.size)).trans (hb4.mono (by have:=hBr.size;have:=hbw.size;omega))).setCell (p:=⟨r,0,none⟩) hr _).setCell (p:=⟨r,1,none⟩) hr _
theorem mf{w W w1 w2:World}{r N:Nat}{neg:Bool}{q:Option Addr}{D:List Int}{z:Int}{u v:Value}(hbw:Below w.heap.size w W)(hr:w.heap.size≤r)(hr':r<W.heap.size)(hb1:Below W.heap.size W w1)(hb2:Below w1.heap.size w1 w2)
  (hq3:Rd w1 q .i64 D) (hq4:az W.heap.size q) (hU:U16 D) (hl:D.length≤N) (hN:N≤1000000000) (hv:ag neg D=z):
  fc N z w (.returned (.agg #[.bool (nsg neg D),.slice q (ad D) (ad D)])) ((w2.setCell ⟨r,0,none⟩ u).setCell ⟨r,1,none⟩ v):=
 rY hbw hr hr' hb1 hb2 hq3 hq4 hU (by have:=ao D;omega) hv (by have:=ao D;omega)
theorem AY(s:Bool)(xs:List Int):ag (!s) xs = - ag s xs:=by cases s<;>simp[ag]
theorem jO(n:Nat)(h:n≤1000000000)(w:World):(Instr.makeSlice 41 (.int .i64 n) (.int .i64 n)).run Tryz.prog w =
  .ok (.slice (some ⟨w.heap.size,0,none⟩) n n) (w.alloc (.cells (ca .i64 (aw n)) 3)):=by
 have hi:=fM
 cases hq:Tryz.prog.info? 3 with
 |none=>rw[hq] at hi;cases hi
 |some i=>
  rw[hq] at hi
  simp only[Option.map_some,Option.some.injEq,Prod.mk.injEq] at hi
  obtain⟨h1,h2,h3⟩:=hi
  have hr:=run_make (P:=Tryz.prog) w 41 3 i (.int .i64 0) Tryz.underlying41 hq h1 .i64 .i64 n n (by omega) (Int.le_refl _) (by rw[h3];omega) (by omega)
  rw[Int.toNat_natCast,h2] at hr
  rw[hr]
  exact congrArg (fun c=>Result.ok (Value.slice (some ⟨w.heap.size,0,none⟩) n n) (w.alloc (.cells c 3))) (om .i64 n)
theorem RN.set{w:World}{s:Bool}{p:Option Addr}{n:Nat}{ds:List Int}(h:RN w s p n ds){a:Addr}(hne:0<n→Off a.block p)(v:Value):RN (w.setCell a v) s p n ds:=
 ⟨h.len,fun hx=>(h.rd.ah a v (hne (by rw[←h.len];exact hx))) hx,h.u,h.nrm,h.sg,h.sml⟩
theorem RN.alloc{w:World}{s:Bool}{p:Option Addr}{n:Nat}{ds:List Int}(h:RN w s p n ds)(o:Obj):RN (w.alloc o) s p n ds:=⟨h.len,h.rd.alloc o,h.u,h.nrm,h.sg,h.sml⟩
theorem RN.drew{w:World}{s:Bool}{p:Option Addr}{n:Nat}{ds:List Int}(h:RN w s p n ds):RN w.drew s p n ds:=⟨h.len,h.rd.drew,h.u,h.nrm,h.sg,h.sml⟩
theorem j9{w:World}{s:Bool}{p:Option Addr}{n:Nat}{ds:List Int}{o:Obj}(h:RN w s p n ds):RN (w.alloc o) s p n ds:=h.alloc o
theorem jy{F:Nat}{w:World}{s:Bool}{p:Option Addr}{n:Nat}{ds:List Int}{a:Addr}{v:Value}(hF:az F p)(ha:a.block<F)(h:RN w s p n ds):RN (w.setCell a v) s p n ds:=
 h.set (fun _ x hx e=>by have:=hF x hx;omega) v
theorem nQ{U:Nat}{w:World}{s:Bool}{p:Option Addr}{n:Nat}{ds:List Int}{a:Addr}{v:Value}(hU:0<n→∀x,p=some x→x.block<U)(ha:U≤a.block)(h:RN w s p n ds):RN (w.setCell a v) s p n ds:=
 h.set (fun hn x hx e=>by have:=hU hn x hx;omega) v
theorem RN.lt{w:World}{s:Bool}{p:Option Addr}{n:Nat}{ds:List Int}(h:RN w s p n ds):0<n→∀x,p=some x→x.block<w.heap.size:=fun hn x hx=>by
 obtain⟨b,off,hp,hlt⟩:=h.rd.lt (by rw[h.len];exact hn)
 rw[hp] at hx
 cases hx
 exact hlt
def RV(w:World)(N:Nat)(z:Int)(s:Bool)(p:Option Addr)(n:Nat):Prop:=∃ds,RN w s p n ds∧ag s ds=z∧n≤N
def RVP(N:Nat)(z:Int)(w:World)(e:Ending)(w':World):Prop:=
 ∃s p n,e=.returned (.agg #[.bool s,.slice p n n])∧RV w' N z s p n∧az w.heap.size p∧Below w.heap.size w w'
section
variable {w w':World} {N M K:Nat} {z x y:Int} {s t:Bool} {p q:Option Addr} {n m:Nat}
theorem RV.below(h:RV w N z s p n)(hb:Below w.heap.size w w'):RV w' N z s p n:=by
 obtain⟨ds,h1,h2⟩:=h
 exact⟨ds,h1.below hb,h2⟩
theorem RV.drew(h:RV w N z s p n):RV w.drew N z s p n:=by
 obtain⟨ds,h1,h2⟩:=h
 exact⟨ds,h1.drew,h2⟩
theorem RV.alloc(h:RV w N z s p n)(o:Obj):RV (w.alloc o) N z s p n:=by
 obtain⟨ds,h1,h2⟩:=h
 exact⟨ds,h1.alloc o,h2⟩
theorem RV.off(h:RV w N z s p n){g:Nat}(hg:w.heap.size≤g):0<n→Off g p:=by
 obtain⟨ds,h1,h2⟩:=h
 exact fun hn=>h1.rd.off hg (by rw[h1.len];exact hn)
theorem RV.le(h:RV w N z s p n):n≤N:=by
 obtain⟨ds,h1,h2,h3⟩:=h
 exact h3
theorem RV.up(h:RV w N z s p n)(hN:N≤M):RV w M z s p n:=by
 obtain⟨ds,h1,h2,h3⟩:=h
 exact⟨ds,h1,h2,by omega⟩
theorem RV.bd(h:RV w N z s p n):(z.natAbs:Int)<pd N:=by
 obtain⟨ds,h1,rfl,h3⟩:=h
 have a:=ay h1.u
 have b:=eo h1.u
 rw[h1.len] at b
 have c:=ct h3
 unfold ag
 split<;>omega
theorem RV.tight(h:RV w N z s p n)(hz:(z.natAbs:Int)<pw K):RV w (2*K) z s p n:=by
 obtain⟨ds,h1,rfl,h3⟩:=h
 refine⟨ds,h1,rfl,?_⟩
 have a:=ay h1.u
 have e:((ag s ds).natAbs:Int)=vd ds:=by unfold ag;split<;>omega
 rw[e,←sN] at hz
 rcases Nat.lt_or_ge (2*K) n with hk|hk
 ·have b:=cn h1.u (by rw[h1.nrm];omega)
  rw[h1.nrm] at b
  have c:=ct (show 2*K≤n-1 by omega)
  omega
 ·exact hk
theorem RVP.of{e:Ending}(h:fc N z w e w'):RVP N z w e w':=by
 obtain⟨s,p,n,ds,h1,h2,h3,h4,h5,h6⟩:=h
 exact⟨s,p,n,h1,⟨ds,h2,h3,h4⟩,h5,h6⟩
end
theorem pG{s:Bool}{xs:List Int}(hU:U16 xs)(h:ad xs=0):aG (ag s xs)=0:=by
 have:=(bg hU).1 h
 cases s<;>simp[ag,aG,this]
theorem yr{s:Bool}{xs:List Int}(hU:U16 xs)(h:ad xs≠0):aG (ag s xs)=if s then -1 else 1:=by
 have h1:vd xs≠0:=fun e=>h ((bg hU).2 e)
 have h2:=ay hU
 cases s
 ·simp only[ag,aG,Bool.false_eq_true,if_false];rw[if_neg h1,if_neg (by omega)]
 ·simp only[ag,aG,if_true];rw[if_neg (by omega),if_pos (by omega)]
theorem c_(s:Bool)(p:Option Addr)(n nc:Nat)(xs:List Int)(w:World)(hU:U16 xs)(tx:ad xs=n):
  Calls Tryz.prog 38 #[.agg #[.bool s,.slice p n nc]] w fun e w'=>e=.returned (.int .i64 (aG (ag s xs)))∧Below w.heap.size w w':=by
 by_cases h0:ad xs=0
 ·rw[pG hU h0]
  obtain rfl:n=0:=by omega
  clear h0 tx
  go_enter Tryz.func38,Tryz.ntmps38
  go_wp2
  go_ret
  exact⟨rfl,(Below.refl _ _).alloc (Nat.le_refl _) _⟩
 ·rw[yr hU h0]
  have h1:((n:Int)==0)=false:=beq_eq_false_iff_ne.2 (by omega)
  clear tx
  cases s
  all_goals
   go_enter Tryz.func38,Tryz.ntmps38
   go_wp2
   go_ret
   exact⟨rfl,(Below.refl _ _).alloc (Nat.le_refl _) _⟩
def RE(w:World)(N:Nat)(z:Int)(e:Ent):Prop:=RV w N z e.s e.p e.n∧e.c=e.n
structure PR(w:World)(N:Nat)(p:Option Addr)(n nc:Nat)(es:List Ent)(zs:List Int):Prop where
 el:es.length=n
 zl:zs.length=n
 cap:n≤nc
 bnd:nc≤maxLen
 pl:PL w p es
 ev:∀j,j<n→RE w N (gx zs j) (ge es j)
section
variable {w w':World} {N:Nat} {z:Int} {e:Ent} {p:Option Addr} {n nc:Nat} {es:List Ent} {zs:List Int}
theorem RE.below(h:RE w N z e)(hb:Below w.heap.size w w'):RE w' N z e:=⟨h.1.below hb,h.2⟩
theorem RE.drew(h:RE w N z e):RE w.drew N z e:=⟨h.1.drew,h.2⟩
theorem PR.below(h:PR w N p n nc es zs)(hb:Below w.heap.size w w'):PR w' N p n nc es zs:=⟨h.el,h.zl,h.cap,h.bnd,h.pl.below hb,fun j hj=>(h.ev j hj).below hb⟩
theorem PR.take(h:PR w N p n nc es zs)(m c:Nat)(hm:m≤n)(hc:m≤c)(hc':c≤nc):PR w N p m c (es.take m) (zs.take m):=
 ⟨by have:=h.el;simp;omega,by have:=h.zl;simp;omega,hc,Nat.le_trans hc' h.bnd,h.pl.take m,fun j hj=>by rw[bQ _ _ _ hj,ic _ _ _ hj];exact h.ev j (by omega)⟩
theorem pO(h:RE w N z e):Calls Tryz.prog 38 #[.agg #[.bool e.s,.slice e.p e.n e.c]] w fun r w'=>r=.returned (.int .i64 (aG z))∧Below w.heap.size w w':=by
 obtain⟨⟨ds,h1,rfl,h3⟩,h4⟩:=h
 rw[h4]
 exact c_ e.s e.p e.n e.n ds w h1.u h1.nrm
end
theorem eU(N:Nat)(p:Option Addr)(n nc:Nat)(es:List Ent)(zs:List Int)(w:World)(h:PR w N p n nc es zs)(hn:n≤1000000):
  Calls Tryz.prog 52 #[.slice p n nc] w fun e w'=>e=.returned (.slice p (ad zs) (ad zs))∧Below w.heap.size w w':=by
 have hle:=h.el
 go_enter Tryz.func52,Tryz.ntmps52
 go_wp2
 go_loopw [3] (fun nv wr=>∃k:Nat,k≤n∧nv=.int .i64 k∧Hid ((∀j,k≤j→gx zs j=0)∧Below w.heap.size w wr)) (fun nv _=>(intOf nv).toNat)
 case atStart=>exact⟨n,Nat.le_refl _,by go_num,fun j hj=>aJ zs n (by rw[h.zl];exact Nat.le_refl _) j hj,Below.refl _ _⟩
 case round=>
  obtain⟨k,hk,rfl,H⟩:=hrel
  rcases Nat.eq_zero_or_pos k with h0|h0
  ·subst h0
   have HT:Hid (ad zs=0):=cP zs 0 (fun j _=>H.out.1 j (Nat.zero_le _)) (.inl rfl)
   go_wp2
   go_ret
   exact⟨by rw[HT.out];rfl,H.out.2⟩
  ·obtain⟨i,rfl⟩:∃i,k=i+1:=⟨k-1,by omega⟩
   obtain⟨H1,H2⟩:=H.out
   have HH:Hid ((∀j,i+1≤j→gx zs j=0)∧Below w.heap.size w wr):=⟨H1,H2⟩
   have hw:=h.below H2
   obtain⟨b,o,hp,hc⟩:=hw.pl (by omega)
   subst hp
   obtain⟨c0,c1⟩:=hc i (by omega)
   have hv:=hw.ev i (by omega)
   have hcap:=h.cap
   have hbnd:=h.bnd
   unfold maxLen at hbnd
   clear H H1 H2 hc
   go_wp2_with fail
   refine(pO hv).mono ?_
   rintro e w1 ⟨rfl,hb1⟩
   have hB:=ae HH.out.2 hb1
   have hcs:Hid (gx zs i=0∨¬gx zs i=0):=Classical.em _
   rcases hcs.out with hz|hz
   ·rw[gH hz]
    have HZ:Hid (gx zs i=0):=hz
    clear hz hcs c0 c1 hv
    go_wp2
    go_roundw
    case rel=>exact⟨i,by omega,by go_num,fun j hj=>by
     rcases Nat.lt_or_ge i j with h|h
     ·exact HH.out.1 j h
     ·have:j=i:=by omega
      subst this;exact HZ.out,hB⟩
    case measure=>simp[intOf]
   ·have HT:Hid (ad zs=i+1):=cP zs (i+1) HH.out.1 (.inr hz)
    have hi:aG (gx zs i)=1∨aG (gx zs i) = -1:=by
     rcases(show 0<gx zs i∨gx zs i<0 by omega) with h|h
     ·exact .inl (eI h)
     ·exact .inr (eH h)
    clear hz hcs c0 c1 hv
    rcases hi with hi|hi
    all_goals
     rw[hi]
     clear hi
     go_wp2
     go_ret
     exact⟨by rw[HT.out];rfl,hB⟩
structure l5(E:World→Int→Ent→Prop):Prop where
 grown:∀{w w':World} {z:Int} {e:Ent} {row:Option Nat},E w z e→w.grownBy w' row→(0<e.n→∀a,e.p=some a→some a.block≠row)→E w' z e
 lt:∀{w:World} {z:Int} {e:Ent},E w z e→0<e.n→∀a,e.p=some a→a.block<w.heap.size
theorem l5.below{E:World→Int→Ent→Prop}(L:l5 E){w w':World}{z:Int}{e:Ent}(h:E w z e)(hb:Below w.heap.size w w'):E w' z e:=L.grown h (eE hb none) (fun _ _ _ e=>by cases e)
theorem nD{w w':World}{p:Option Addr}{k:IntKind}{xs:List Int}{row:Option Nat}(h:Rd w p k xs)(hg:w.grownBy w' row)(hne:0<xs.length→∀a,p=some a→some a.block≠row):Rd w' p k xs:=fun hx=>h.kept hg (hne hx) hx
theorem xj{w:World}{p:Option Addr}{k:IntKind}{xs:List Int}(h:Rd w p k xs)(hx:0<xs.length):∀a,p=some a→a.block<w.heap.size:=fun a ha=>by
 obtain⟨b,off,hp,hlt⟩:=h.lt hx
 rw[hp] at ha
 cases ha
 exact hlt
theorem sD(K:Nat):l5 (fun w z e=>EV w K z e):=⟨fun h hg hne=>by
  obtain⟨xs,h1,h2⟩:=h
  exact⟨xs,⟨h1.len,h1.cap,h1.bnd,h1.sml,nD h1.rd hg (by rw[h1.len];exact hne),h1.u⟩,h2⟩,fun h hn=>by
  obtain⟨xs,h1,h2⟩:=h
  exact xj h1.rd (by rw[h1.len];exact hn)⟩
def fl(es:List Ent):List Value:=es.flatMap fun e=>[.bool e.s,.slice e.p e.n e.c]
theorem uM(es:List Ent)(e:Ent):fl (es++[e])=fl es++[.bool e.s,.slice e.p e.n e.c]:=by simp[fl]
theorem qw(es:List Ent):(fl es).length=es.length*2:=mK es
structure LG(base:Nat)(t:TypeId)(E:World→Int→Ent→Prop)(w:World)(v:Value)(es:List Ent)(zs:List Int):Prop where
 own:w.ownsRow base t 2 v es.length (fl es)
 zl:zs.length=es.length
 ev:∀j,j<es.length→E w (gx zs j) (ge es j)
 off:∀j,j<es.length→0<(ge es j).n→∀a,(ge es j).p=some a→some a.block≠v.ownBlock
theorem LG.nil(base:Nat)(t:TypeId)(E:World→Int→Ent→Prop)(w:World):LG base t E w (.slice none 0 0) [] []:=⟨World.ownsRow_nil _ _ _ _,rfl,fun j hj=>by simp at hj,fun j hj=>by simp at hj⟩
theorem bW{w w':World}{base:Nat}{t:TypeId}{sz:Nat}{v:Value}{n:Nat}{xs:List Value}(h:w.ownsRow base t sz v n xs)(hb:Below w.heap.size w w'):w'.ownsRow base t sz v n xs:=
 h.kept (eE hb none) (Classical.em _)
theorem LG.app{base:Nat}{t:TypeId}{E:World→Int→Ent→Prop}(L:l5 E){wr w1 w3:World}{v:Value}{es:List Ent}{zs:List Int}{z:Int}{e:Ent}{o:Obj}{g cap k:Nat}(hk:es.length=k)(h:LG base t E wr v es zs)(hb1:Below wr.heap.size wr w1)(hE:E w1 z e)(hF:0<e.n→∀a,e.p=some a→a.block<base∨wr.heap.size≤a.block)
  (hown:w3.ownsRow base t 2 (.slice (some ⟨g,0,none⟩) (k+1) cap) (k+1) (fl es++[.bool e.s,.slice e.p e.n e.c])) (hgrow:(w1.alloc o).grownBy w3 v.ownBlock) (hat:v.ownBlock=some g∨g=(w1.alloc o).heap.size):
  LG base t E w3 (.slice (some ⟨g,0,none⟩) (k+1) cap) (es++[e]) (zs++[z]):=by
 subst hk
 have hal:Below w1.heap.size w1 (w1.alloc o):=(Below.refl _ _).alloc (Nat.le_refl _) o
 have hs1:=hb1.size
 have hs2:=hal.size
 have old:∀j,j<es.length→E (w1.alloc o) (gx zs j) (ge es j):=fun j hj=>L.below (L.below (h.ev j hj) hb1) hal
 have new:E (w1.alloc o) z e:=L.below hE hal
 have noff:0<e.n→∀a,e.p=some a→some a.block≠v.ownBlock:=fun hn a ha hq=>by
  have h1:=(h.own.lt a.block hq.symm)
  have h2:=hF hn a ha
  omega
 refine⟨by rw[List.length_append,uM];exact hown,by simp[h.zl],fun j hj=>?_,fun j hj hn a ha hq=>?_⟩
 ·rcases Nat.lt_or_ge j es.length with hlt|hge
  ·rw[bP _ _ _ hlt,cO _ _ _ (by rw[h.zl];exact hlt)]
   exact L.grown (old j hlt) hgrow (h.off j hlt)
  ·have:j=es.length:=by simp at hj;omega
   subst this
   have e1:gx (zs++[z]) es.length=z:=by rw[←h.zl,b_ _ _ _ (Nat.le_refl _),Nat.sub_self];rfl
   rw[ib,e1]
   exact L.grown new hgrow noff
 ·have hq':a.block=g:=Option.some.inj hq
  rcases Nat.lt_or_ge j es.length with hlt|hge
  ·rw[bP _ _ _ hlt] at hn ha
   rcases hat with h1|h1
   ·exact h.off j hlt hn a ha (by rw[h1,hq'])
   ·have:=L.lt (old j hlt) hn a ha
    omega
  ·have:j=es.length:=by simp at hj;omega
   subst this
   rw[ib] at hn ha
   rcases hat with h1|h1
   ·exact noff hn a ha (by rw[h1,hq'])
   ·have:=L.lt new hn a ha
    omega
theorem ky{w:World}{B n:Nat}{t:TypeId}{v:Value}{xs:List Value}(h:w.ownsRow B t 2 v n xs):∃q cap,v=.slice q n cap∧n≤cap∧cap≤maxLen∧az B q∧(q=none→cap=0):=by
 rcases h.2 with ⟨h1,h2⟩|⟨g,cap,cur,h1,h2,h3,h4,h5,_⟩
 ·exact⟨none,0,by rw[h1,h2],by omega,Nat.zero_le _,nofun,fun _=>rfl⟩
 ·exact⟨_,cap,h1,h4,h5,fun a ha=>(by cases ha;exact h2),nofun⟩
theorem nC{w:World}{B cap:Nat}{t:TypeId}{q:Option Addr}{es:List Ent}(h:w.ownsRow B t 2 (.slice q es.length cap) es.length (fl es)):PL w q es:=fun hx=>by
 obtain⟨g,cap',h1,h2,_⟩:=h.form hx
 cases h1
 refine⟨g,0,rfl,fun j hj=>?_⟩
 obtain⟨f0,f1⟩:=ki es j hj
 have e0:=h.cells (g:=g) rfl (j*2) _ f0
 have e1:=h.cells (g:=g) rfl (j*2+1) _ f1
 rw[Addr.add_mid] at e0 e1
 exact⟨e0,e1⟩
theorem LG.pl{base:Nat}{t:TypeId}{E:World→Int→Ent→Prop}{w:World}{v:Value}{es:List Ent}{zs:List Int}(h:LG base t E w v es zs):∃q cap,v=.slice q es.length cap∧es.length≤cap∧cap≤maxLen∧PL w q es∧az base q∧(q=none→cap=0):=by
 obtain⟨q,cap,h1,h2,h3,h4,h5⟩:=ky h.own
 have ho:=h.own
 rw[h1] at ho
 exact⟨q,cap,h1,h2,h3,nC ho,h4,h5⟩
theorem fA(xs:List Int)(k:Nat)(h:k<xs.length):xs.take (k+1)=xs.take k++[gx xs k]:=by
 rw[bX xs k h,List.take_succ_eq_append_getElem h]
theorem C_{base:Nat}{t:TypeId}{E:World→Int→Ent→Prop}(L:l5 E){wr w1 w3:World}{v:Value}{es:List Ent}{zs:List Int}{z:Int}{s:Bool}{p:Option Addr}{n c k:Nat}{o:Obj}{g cap:Nat}(hk:es.length=k)(h:LG base t E wr v es zs)(hb1:Below wr.heap.size wr w1)(hE:E w1 z ⟨s,p,n,c⟩)(hF:az wr.heap.size p)
  (hown:w3.ownsRow base t 2 (.slice (some ⟨g,0,none⟩) (k+1) cap) (k+1) (fl es++[.bool s,.slice p n c])) (hgrow:(w1.alloc o).grownBy w3 v.ownBlock) (hat:v.ownBlock=some g∨g=(w1.alloc o).heap.size):
  LG base t E w3 (.slice (some ⟨g,0,none⟩) (k+1) cap) (es++[⟨s,p,n,c⟩]) (zs++[z]):=
 LG.app L hk h hb1 hE (fun _ a ha=>.inr (hF a ha)) hown hgrow hat
end Go.Proofs.YtfnkomoickanfaaGreatDoor
