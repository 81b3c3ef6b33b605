/- Own. -/
import Derived.ProofKit
import Derived.OpenShut
import Derived.Lib.SmallJoins
import Derived.Lay
import Derived.LaidOnce
import Derived.SevenTiedAt
import Derived.Deep.SlicePairs
import Derived.Test.YtdjjlghlcffflaaGreatDoorVv
import Derived.Test.YtdjjlghlcffflaaGreatDoorYp
set_option linter.unusedVariables false
set_option linter.unusedSimpArgs false
set_option maxHeartbeats 8000000
set_option maxRecDepth 100000
namespace Go.Proofs.YtdjjlghlcffflaaGreatDoor
open Go.ChangeShapes Go.WideShapes Go.ChangeAt Go.RowKit Go.Joins
theorem own:ownKnob Tryz.prog.godebug=none:=by kernel_rfl
theorem laidOut:laidOutB Tryz.prog=true:=by kernel_rfl
def qH(w:World)(e:Ent):Prop:=∃xs,xs.length=e.n/\e.n<=e.c/\e.c<=maxLen/\Rd w e.p .u32 xs/\U32 xs/\(e.p=none->e.c=0)
structure PZ(w:World)(p:Option Addr)(n nc:Nat)(es:List Ent):Prop where
 el:es.length=n
 cap:n<=nc
 bnd:nc<=maxLen
 pn:p=none->nc=0
 pl:PL w p es
 ev:∀j,j<n->qH w (ge es j)
variable {w w':World} {e:Ent}
theorem qH.below(h:qH w e)(hb:Below w.heap.size w w'):qH w' e:=by
 obtain⟨xs,h1,h2,h3,h4,h5,h6⟩:=h;exact⟨xs,h1,h2,h3,h4.below hb,h5,h6⟩
variable {p:Option Addr} {n nc:Nat} {es:List Ent}
theorem PZ.below(h:PZ w p n nc es)(hb:Below w.heap.size w w'):PZ w' p n nc es:=
 ⟨h.el,h.cap,h.bnd,h.pn,h.pl.below hb,fun j hj=>(h.ev j hj).below hb⟩
theorem yT:Tryz.prog.cellsOf 50=2:=by kernel_rfl
theorem Ih:Tryz.prog.cellsOf 97=1:=by kernel_rfl
theorem yU:Tryz.prog.cellsOf 48=1:=by kernel_rfl
theorem Bv:Tryz.prog.cellsOf 4=1:=by kernel_rfl
def dh:Value->Value->Ent
 | .bool s,.slice p n c=>⟨s,p,n,c⟩
 |_,_=>ez
variable {W:World} {fuel:Nat}
theorem xG{H:Type}{enc:TypeId×Value->H}{v0 v1:Value}{y0 y1:DataW H×List MemPlace}
  (hy0:DataW.trod enc Tryz.prog W 0 (fun _=>true) true fuel 4 [v0]=some y0) (hy1:DataW.trod enc Tryz.prog W 0 (fun _=>true) true fuel 48 [v1]=some y1):
  v0=.bool (dh v0 v1).s/\v1=.slice (dh v0 v1).p (dh v0 v1).n (dh v0 v1).c/\qH W (dh v0 v1):=by
 obtain⟨s,e0,-⟩:=DataW.trod_bool Tryz.underlying4 hy0;simp only[List.cons.injEq,and_true] at e0
 subst e0;rcases open_ints Tryz.underlying48 Tryz.underlying97 Ih hy1 with ⟨hcs,-⟩|⟨a,len,cap,zs,hcs,-,hl,hm,hz,-,hcell,hwz⟩
 ·simp only[List.cons.injEq,and_true] at hcs
  subst hcs;exact⟨rfl,rfl,[],rfl,Jr _,Jz _,Rd.nil,jg,fun _=>rfl⟩
 ·simp only[List.cons.injEq,and_true] at hcs
  subst hcs;simp only[if_true] at hz
  refine⟨rfl,rfl,zs.take len,by show(zs.take len).length=len;simp;omega,hl,hm,?_,?_,fun h=>by cases h⟩
  ·intro hp
   have hp':0<zs.length:=by simp at hp;omega
   obtain⟨b,off,rfl,hc⟩:=ints_at hcell hp';refine⟨b,off,rfl,fun j hj=>?_⟩
   have hj':j<len/\j<zs.length:=by simp at hj;omega
   rw[bm _ _ _ hj'.1];exact hc j hj'.2
  ·refine an (fun j=>?_) len
   by_cases hj:j<zs.length
   ·have:=hwz zs[j] (List.getElem_mem hj)
    rw[bZ zs j hj];have h4:0<=zs[j]/\zs[j]<=4294967295:=by
     simpa [Lit.wf,IntKind.min,IntKind.max,IntKind.signed,IntKind.bits] using this
    exact⟨h4.1,by omega⟩
   ·rw[ak zs _ (Jr _) j (by omega)];decide
variable {base:Nat}
theorem El{H:Type}{enc:TypeId×Value->H}{v0:Value}{d0:DataW H}{p0:List MemPlace}(hv:Value.okWide Tryz.prog W .any base 25 v0)
  (h0:DataW.Trod enc Tryz.prog W 0 (fun _=>true) true 25 v0 d0 p0):∃(p:Option Addr) (n nc:Nat) (es:List Ent),v0=.slice p n nc/\PZ W p n nc es:=by
 obtain⟨a0,len,cap,rfl⟩:=okWide_slice Tryz.underlying25 hv;obtain⟨fuel,hf⟩:=h0;rcases Go.Deep.open_slice_pairs Tryz.underlying25 Tryz.underlying50 yT rfl rfl Bv yU hf with ⟨hcs,-⟩|⟨a,len',cap',m,k,V0,V1,D0,D1,P0,P1,hcs,-,hl,hm,hmm,-,hcell⟩
 ·simp[Value.cells] at hcs
  obtain⟨rfl,rfl,rfl⟩:=hcs;exact⟨none,0,0,[],rfl,⟨rfl,Jr _,Jz _,fun _=>rfl,PL.nil,fun j hj=>absurd hj (by omega)⟩⟩
 ·simp[Value.cells] at hcs
  obtain⟨rfl,rfl,rfl⟩:=hcs;simp only[if_true] at hmm
  have hr:∀i,i<len->V0 i=.bool (dh (V0 i) (V1 i)).s/\V1 i=.slice (dh (V0 i) (V1 i)).p (dh (V0 i) (V1 i)).n (dh (V0 i) (V1 i)).c/\qH W (dh (V0 i) (V1 i)):=fun i hi=>by
   obtain⟨-,-,g0,g1⟩:=hcell i (by omega)
   exact xG g0 g1
  have hge:∀i,i<len->ge ((List.range len).map fun i=>dh (V0 i) (V1 i)) i=dh (V0 i) (V1 i):=fun i hi=>by simp[ge,hi]
  refine⟨some a,len,cap,(List.range len).map fun i=>dh (V0 i) (V1 i),rfl,⟨by simp,hl,hm,nofun,?_,fun j hj=>by rw[hge j hj];exact(hr j hj).2.2⟩⟩
  intro hp;have hp':0<len:=by simpa using hp
  obtain⟨b,off,spot⟩:=a;have hspot:spot=none:=by simpa [Addr.add] using World.cell?_spot (hcell 0 (by omega)).1
  subst hspot;refine⟨b,off,rfl,fun j hj=>?_⟩
  have hj':j<len:=by simpa using hj
  obtain⟨c0,c1,-,-⟩:=hcell j (by omega)
  obtain⟨e0,e1,-⟩:=hr j hj';rw[hge j hj',<-e0,<-e1];rw[add_plain] at c0 c1
  exact⟨c0,c1⟩
open Go.RowKit
theorem pY:zb 0=0:=rfl
theorem EI(p:Option Addr)(n nc:Nat):
  Calls Tryz.prog 94 #[.slice p n nc,.int .i64 (-1)] w fun r w'=>∃u:Ent,r=.returned (.agg #[.bool u.s,.slice u.p u.n u.c])/\RE w' 4 0 u/\aJ (w.heap.size+1) u.p/\Below w.heap.size w w':=by
 have hal:=ag (o:=.cells #[.bool false,.slice none 0 0] 65) (Jt w.heap.size w);have hX:Bx (w.alloc (.cells #[.bool false,.slice none 0 0] 65)) w.heap.size (.bool false) (.slice none 0 0):=Bx.new _ _ _ rfl;go_enter Tryz.func94,Tryz.ntmps94;go_upto_region 1 with fail
 generalize w.alloc (.cells #[.bool false,.slice none 0 0] 65)=W at *
 go_wp2_with fail;refine(FD 0 _ (by decide) (by decide)).mono ?_
 rintro e w1 ⟨u,rfl,hO,hF,hb1⟩;obtain⟨r0,r1,f0,f1⟩:=hX.later hb1;have hlt:w.heap.size<W.heap.size:=block_lt_of_cell hX.c0;have hB:=ae hal hb1;go_wp2;refine bodyPost_ret (v:=.agg #[.bool u.s,.slice u.p u.n u.c]) (by simp[results,Tryz.results94,go_sem,r0,r1]) rfl ⟨u,rfl,?_,fun a ha=>JA hlt (hF a ha),dD hB (Jr _) _ _⟩
 exact hO.b8 (fun _ a ha=>by have:=hF a ha;omega)
theorem yF(p:Option Addr)(nc:Nat):
  Calls Tryz.prog 45 #[.slice p 0 nc] w fun r w'=>∃u:Ent,r=.returned (.agg #[.bool u.s,.slice u.p u.n u.c])/\RE w' 4 0 u/\Below w.heap.size w w':=by
 have hal:=ag (o:=.cells #[.bool false,.slice none 0 0] 65) (Jt w.heap.size w);have hX:Bx (w.alloc (.cells #[.bool false,.slice none 0 0] 65)) w.heap.size (.bool false) (.slice none 0 0):=Bx.new _ _ _ rfl;have ha:=EI (w:=w.alloc (.cells #[.bool false,.slice none 0 0] 65)) p 0 nc;go_enter Tryz.func45,Tryz.ntmps45;go_upto_region 1 with fail
 generalize w.alloc (.cells #[.bool false,.slice none 0 0] 65)=W at *
 go_wp2_with fail;refine ha.mono ?_;rintro r w1 ⟨u,rfl,hO,hF,hb1⟩;obtain⟨r0,r1,f0,f1⟩:=hX.later hb1;have hlt:w.heap.size<W.heap.size:=block_lt_of_cell hX.c0;clear ha;go_wp2;refine bodyPost_ret (v:=.agg #[.bool u.s,.slice u.p u.n u.c]) (by simp[results,Tryz.results45,go_sem,r0,r1]) rfl ⟨u,rfl,?_,dD (ae hal hb1) (Jr _) _ _⟩
 exact hO.b8 (fun _ a ha=>by have:=hF a ha;omega)
variable {N:Nat} {zs:List Int}
theorem iE(h:PR w N p n nc es zs)(hn:n<=1000000)(hN:4<=N):
  Calls Tryz.prog 45 #[.slice p n nc] w fun r w'=>∃u:Ent,r=.returned (.agg #[.bool u.s,.slice u.p u.n u.c])/\RE w' N (gx zs (n-1)) u/\Below w.heap.size w w':=by
 rcases Jw n with h0|h0
 ·subst h0
  refine(yF p nc).mono ?_;rintro r w1 ⟨u,rfl,hu,hb⟩;rw[ak zs 0 (by rw[h.zl];exact Jr _) _ (Jz _)]
  exact⟨u,rfl,hu.wide hN,hb⟩
 ·refine(va h h0 hn).mono ?_
  rintro r w1 ⟨rfl,hb⟩;exact⟨_,rfl,(h.ev _ (by omega)).below hb,hb⟩
variable {g o:Nat} {u v:Value}
theorem PR.og(h:PR w N p n nc es zs)(hp:0<n->Off g p)(hq:∀j,j<n->0<(ge es j).n->Off g (ge es j).p):PR ((w.setCell ⟨g,o,none⟩ u).setCell ⟨g,o+1,none⟩ v) N p n nc es zs:=by
 refine⟨h.el,h.zl,h.cap,h.bnd,?_,fun j hj=>(h.ev j hj).b8 (hq j hj)⟩
 intro hx;have h0:=hp (by rw[<-h.el];exact hx)
 exact((h.pl.ah ⟨g,o,none⟩ u h0).ah ⟨g,o+1,none⟩ v h0) hx
variable {M:Nat} {z:Int}
theorem RE.fit'(h:RE w N z e)(hz:(z.natAbs:Int)<pw M):RE w (2*M) z e:=by
 obtain⟨⟨ds,h1,h2,h3⟩,h4⟩:=h;subst h2;exact⟨⟨ds,h1,rfl,h1.fit (by rw[sH];exact hz)⟩,h4⟩
theorem PR.fit(h:PR w N p n nc es zs)(hz:∀t,((gx zs t).natAbs:Int)<pw M):PR w (2*M) p n nc es zs:=
 ⟨h.el,h.zl,h.cap,h.bnd,h.pl,fun j hj=>(h.ev j hj).fit' (hz j)⟩
variable {x y:Int} {f:Ent}
theorem CL(h:RE w N x e)(k:RE w M y f)(hy:y≠0)(hd:y∣x)(hN:N<=1000)(hM:M<=1000):
  Calls Tryz.prog 91 #[.agg #[.bool e.s,.slice e.p e.n e.c],.agg #[.bool f.s,.slice f.p f.n f.c]] w fun r w'=>∃(u:Ent) (p2:Option Addr),r=.returned (.tuple #[.agg #[.bool u.s,.slice u.p u.n u.c],.agg #[.bool false,.slice p2 0 0]])/\RE w' N (x/y) u/\aJ w.heap.size u.p/\Below w.heap.size w w':=by
 have hb:=h.1.bd;obtain⟨⟨ds,h1,rfl,h3⟩,h4⟩:=h;obtain⟨⟨es,k1,rfl,k3⟩,k4⟩:=k;rw[h4,k4];have hx:∃c,vd ds=c*vd es:=by
  obtain⟨c,hc⟩:=hd;rw[jb e.s h1.u,jb f.s k1.u,hc,Int.natAbs_mul];exact⟨(c.natAbs:Int),by push_cast;rw[JI]⟩
 have hm0:0<f.n:=by
  rcases Jw f.n with h0|h0
  ·exfalso
   apply hy;have:vd es=0:=(bj k1.u).1 (by rw[k1.nrm,h0])
   unfold aF;split<;>omega
  ·exact h0
 refine(CM e.s f.s e.p f.p e.n f.n ds es w h1 k1 (by omega) (by omega) hm0 hx).mono ?_
 rintro r w' ⟨s1,p1,n1,d1,p2,g1,g2,g3,g4,g5⟩;have g6:aF e.s ds/aF f.s es=aF s1 d1:=by rw[<-g3,Int.mul_ediv_cancel _ hy]
 have hle:n1<=N:=g2.fit (by
  rw[<-g6];have:=Int.natAbs_ediv_le_natAbs (aF e.s ds) (aF f.s es);omega)
 rw[g6];exact⟨⟨s1,p1,n1,n1⟩,p2,g1,⟨⟨d1,g2,rfl,hle⟩,rfl⟩,g4,g5⟩
theorem GW(w:World)(p:Option Addr):RE w 0 0 ⟨false,p,0,0⟩:=⟨⟨[],⟨rfl,Rd.nil,fun j=>by simp[gx],rfl,fun _=>rfl,Jz _⟩,rfl,Jz _⟩,rfl⟩
def pT:Value->Nat
 | .slice _ n _=>n
 |_=>0
structure RX(w wr:World)(xs ys:List Int)(n m k j:Nat)(pq pr:Option Addr)(nq nr:Nat)(eq er:List Ent)(qz rz:List Int):Prop where
 q:PR wr 100 pq nq nq eq qz
 r:PR wr 100 pr nr nr er rz
 qn:ad qz=nq
 rn:ad rz=nr
 e:∀t,gx xs t=gx (ax qz ys) t+gx rz t
 qb:∀t,((gx qz t).natAbs:Int)<pw (4+5*j)
 rb:∀t,((gx rz t).natAbs:Int)<pw (4+5*j)
 le:nr+j<=n
 ql:nq<=k
 bw:Below w.heap.size w wr
 qf:aJ w.heap.size pq/\∀j,j<nq->0<(ge eq j).n->aJ w.heap.size (ge eq j).p
variable {wr:World} {xs ys qz rz:List Int} {m k j nq nr:Nat}
theorem RX.later{pq pr:Option Addr}{eq er:List Ent}(h:RX w wr xs ys n m k j pq pr nq nr eq er qz rz)(hb:Below wr.heap.size wr w'):RX w w' xs ys n m k j pq pr nq nr eq er qz rz:=
 ⟨h.q.below hb,h.r.below hb,h.qn,h.rn,h.e,h.qb,h.rb,h.le,h.ql,ae h.bw hb,h.qf⟩
theorem PR.lt'(h:PR w N p n nc es zs)(hg:w.heap.size<=g):(0<n->Off g p)/\∀j,j<n->0<(ge es j).n->Off g (ge es j).p:=by
 refine⟨fun h0 a ha e=>?_,fun j hj h0 a ha e=>?_⟩
 ·obtain⟨b,o,hp,hlt⟩:=h.pl.lt (by rw[h.el];exact h0)
  rw[hp] at ha
  cases ha
  dsimp only at e;omega
 ·have:=(eC N).lt (h.ev j hj) h0 a ha
  omega
theorem RX.og{pq pr:Option Addr}{eq er:List Ent}(h:RX w wr xs ys n m k j pq pr nq nr eq er qz rz)(hw:w.heap.size<=g)(hq:(0<nq->Off g pq)/\∀j,j<nq->0<(ge eq j).n->Off g (ge eq j).p)(hr:(0<nr->Off g pr)/\∀j,j<nr->0<(ge er j).n->Off g (ge er j).p):RX w ((wr.setCell ⟨g,o,none⟩ u).setCell ⟨g,o+1,none⟩ v) xs ys n m k j pq pr nq nr eq er qz rz:=
 ⟨h.q.og hq.1 hq.2,h.r.og hr.1 hr.2,h.qn,h.rn,h.e,h.qb,h.rb,h.le,h.ql,cF (cF h.bw hw) hw,h.qf⟩
def mono(d:Nat)(c:Int):List Int:=au d++[c]
theorem eE(d:Nat)(c:Int):(mono d c).length=d+1:=by simp[mono,au]
theorem dL(d:Nat)(c:Int)(t:Nat):gx (mono d c) t=if t=d then c else 0:=by
 have hl:(au d).length=d:=aZ d;rw[mono];rcases Ju t d with h|h
 ·rw[cz _ _ _ (by omega),dT,if_neg (by omega)]
 ·rw[cf _ _ _ (by omega),hl]
  by_cases h1:t=d
  ·subst h1;rw[Nat.sub_self,if_pos rfl];rfl
  ·rw[if_neg h1]
   exact ak [c] 1 (Jr _) _ (by omega)
variable {c:Int}
theorem rp{d:Nat}(h:c≠0):ad (mono d c)=d+1:=aX _ _ (fun j hj=>ak _ (d+1) (by rw[eE];exact Jr _) j hj) (.inr (by rw[JD,dL,if_pos rfl];exact h))
theorem GZ(hl:ys.length=m+1)(hyb:∀t,((gx ys t).natAbs:Int)<pw 4)(hrn:ad rz=nr)(hm:m+1<=nr)(hc:c*gx ys m=gx rz (nr-1))(hc0:c≠0)(e:∀t,gx xs t=gx (ax qz ys) t+gx rz t)(qb:∀t,((gx qz t).natAbs:Int)<pw (4+5*j))(rb:∀t,((gx rz t).natAbs:Int)<pw (4+5*j))(hcb:(c.natAbs:Int)<pw (4+5*j))(hql:nq<=k)(hqn:ad qz=nq)(hnk:nr-(m+1)<k):
  (∀t,gx xs t=gx (ax (tr (pz (· + ·) qz (mono (nr-(m+1)) c))) ys) t+gx (tr (pz (· - ·) rz (ax (mono (nr-(m+1)) c) ys))) t)/\(∀t,((gx (tr (pz (· + ·) qz (mono (nr-(m+1)) c))) t).natAbs:Int)<pw (4+5*(j+1)))/\(∀t,((gx (tr (pz (· - ·) rz (ax (mono (nr-(m+1)) c) ys))) t).natAbs:Int)<pw (4+5*(j+1)))/\ad (tr (pz (· - ·) rz (ax (mono (nr-(m+1)) c) ys)))<nr/\ad (tr (pz (· + ·) qz (mono (nr-(m+1)) c)))<=k:=by
 have hp:=bu (4+5*j);have hps:pw (4+5*(j+1))=pw (4+5*j+4)*4294967296:=by rw[show 4+5*(j+1)=(4+5*j+4)+1 by omega,bE,JI]
 have hpm:pw (4+5*j)<=pw (4+5*j+4):=aW (by omega)
 have hmt:=rp (d:=nr-(m+1)) hc0;have hmul:∀t,gx (ax (mono (nr-(m+1)) c) ys) t=if nr-(m+1)<=t then c*gx ys (t-(nr-(m+1))) else 0:=fun t=>by
  rw[cI];have h1:∀i,i<=nr-(m+1)->ps (mono (nr-(m+1)) c) ys i t=0:=fun i=>by
   induction i with
   |zero=>intro _;rfl
   |succ i ih=>intro hi;rw[jZ _ ys i t (by rw[dL,if_neg (by omega)]),ih (by omega)]
  have h2:=iX (mono (nr-(m+1)) c) ys t (nr-(m+1)+1) (fun i hi=>by rw[dL,if_neg (by omega)]) (t+1)
  have h3:=jY (mono (nr-(m+1)) c) ys t (nr-(m+1)+1);rw[<-h3,show t+1+(nr-(m+1)+1)=nr-(m+1)+1+(t+1) by omega,h2,ps,h1 _ (Jr _),Int.zero_add,dL,if_pos rfl]
 refine⟨fun t=>?_,fun t=>?_,fun t=>?_,?_,?_⟩
 ·have h1:=ow (a:=tr (pz (· + ·) qz (mono (nr-(m+1)) c))) (b:=qz) (c:=mono (nr-(m+1)) c) (ys:=ys) (fun j=>by rw[aN,dS _ rfl]) t
  rw[h1,aN,dS _ rfl,e t];omega
 ·rw[aN,dS _ rfl,dL,hps]
  have h1:=qb t;split<;>omega
 ·rw[aN,dS _ rfl,hmul,hps]
  have h1:=rb t;have h2:((c*gx ys (t-(nr-(m+1)))).natAbs:Int)<pw (4+5*j+4):=zS hcb (hyb _);split<;>omega
 ·rcases Ju (ad (tr (pz (· - ·) rz (ax (mono (nr-(m+1)) c) ys)))) nr with h|h
  ·exact h
  ·exfalso
   have h0:0<ad (tr (pz (· - ·) rz (ax (mono (nr-(m+1)) c) ys))):=by omega
   have h1:=aw _ h0;generalize hT:ad (tr (pz (· - ·) rz (ax (mono (nr-(m+1)) c) ys)))=T at *
   rw[aN,dS _ rfl,hmul,if_pos (by omega)] at h1
   rcases Ju nr T with h2|h2
   ·rw[az rz (T-1) (by omega),ak ys (m+1) (by omega) _ (by omega)] at h1
    simp at h1
   ·obtain rfl:T=nr:=by omega
    rw[show T-1-(T-(m+1))=m by omega,hc] at h1
    omega
 ·rw[aM]
  rcases Ju k (ad (pz (· + ·) qz (mono (nr-(m+1)) c))) with h|h
  ·exfalso
   have h1:=aw (pz (· + ·) qz (mono (nr-(m+1)) c)) (by omega)
   rw[dS _ rfl,az qz _ (by omega),dL,if_neg (by omega)] at h1
   exact h1 rfl
  ·exact h
def RxF(xs ys:List Int)(w:World)(r:Ending)(w':World):Prop:=
 ((∃(p:Option Addr) (n:Nat) (es:List Ent) (qz:List Int),r=.returned (.tuple #[.slice p n n,.bool true])/\PR w' 100 p n n es qz/\ad qz=n/\n<=9/\(∀t,gx xs t=gx (ax qz ys) t)/\aJ w.heap.size p/\∀j,j<n->0<(ge es j).n->aJ w.heap.size (ge es j).p)\/(∃(p:Option Addr) (n c:Nat),r=.returned (.tuple #[.slice p n c,.bool false])/\¬Dvd xs ys))/\Below w.heap.size w w'
variable {q:Option Addr} {fs:List Ent}
theorem xO{m1:Nat}(h:PR w 8 p n n es xs)(k:PR w 8 q m1 m1 fs ys)(hx:ad xs=n)(hy:ad ys=m1)(hm1:m1=m+1)(hn:n<=9)(hm9:m1<=9)(hxb:∀t,((gx xs t).natAbs:Int)<pw 4)(hyb:∀t,((gx ys t).natAbs:Int)<pw 4)(hD:Dvd xs ys):
  Calls Tryz.prog 44 #[.slice p n n,.slice q m1 m1] w (RxF xs ys w):=by
 have hyt:gx ys m≠0:=by
  have:=aw ys (by omega)
  rwa [hy,show m1-1=m by omega] at this
 have HX:Hid (PR w 8 p n n es xs/\PR w 8 q m1 m1 fs ys/\ad xs=n/\ys.length=m+1/\(∀t,((gx xs t).natAbs:Int)<pw 4)/\(∀t,((gx ys t).natAbs:Int)<pw 4)/\gx ys m≠0/\m1=m+1):=⟨h,k,hx,by rw[k.zl];exact hm1,hxb,hyb,hyt,hm1⟩
 have i0:((m1:Int)==0)=false:=by rw[beq_eq_false_iff_ne];omega
 have i1:¬(m1:Int)=0:=by omega
 have hm11:1<=m1:=by omega
 have HI:Hid (RX w w xs ys n m 9 0 none p 0 n [] es [] xs):=by
  refine⟨⟨rfl,rfl,Jr _,Jz _,PL.nil,fun j hj=>by omega⟩,⟨h.el,h.zl,h.cap,h.bnd,h.pl,fun j hj=>(h.ev j hj).wide (by decide)⟩,rfl,hx,fun t=>?_,fun t=>by simpa [gx] using bu _,hxb,Jr _,Jz _,Jt _ _,⟨fun a ha=>(by cases ha),fun j hj=>absurd hj (Nat.not_lt_zero _)⟩⟩
  have h9:gx (ax [] ys) t=0:=by
   rw[cI];have e:∀i,ps [] ys i t=0:=fun i=>by
    induction i with
    |zero=>rfl
    |succ i ih=>rw[jZ [] ys i t (by simp[gx]),ih]
   exact e _
  rw[h9,Int.zero_add]
 have HD:Hid (Dvd xs ys):=hD;clear h k hx hy hxb hyb hyt hm1 hD;go_enter Tryz.func44,Tryz.ntmps44;go_wp2_with fail;go_loopw [6,7,8,9,10] (fun qv rv _ _ _ wr=>∃(j:Nat) (pq pr:Option Addr) (nq nr:Nat) (eq er:List Ent) (qz rz:List Int),qv=.slice pq nq nq/\rv=.slice pr nr nr/\nr<=9/\j<=9/\Hid (RX w wr xs ys n m 9 j pq pr nq nr eq er qz rz)) (fun _ rv _ _ _ _=>pT rv)
 case atStart=>exact⟨0,none,p,0,n,[],es,[],xs,rfl,rfl,hn,by decide,HI.out⟩
 case round=>
  clear HI;obtain⟨j,pq,pr,nq,nr,eq,er,qz,rz,rfl,rfl,hnr,hj,HR⟩:=hrel;have hd1:=dK pr nr nr wr (by omega)
  go_wp2_with fail;refine hd1.mono ?_;rintro r v1 ⟨rfl,hc1⟩;have hd2:=dK q m1 m1 v1 (by omega)
  clear hd1;go_wp2_with fail;refine hd2.mono ?_;rintro r v2 ⟨rfl,hc2⟩;clear hd2;have H2:Hid (RX w v2 xs ys n m 9 j pq pr nq nr eq er qz rz):=HR.out.later (ae hc1 hc2);clear HR hc1 hc2;have hnq:nq<=9:=H2.out.ql;rcases Ju nr m1 with hlt|hge
  ·have i2:¬(m1:Int)-1<=(nr:Int)-1:=by omega
   have HG:Hid (RxF xs ys w (.returned (.tuple #[.slice pq nq nq,.bool ((nr:Int)==0)])) v2):=by
    refine⟨?_,H2.out.bw⟩;rcases Jw nr with h0|h0
    ·refine .inl ⟨pq,nq,eq,qz,by rw[h0];rfl,H2.out.q,H2.out.qn,H2.out.ql,fun t=>?_,H2.out.qf⟩
     have h1:=H2.out.e t;rw[az rz t (by rw[H2.out.rn];omega),Int.add_zero] at h1
     exact h1
    ·refine .inr ⟨pq,nq,nq,by rw[show((nr:Int)==0)=false by rw[beq_eq_false_iff_ne];omega],fun hd=>?_⟩
     obtain⟨pp,hp⟩:=xL H2.out.e hd;rcases dV HX.out.2.2.2.1 HX.out.2.2.2.2.2.2.1 hp with h1|⟨a,-,h1,-⟩
     ·have:=H2.out.rn;omega
     ·have:=H2.out.rn;have:=HX.out.2.2.2.2.2.2.2;omega
   clear H2;go_wp2;go_ret2;exact HG.out
  ·have i2:(m1:Int)-1<=(nr:Int)-1:=by omega
   have hle1:=iE H2.out.r (by omega) (by decide)
   go_wp2_with fail;refine hle1.mono ?_;rintro r v3 ⟨u3,rfl,hu3,hc3⟩;clear hle1;have H3:Hid (RX w v3 xs ys n m 9 j pq pr nq nr eq er qz rz):=H2.out.later hc3;have hle2:=iE (HX.out.2.1.below H3.out.bw) (by omega) (by decide)
   clear H2;go_wp2_with fail;refine hle2.mono ?_;rintro r v4 ⟨u4,rfl,hu4,hc4⟩;clear hle2;have hy4:RE v4 8 (gx ys m) u4:=by
    have h1:=hu4;rwa [show m1-1=m by have:=HX.out.2.2.2.2.2.2.2;omega] at h1
   have hr4:=hu3.below hc4;have H4:Hid (RX w v4 xs ys n m 9 j pq pr nq nr eq er qz rz):=H3.out.later hc4;clear H3 hu3 hu4 hc3 hc4;have hem:Hid (gx ys m∣gx rz (nr-1)\/¬gx ys m∣gx rz (nr-1)):=Classical.em _;rcases hem.out with hdv|hdv
   ·have hqu:=CL hr4 hy4 HX.out.2.2.2.2.2.2.1 hdv (by decide) (by decide)
    clear hem;go_wp2_with fail;refine hqu.mono ?_;rintro r v5 ⟨u5,p5,rfl,hu5,hF5,hc5⟩;clear hqu hr4 hy4;have H5:Hid (RX w v5 xs ys n m 9 j pq pr nq nr eq er qz rz):=H4.out.later hc5;clear H4;go_wp2_with fail;have hal:Below v5.heap.size v5 ((v5.alloc (.cells #[.bool u5.s,.slice u5.p u5.n u5.c] 65)).alloc (.cells #[.bool false,.slice p5 0 0] 65)):=ag (ag (Jt _ _));have hX8:Bx ((v5.alloc (.cells #[.bool u5.s,.slice u5.p u5.n u5.c] 65)).alloc (.cells #[.bool false,.slice p5 0 0] 65)) v5.heap.size (.bool u5.s) (.slice u5.p u5.n u5.c):=(Bx.new _ _ _ rfl).alloc _;have H6:=(show Hid _ from H5.out.later hal)
    have hu6:=hu5.below hal;have hult:=(eC 100).lt hu5;generalize ((v5.alloc (.cells #[.bool u5.s,.slice u5.p u5.n u5.c] 65)).alloc (.cells #[.bool false,.slice p5 0 0] 65))=W5 at *
    generalize v5.heap.size=g8 at *
    have hsg:=zF (GW W5 p5);refine hsg.mono ?_;rintro r v6 ⟨rfl,hc6⟩;have his0:bf 0=0:=by decide
    rw[his0];have hX9:=hX8.later hc6;have hu7:=hu6.below hc6;have H7:=(show Hid _ from H6.out.later hc6)
    clear hsg hal hX8 hu6 H6 H5 hu5 hc5 hc6 his0 hF5;have hd1:=dK pr nr nr v6 (by omega)
    go_wp2_with fail;refine hd1.mono ?_;rintro r v7 ⟨rfl,hc7⟩;have hd2:=dK q m1 m1 v7 (by omega)
    clear hd1;go_wp2_with fail;refine hd2.mono ?_;rintro r v8 ⟨rfl,hc8⟩;clear hd2;have hB8:=ae hc7 hc8;obtain⟨kd,hkd⟩:∃kd,kd=nr-m1:=⟨_,rfl⟩;obtain⟨kt,hkt⟩:∃kt,kt=kd+1:=⟨_,rfl⟩;have j1:(nr:Int)-1-((m1:Int)-1)+1=(kt:Int):=by omega
    have j2:(kt:Int)-1=(kd:Int):=by omega
    have j3:(kd:Int)<(kt:Int):=by omega
    have j4:(0:Int)<=(kd:Int):=by omega
    have v1':IntKind.i64.wrap (kd:Int)=(kd:Int):=by rw[IntKind.wrap_i64];omega
    have v2':IntKind.i64.wrap (kt:Int)=(kt:Int):=by rw[IntKind.wrap_i64];omega
    have hkt9:kt<=9:=by omega
    have HK:Hid (kd=nr-m1/\kt=kd+1):=⟨hkd,hkt⟩;have hmk:=rk kt (by omega)
    have hX10:=hX9.later hB8;have hu8:=hu7.below hB8;have H8:=(show Hid _ from H7.out.later hB8)
    have hg8:g8<v8.heap.size:=block_lt_of_cell hX10.c0;have hgq:=H8.out.q.lt' (Jr _);have hgr:=H8.out.r.lt' (Jr _);have hgw:w.heap.size<=v8.heap.size:=H8.out.bw.size;clear hkd hkt hX9 hu7 H7 hB8 hc7 hc8;go_upto_region 10 with fail
    clear hmk;have hR0:=bA.new v8 65 (ezs kt);have halm:Below v8.heap.size v8 (v8.alloc (.cells (ca2 (ezs kt)) 65)):=ag (Jt _ _);have hX11:=hX10.later halm;have hu9:=hu8.below halm;have H9:=(show Hid _ from H8.out.later halm)
    generalize v8.alloc (.cells (ca2 (ezs kt)) 65)=W8 at *
    generalize v8.heap.size=gt at *
    obtain⟨b0,b1,-,-⟩:=id hX11;obtain⟨x0,x1⟩:=hR0.cell kd (by rw[bL];omega)
    have f0:=hR0.frozen (kd*2);have f1:=hR0.frozen (kd*2+1);obtain⟨cq,hcq⟩:∃cq,cq=gx rz (nr-1)/gx ys m:=⟨_,rfl⟩;rw[<-hcq] at hu9
    have HT:Hid (PR ((W8.setCell ⟨gt,kd*2,none⟩ (.bool u5.s)).setCell ⟨gt,kd*2+1,none⟩ (.slice u5.p u5.n u5.c)) 100 (some ⟨gt,0,none⟩) kt kt ((ezs kt).set kd u5) (mono kd cq)/\RX w ((W8.setCell ⟨gt,kd*2,none⟩ (.bool u5.s)).setCell ⟨gt,kd*2+1,none⟩ (.slice u5.p u5.n u5.c)) xs ys n m 9 j pq pr nq nr eq er qz rz/\cq=gx rz (nr-1)/gx ys m):=by
     have hkk:=HK.out;have hoff:0<u5.n->Off gt u5.p:=fun h0 a ha e=>by have:=hult h0 a ha;omega
     refine⟨⟨by rw[List.length_set,bL],by rw[eE];exact hkk.2.symm,Jr _,by unfold maxLen;omega,(hR0.set kd u5 (by rw[bL];omega)).pl,fun t ht=>?_⟩,?_,hcq⟩
     ·rw[dL]
      by_cases he:t=kd
      ·subst he
       rw[if_pos rfl,cR _ _ _ (by rw[bL];omega)]
       exact hu9.b8 hoff
      ·rw[if_neg he,cG _ _ _ _ he,jy]
       exact(RF.ez 0 _ 100).1
     ·exact H9.out.og (by omega) hgq hgr
    clear hX10 hX11 hu8 hu9 H8 H9 hR0 halm hult hcq hgq hgr;go_wp2_with fail;clear x0 x1 f0 f1 b0 b1;generalize (W8.setCell ⟨gt,kd*2,none⟩ (.bool u5.s)).setCell ⟨gt,kd*2+1,none⟩ (.slice u5.p u5.n u5.c)=W9 at *
    have hcb:(cq.natAbs:Int)<pw (4+5*j):=by
     rw[HT.out.2.2];have h1:=Int.natAbs_ediv_le_natAbs (gx rz (nr-1)) (gx ys m);have h2:=HT.out.2.1.rb (nr-1);omega
    have hj8:j<=8:=by have:=HT.out.2.1.le;omega
    have HC:Hid (cq*gx ys m=gx rz (nr-1)/\cq≠0/\(cq.natAbs:Int)<pw (4+5*j)):=by
     have h1:cq*gx ys m=gx rz (nr-1):=by rw[HT.out.2.2];exact Int.ediv_mul_cancel hdv
     refine⟨h1,fun h0=>?_,hcb⟩
     rw[h0,Int.zero_mul] at h1
     have h2:=aw rz (by rw[HT.out.2.1.rn];omega)
     rw[HT.out.2.1.rn] at h2
     exact h2 h1.symm
    clear hcb hdv;have had:=u_ HT.out.2.1.q HT.out.1 (by omega) (by omega) (by decide) (by decide) (by decide) (by decide)
    refine had.mono ?_;rintro r x1 ⟨pq2,nq2,eq2,rfl,hq2,hqF,hqt,hqF2,hd1⟩;clear had;have hmu:=ve (K:=49) (L:=4) (HT.out.1.below hd1) (HX.out.2.1.below (ae HT.out.2.1.bw hd1)) (by rw[rp HC.out.2.1,eE]) (by rw[HX.out.2.1.zl,HX.out.2.2.2.2.2.2.2];exact aX _ _ (fun i hi=>ak ys (m+1) (by rw[HX.out.2.2.2.1];exact Jr _) i hi) (.inr (by rw[JD];exact HX.out.2.2.2.2.2.2.1))) (by omega) (by omega) (by decide) (by decide) (fun i=>by
     rw[dL];split
     ·exact Int.lt_of_lt_of_le HC.out.2.2 (aW (by omega))
     ·simpa using bu 49) HX.out.2.2.2.2.2.1 (by decide)
    go_wp2_with fail;refine hmu.mono ?_;rintro r x2 ⟨pm,nm,em,rfl,hm2,-,hmt,hd2⟩;clear hmu;have hnm:nm<=20:=by
     have h1:=hm2.zl;unfold ax at h1
     split at h1
     ·simp at h1;omega
     ·rw[cx,eE,HX.out.2.2.2.1] at h1
      have:=HK.out.2;have:=HX.out.2.2.2.2.2.2.2;omega
    have hsu:=vg (HT.out.2.1.r.below (ae hd1 hd2)) hm2 (by omega) (by omega) (by decide) (by decide) (by decide)
    go_wp2_with fail;refine hsu.mono ?_;rintro r x3 ⟨pr2,nr2,er2,rfl,hr2,-,hrt,hd3⟩;clear hsu;obtain⟨k1,k2,k3,k4,k5⟩:=GZ (nq:=nq) (k:=9) HX.out.2.2.2.1 HX.out.2.2.2.2.2.1 HT.out.2.1.rn (by have:=HX.out.2.2.2.2.2.2.2;omega) HC.out.1 HC.out.2.1 HT.out.2.1.e HT.out.2.1.qb HT.out.2.1.rb HC.out.2.2 HT.out.2.1.ql HT.out.2.1.qn (by omega)
    have hkm:nr-(m+1)=kd:=by have:=HK.out.1;have:=HX.out.2.2.2.2.2.2.2;omega
    rw[hkm] at k1 k2 k3 k4 k5
    have hnr2:nr2<nr:=by rw[<-hrt];exact k4
    have HN:Hid (RX w x3 xs ys n m 9 (j+1) pq2 pr2 nq2 nr2 eq2 er2 (tr (pz (· + ·) qz (mono kd cq))) (tr (pz (· - ·) rz (ax (mono kd cq) ys)))):=by
     have hw50:pw (4+5*(j+1))<=pw 50:=aW (by omega)
     exact⟨((hq2.below hd2).below hd3).fit (M:=50) (fun t=>Int.lt_of_lt_of_le (k2 t) hw50),hr2.fit (M:=50) (fun t=>Int.lt_of_lt_of_le (k3 t) hw50),hqt,hrt,k1,k2,k3,by have:=HT.out.2.1.le;omega,by rw[<-hqt];exact k5,ae (ae (ae HT.out.2.1.bw hd1) hd2) hd3,⟨fun a ha=>JA HT.out.2.1.bw.size (hqF a ha),fun t ht h0 a ha=>JA HT.out.2.1.bw.size (hqF2 t ht h0 a ha)⟩⟩
    clear hq2 hqF hqF2 hm2 hr2 hqt hmt hrt hd1 hd2 hd3 k1 k2 k3 k4 k5 HT HC;go_wp2;refine⟨⟨j+1,pq2,pr2,nq2,nr2,eq2,er2,_,_,rfl,rfl,by omega,by omega,HN.out⟩,?_⟩
    simp[pT];omega
   ·exfalso
    obtain⟨pp,hp⟩:=xL H4.out.e HD.out;rcases dV HX.out.2.2.2.1 HX.out.2.2.2.2.2.2.1 hp with h1|⟨a,-,h1,h2⟩
    ·have:=H4.out.rn;omega
    ·refine hdv ?_
     rw[show nr-1=m+a by have:=H4.out.rn;omega,h2]
     exact⟨gx pp a,JI _ _⟩
end Go.Proofs.YtdjjlghlcffflaaGreatDoor
