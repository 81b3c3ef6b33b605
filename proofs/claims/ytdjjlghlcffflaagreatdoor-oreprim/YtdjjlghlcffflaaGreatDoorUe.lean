/- Own. -/
import Derived.Test.YtdjjlghlcffflaaGreatDoorRd
import Derived.StillTailTactics
import Derived.Deep.DeepFit
set_option linter.unusedVariables false
set_option linter.unusedSimpArgs false
set_option maxHeartbeats 8000000
set_option maxRecDepth 100000
namespace Go.Proofs.YtdjjlghlcffflaaGreatDoor
open Go.RowKit
def EN(w:World)(K:Nat)(z:Int)(e:Ent):Prop:=∃xs,AI w e.p e.n e.c xs/\aq e.s xs=z/\ad xs=e.n/\(e.n=0->e.s=false)/\e.n<=K
variable {w:World} {K:Nat} {z:Int} {e:Ent}
theorem EN.ev(h:EN w K z e):EV w K z e:=by
 obtain⟨xs,h1,h2,h3,h4,h5⟩:=h;exact⟨xs,h1,h2,h5⟩
variable {w':World}
theorem EN.below(h:EN w K z e)(hb:Below w.heap.size w w'):EN w' K z e:=by
 obtain⟨xs,h1,h2⟩:=h;exact⟨xs,h1.below hb,h2⟩
variable {B:Nat}
theorem NV.en(h:NV B w K z e)(hK:K<=1000):EN w K z e:=by
 obtain⟨xs,h1,h2,h3⟩:=h;exact⟨xs,by rw[h2];exact h1.ai (by omega),h1.v,h1.nrm,h1.sg,h3⟩
variable {xs:List Int}
theorem ox(hU:U32 xs):(iC xs+31)/32=(ad xs:Int)/\0<=iC xs/\iC xs<=32*(ad xs:Int):=by
 unfold iC;split
 ·rename_i h;rw[h];decide
 ·rename_i h
  have h1:=aw xs (by omega)
  obtain⟨x0,x1⟩:=hU (ad xs-1);have hb:=ig 64 (gx xs (ad xs-1)).toNat (by omega)
  have e:Lib.bitLen (gx xs (ad xs-1)).toNat=Lib.bitLenAux 64 (gx xs (ad xs-1)).toNat:=rfl;rw[e];generalize Lib.bitLenAux 64 (gx xs (ad xs-1)).toNat=b at *
  obtain⟨b0,b1,b2⟩:=hb;have hb0:b≠0:=fun e=>by subst e;simp at b1;omega
  have hb32:b<=32:=by
   rcases b2 with h|h
   ·omega
   ·rcases Ju 32 b with h'|h'
    ·have:=eQ (show 32<=b-1 by omega)
     have e2:(2:Int)^32=4294967296:=by decide
     omega
    ·exact h'
  omega
variable {g:Nat} {u v:Value}
theorem vX{a b:World}(h:Below B a b)(hg:B<=g):Below B a ((b.drew.setCell ⟨g,0,none⟩ u).setCell ⟨g,1,none⟩ v):=dD (show Below B a b.drew from⟨h.os,h.tape,h.output,h.size,h.block⟩) hg _ _
variable {p:Option Addr} {n:Nat}
theorem wy{s':Bool}{c:Nat}(h:AI w p n c xs)(hv:aq s' xs=z)(ho:0<ad xs->Off g p)(hs:ad xs=0->s'=false)(hK:ad xs<=K):EN ((w.drew.setCell ⟨g,0,none⟩ u).setCell ⟨g,1,none⟩ v) K z ⟨s',p,ad xs,c⟩:=by
 have h1:=h.tr.drew;refine⟨tr xs,?_,by rw[tW];exact hv,aM xs,hs,hK⟩
 exact⟨h1.len,h1.cap,h1.bnd,h1.sml,fun hx=>((h1.rd.ah ⟨g,0,none⟩ u (ho (by rw[af] at hx;exact hx))).ah ⟨g,1,none⟩ v (ho (by rw[af] at hx;exact hx))) hx,h1.u⟩
theorem vU(h:EV w K z e)(hK:K<=1000):
  Calls Tryz.prog 123 #[.agg #[.bool e.s,.slice e.p e.n e.c]] w fun r w'=>∃f:Ent,r=.returned (.agg #[.bool f.s,.slice f.p f.n f.c])/\f.p=e.p/\f.n<=e.n/\EN w' K z f/\Below w.heap.size w w':=by
 obtain⟨xs,h1,h2,h3⟩:=h;obtain⟨es,ep,en,ec⟩:=e;simp only at h1 h2 h3 ⊢
 have HV:Hid (aq es xs=z):=h2;obtain⟨q1,q2,q3⟩:=ox h1.u;have tx:=aj xs;have lx:=h1.len;have hcap:=h1.cap;have hbnd:=h1.bnd;unfold maxLen at hbnd
 have HX:Hid (U32 xs):=h1.u;clear h2;generalize hN:iC xs=N at *
 have HN:=(show Hid _ from hN)
 have v1:IntKind.i64.wrap (N+31)=N+31:=by rw[IntKind.wrap_i64];omega
 have v2:(N+31).tdiv 32=(ad xs:Int):=by rw[JM (by omega)];exact q1
 have v3:IntKind.i64.wrap (ad xs:Int)=(ad xs:Int):=by rw[IntKind.wrap_i64];omega
 clear hN;go_enter Tryz.func123,Tryz.ntmps123;go_wp2_with fail;have hA0:Bx ((w.alloc (.cells #[.bool es,.slice ep en ec] 50)).alloc (.cells #[.bool false,.slice none 0 0] 50)) w.heap.size (.bool es) (.slice ep en ec):=(Bx.new _ _ _ rfl).alloc _;have hR0:Bx ((w.alloc (.cells #[.bool es,.slice ep en ec] 50)).alloc (.cells #[.bool false,.slice none 0 0] 50)) (w.heap.size+1) (.bool false) (.slice none 0 0):=Bx.new _ _ _ (by simp)
 have hW0:Below w.heap.size w ((w.alloc (.cells #[.bool es,.slice ep en ec] 50)).alloc (.cells #[.bool false,.slice none 0 0] 50)):=((Jt _ _).alloc (Jr _) _).alloc (by simp) _
 generalize (w.alloc (.cells #[.bool es,.slice ep en ec] 50)).alloc (.cells #[.bool false,.slice none 0 0] 50)=W0 at *
 have hbt:=vO es ep en ec xs W0 (h1.below hW0);rw[HN.out] at hbt
 refine hbt.mono ?_;rintro e w1 ⟨rfl,hb1⟩;clear hbt;have a0:=(hA0.later hb1).c0;have a1:=(hA0.later hb1).c1;obtain⟨r0,r1,f0,f1⟩:=hR0.later hb1;have hsl:(ad xs:Int)<=(ec:Int):=by omega
 have hcs:Hid (ad xs=0\/0<ad xs):=Jw _;have sR:w.heap.size+1<W0.heap.size:=block_lt_of_cell hR0.c0;have hoff:Hid (∀m,m<=en->(0<m->Off (w.heap.size+1) ep)):=fun m hm h0=>(h1.rd.off (by omega) (by rw[h1.len];omega))
 have HA:Hid (AI w1 ep en ec xs):=(h1.below hW0).below hb1;have HW:Hid (Below w.heap.size w w1):=ae hW0 hb1
 cases es
 ·go_wp2_with fail
  go_still_tail 11,(by kernel_rfl)
  go_wp2;refine bodyPost_ret (v:=.agg #[.bool false,.slice ep (ad xs) ec]) (by simp[results,Tryz.results123,go_sem,r0,r1]) rfl ⟨⟨false,ep,ad xs,ec⟩,rfl,rfl,by show ad xs<=en;omega,?_,?_⟩
  ·exact wy HA.out HV.out (hoff.out _ (by omega)) (fun _=>rfl) (by omega)
  ·exact vX HW.out (by omega)
 ·rcases hcs.out with hz|hz
  ·have hz':(ad xs:Int)=0:=by omega
   have hg:decide (0<(ad xs:Int))=false:=by rw[hz];rfl
   have HZ:Hid (ad xs=0):=hz;clear hz hcs;go_wp2_with fail;go_still_tail 11,(by kernel_rfl)
   go_wp2;refine bodyPost_ret (v:=.agg #[.bool false,.slice ep 0 ec]) (by simp[results,Tryz.results123,go_sem,r0,r1]) rfl ⟨⟨false,ep,0,ec⟩,rfl,rfl,Jz _,?_,?_⟩
   ·have hv0:aq false xs=z:=by
     have h0:=(bF HX.out).1 HZ.out;rw[<-HV.out,aq,aq,h0];rfl
    have h5:=wy (K:=K) (g:=w.heap.size+1) (u:=.bool false) (v:=.slice ep 0 ec) HA.out hv0 (hoff.out _ (by omega)) (fun _=>rfl) (by omega)
    rwa [HZ.out] at h5
   ·exact vX HW.out (by omega)
  ·have hg:decide (0<(ad xs:Int))=true:=decide_eq_true (by omega)
   have HZ:Hid (0<ad xs):=hz;clear hz hcs;go_wp2_with fail;go_still_tail 11,(by kernel_rfl)
   go_wp2;refine bodyPost_ret (v:=.agg #[.bool true,.slice ep (ad xs) ec]) (by simp[results,Tryz.results123,go_sem,r0,r1,HZ.out]) rfl ⟨⟨true,ep,ad xs,ec⟩,rfl,rfl,by show ad xs<=en;omega,?_,?_⟩
   ·exact wy HA.out HV.out (hoff.out _ (by omega)) (fun h=>absurd h (Nat.ne_of_gt HZ.out)) (by omega)
   ·exact vX HW.out (by omega)
theorem zz(h:EV w K z e)(hK:K<=1000):
  Calls Tryz.prog 79 #[.agg #[.bool e.s,.slice e.p e.n e.c]] w fun r w'=>∃f:Ent,r=.returned (.agg #[.bool f.s,.slice f.p f.n f.c])/\NV w.heap.size w' K z f/\Below w.heap.size w w':=by
 obtain⟨xs,h1,h2,h3⟩:=h;obtain⟨es,ep,en,ec⟩:=e;simp only at h1 h2 h3 ⊢
 have HV:Hid (aq es xs=z):=h2;clear h2;go_enter Tryz.func79,Tryz.ntmps79;go_wp2_with fail;have hR0:Bx ((w.alloc (.cells #[.bool es,.slice ep en ec] 50)).alloc (.cells #[.bool false,.slice none 0 0] 50)) (w.heap.size+1) (.bool false) (.slice none 0 0):=Bx.new _ _ _ (by simp)
 have hW0:Below w.heap.size w ((w.alloc (.cells #[.bool es,.slice ep en ec] 50)).alloc (.cells #[.bool false,.slice none 0 0] 50)):=((Jt _ _).alloc (Jr _) _).alloc (by simp) _
 generalize (w.alloc (.cells #[.bool es,.slice ep en ec] 50)).alloc (.cells #[.bool false,.slice none 0 0] 50)=W0 at *
 have hz:AI W0 none 0 0 []:=⟨rfl,Jr _,Jz _,Jz _,Rd.nil,fun j=>by simp[gx]⟩
 refine(ti es false ep none en ec 0 0 xs [] _ (h1.below hW0) hz).mono ?_;rintro e w1 ⟨s1,p1,n1,x1,rfl,hN1,hn1,hb1⟩;have hv:aq es xs+aq false []=z:=by rw[HV.out];simp[aq,val]
 rw[hv] at hN1
 have hle:n1<=K:=hN1.le (by have h5:=h1.lt es;rw[HV.out] at h5;have:=aW h3;omega)
 have HN:Hid (NI W0.heap.size w1 s1 p1 n1 x1 z):=hN1;have sR:w.heap.size+1<W0.heap.size:=block_lt_of_cell hR0.c0;obtain⟨r0,r1,f0,f1⟩:=hR0.later hb1;clear hv hN1 hz;go_wp2;refine bodyPost_ret (v:=.agg #[.bool s1,.slice p1 n1 n1]) (by simp[results,Tryz.results79,go_sem,r0,r1]) rfl ⟨⟨s1,p1,n1,n1⟩,rfl,⟨x1,?_,rfl,hle⟩,?_⟩
 ·exact((HN.out.set (a:=⟨w.heap.size+1,0,none⟩) sR _).set (a:=⟨w.heap.size+1,1,none⟩) sR _).mono hW0.size
 ·exact dD (ae hW0 hb1) (by omega) _ _
def EaI(O:World->Int->Ent->Prop)(φ:Int->Int)(g n k:Nat)(zs:List Int)(W0 wr:World):Prop:=
 ∃es,bA wr g 50 es/\es.length=n/\(∀j,j<k->O wr (φ (gx zs j)) (ge es j)/\(0<(ge es j).n->Off g (ge es j).p))/\Below g W0 wr
theorem km(K:Nat)(p:Option Addr)(n nc:Nat)(es:List Ent)(zs:List Int)(w:World)(h:PA w K p n nc es zs)(hn:n<=1000000)(J:Nat)(C:Array Value)(hE:∀args w',Sem.run Tryz.prog (callFunc J args) w'=.ok (.enter J args) w')
  (O:World->Int->Ent->Prop) (φ:Int->Int) (hOb:∀w w' z e,O w z e->Below w.heap.size w w'->O w' z e) (hOs:∀w z e g o u v,O w z e->(0<e.n->Off g e.p)->O ((w.setCell ⟨g,o,none⟩ u).setCell ⟨g,o+1,none⟩ v) z e)
  (hJ:∀w' z e,Below w.heap.size w w'->EV w' K z e->Calls Tryz.prog J (#[.agg #[.bool e.s,.slice e.p e.n e.c]]++C) w' fun r w''=>∃f:Ent,r=.returned (.agg #[.bool f.s,.slice f.p f.n f.c])/\O w'' (φ z) f/\(0<f.n->f.p=e.p/\f.n<=e.n\/aJ w'.heap.size f.p)/\Below w'.heap.size w' w''):
  Calls Tryz.prog 120 #[.slice p n nc,.func (.func J) #[] C] w fun r w'=>∃q fs,r=.returned (.slice q n n)/\fs.length=n/\PL w' q fs/\aJ w.heap.size q/\(∀j,j<n->O w' (φ (gx zs j)) (ge fs j))/\Below w.heap.size w w':=by
 have hmk:=mg n (by omega)
 have hle:=h.el;have HOb:=(show Hid _ from hOb)
 have HOs:=(show Hid _ from hOs)
 have HJ:=(show Hid _ from hJ)
 clear hOb hOs hJ;go_enter Tryz.func120,Tryz.ntmps120;go_wp2_with fail;have hR0:=bA.new w 50 (ezs n);have hW0:Below w.heap.size w (w.alloc (.cells (ca2 (ezs n)) 50)):=(Jt _ _).alloc (Jr _) _;have hs0:w.heap.size+1<=(w.alloc (.cells (ca2 (ezs n)) 50)).heap.size:=by simp
 generalize w.alloc (.cells (ca2 (ezs n)) 50)=W0 at *
 clear hmk;go_loopw [6,7,13] (fun iv cv kv wr=>∃k:Nat,k<=n/\kv=.int .i64 k/\Hid (EaI O φ w.heap.size n k zs W0 wr)) (fun _ _ kv _=>n-(intOf kv).toNat)
 case atStart=>exact⟨0,Jz _,by go_num,ezs n,hR0,bL n,fun j hj=>by omega,Jt _ _⟩
 case round=>
  obtain⟨k,hk,rfl,H⟩:=hrel;rcases Ju k n with hlt|hge
  ·obtain⟨es',hR,hel,hev,hB⟩:=H.out
   have hBw:Below w.heap.size w wr:=hW0.trans hB;have hPA:=h.below hBw;obtain⟨b,o,hp,hc⟩:=hPA.pl (by omega)
   subst hp;obtain⟨c0,c1⟩:=hc k (by omega)
   have hv:=hPA.ev k hlt;have HH:Hid (EaI O φ w.heap.size n k zs W0 wr):=H.out;clear H hR hel hev hB hc hPA;go_wp2_with fail;have hal:=ag (o:=.cells #[.bool (ge es k).s,.slice (ge es k).p (ge es k).n (ge es k).c] 50) (Jt wr.heap.size wr);refine(HJ.out _ (gx zs k) (ge es k) (bh hBw (Jr _) hal) (hv.below hal)).mono ?_;rintro e w1 ⟨f,rfl,hO,hF,hb1⟩;have hb2:=ae hal hb1;obtain⟨es',hR,hel,hev,hB⟩:=HH.out;have hR1:=hR.below hb2 hR.lt;obtain⟨d0,d1⟩:=hR1.cell k (by omega)
   have f0:=hR1.frozen (k*2);have f1:=hR1.frozen (k*2+1);have hoff:Hid (0<f.n->Off w.heap.size f.p):=fun h0=>by
    rcases hF h0 with ⟨e1,e2⟩|e1
    ·rw[e1]
     obtain⟨xs,k1,-⟩:=h.ev k hlt;exact k1.rd.off (Jr _) (by rw[k1.len];omega)
    ·have hs1:=hB.size
     have hs2:=hal.size;exact gF e1 (by omega)
   have HI:Hid (O w1 (φ (gx zs k)) f/\bA w1 w.heap.size 50 es'/\es'.length=n/\(∀j,j<k->O w1 (φ (gx zs j)) (ge es' j)/\(0<(ge es' j).n->Off w.heap.size (ge es' j).p))/\Below w.heap.size W0 w1):=⟨hO,hR1,hel,fun j hj=>⟨HOb.out _ _ _ _ (hev j hj).1 hb2,(hev j hj).2⟩,hB.trans (hb2.mono (by have:=hBw.size;omega))⟩
   clear hO hF hb1 hb2 hR hel hev hB hR1 hal hv c0 c1 HH;go_wp2;go_roundw
   case rel=>
    obtain⟨hO,hR,hel,hev,hB⟩:=HI.out;refine⟨k+1,by omega,by go_num,es'.set k f,hR.set k f (by omega),by simpa using hel,fun j hj=>?_,?_⟩
    ·rcases Ju j k with h'|h'
     ·rw[cG _ _ _ _ (by omega)]
      exact⟨HOs.out _ _ _ _ _ _ _ (hev j h').1 (hev j h').2,(hev j h').2⟩
     ·obtain rfl:j=k:=by omega
      rw[cR _ _ _ (by omega)]
      exact⟨HOs.out _ _ _ _ _ _ _ hO hoff.out,hoff.out⟩
    ·exact(hB.setCell (p:=⟨w.heap.size,k*2,none⟩) (Jr _) _).setCell (p:=⟨w.heap.size,k*2+1,none⟩) (Jr _) _
   case measure=>simp[intOf];omega
  ·obtain rfl:k=n:=by omega
   obtain⟨es',hR,hel,hev,hB⟩:=H.out;have HI:Hid (bA wr w.heap.size 50 es'/\es'.length=k/\(∀j,j<k->O wr (φ (gx zs j)) (ge es' j))/\Below w.heap.size w wr):=⟨hR,hel,fun j hj=>(hev j hj).1,hW0.trans hB⟩
   clear H hR hel hev hB hge hk;go_wp2;go_ret;obtain⟨hR,hel,hev,hB⟩:=HI.out;exact⟨_,es',rfl,hel,hR.pl,fun a ha=>by cases ha;exact Jr _,hev,hB⟩
structure PB(B:Nat)(w:World)(K:Nat)(p:Option Addr)(n:Nat)(es:List Ent)(zs:List Int):Prop where
 el:es.length=n
 zl:zs.length=n
 nrm:ad zs=n
 pl:PL w p es
 fr:aJ B p
 ev:∀j,j<n->EN w K (gx zs j) (ge es j)
variable {o:Nat}
theorem EN.b8(h:EN w K z e)(ho:0<e.n->Off g e.p):EN ((w.setCell ⟨g,o,none⟩ u).setCell ⟨g,o+1,none⟩ v) K z e:=by
 obtain⟨xs,h1,h2⟩:=h;refine⟨xs,⟨h1.len,h1.cap,h1.bnd,h1.sml,fun hx=>?_,h1.u⟩,h2⟩
 have:=ho (by rw[h1.len] at hx;exact hx)
 exact((h1.rd.ah ⟨g,o,none⟩ u this).ah ⟨g,o+1,none⟩ v this) hx
variable {es:List Ent} {zs:List Int}
theorem PB.below(h:PB B w K p n es zs)(hb:Below w.heap.size w w'):PB B w' K p n es zs:=⟨h.el,h.zl,h.nrm,h.pl.below hb,h.fr,fun j hj=>(h.ev j hj).below hb⟩
theorem PB.pa(h:PB B w K p n es zs)(hn:n<=1000000):PA w K p n n es zs:=
 ⟨h.el,h.zl,Jr _,by unfold maxLen;omega,fun e=>by
  rcases Jw n with h0|h0
  ·exact h0
  ·obtain⟨b,o,hp,-⟩:=h.pl (by rw[h.el];exact h0)
   rw[hp] at e
   exact absurd e (by simp),h.pl,fun j hj=>(h.ev j hj).ev⟩
def PbP(zs:List Int)(K:Nat)(w:World)(e:Ending)(w':World):Prop:=
 ∃p n es,e=.returned (.slice p n n)/\PB w.heap.size w' K p n es zs/\Below w.heap.size w w'
variable {nc:Nat}
theorem PA.trim(h:PA w K p n nc es zs):PA w K p (ad zs) (ad zs) (es.take (ad zs)) (tr zs):=by
 have htl:=aj zs;have hz:=h.zl;have hc:=h.cap;exact(h.take (ad zs) (by omega)).clip fun e=>by have:=h.pn e;omega
theorem Dq(args:Array Value)(w':World):Sem.run Tryz.prog (callFunc 123 args) w'=.ok (.enter 123 args) w':=by
 have h1:¬Tryz.f123.name = "runtime.NumGoroutine" := of_decide_eq_false (by kernel_rfl)
 have h2:¬Tryz.f123.body=none:=fun h=>by cases h
 simp only[callFunc,Tryz.func123,go_sem];simp[h1,h2,go_sem]
theorem F5(args:Array Value)(w':World):Sem.run Tryz.prog (callFunc 79 args) w'=.ok (.enter 79 args) w':=by
 have h1:¬Tryz.f79.name = "runtime.NumGoroutine" := of_decide_eq_false (by kernel_rfl)
 have h2:¬Tryz.f79.body=none:=fun h=>by cases h
 simp only[callFunc,Tryz.func79,go_sem];simp[h1,h2,go_sem]
theorem NV.nw(h:NV B w K z e)(ho:0<e.n->Off g e.p):NV B ((w.setCell ⟨g,o,none⟩ u).setCell ⟨g,o+1,none⟩ v) K z e:=by
 obtain⟨xs,h1,h2⟩:=h;refine⟨xs,⟨h1.len,fun hx=>?_,h1.u,h1.nrm,h1.sg,h1.pn,h1.v,h1.fr,(h1.fz.set _ _).set _ _⟩,h2⟩
 have:=ho (by rw[h1.len] at hx;exact hx)
 exact((h1.rd.ah ⟨g,o,none⟩ u this).ah ⟨g,o+1,none⟩ v this) hx
theorem kB(K:Nat)(p:Option Addr)(n nc:Nat)(es:List Ent)(zs:List Int)(w:World)(h:PA w K p n nc es zs)(hn:n<=1000000)(hK:K<=1000):
  Calls Tryz.prog 71 #[.slice p n nc] w (PbP (tr zs) K w):=by
 have htl:=aj zs;have hzl:=h.zl;go_enter Tryz.func71,Tryz.ntmps71;go_wp2_with fail;refine(cN K p n nc es zs _ h hn).mono ?_;rintro e w1 ⟨rfl,hb1⟩;have h1:=(h.below hb1).trim;have he:=km K _ _ _ _ _ w1 h1 (by omega) 123 #[] Dq (fun w z e=>EN w K z e) id (fun _ _ _ _ h hb=>h.below hb) (fun _ _ _ _ _ _ _ h ho=>h.b8 ho) (fun w' z e _ hv=>(vU hv hK).mono fun r w'' ⟨f,a,b,c,d,e'⟩=>⟨f,a,d,fun _=>.inl ⟨b,c⟩,e'⟩)
 go_wp2_with fail;refine he.mono ?_;rintro e w2 ⟨q,fs,rfl,k1,k2,k3,k4,hb2⟩;clear he;go_wp2;go_ret;have hs:=hb1.size;exact⟨q,ad zs,fs,rfl,⟨k1,af zs,aM zs,k2,fun a ha=>JA hs (k3 a ha),k4⟩,ae hb1 hb2⟩
theorem C9(K:Nat)(p:Option Addr)(n nc:Nat)(es:List Ent)(zs:List Int)(w:World)(h:PA w K p n nc es zs)(hn:n<=1000000)(hK:K<=1000):
  Calls Tryz.prog 80 #[.slice p n nc] w (PnP (tr zs) K w):=by
 have htl:=aj zs;have hzl:=h.zl;go_enter Tryz.func80,Tryz.ntmps80;go_wp2_with fail;refine(cN K p n nc es zs _ h hn).mono ?_;rintro e w1 ⟨rfl,hb1⟩;have h1:=(h.below hb1).trim;have he:=km K _ _ _ _ _ w1 h1 (by omega) 79 #[] F5 (fun w z e=>NV w1.heap.size w K z e) id (fun _ _ _ _ h hb=>h.below hb) (fun _ _ _ _ _ _ _ h ho=>h.nw ho) (fun w' z e hb hv=>(zz hv hK).mono fun r w'' ⟨f,a,b,c⟩=>⟨f,a,b.mono hb.size,fun _=>.inr (by obtain⟨xs,k,-⟩:=b;exact k.fr),c⟩)
 go_wp2_with fail;refine he.mono ?_;rintro e w2 ⟨q,fs,rfl,k1,k2,k3,k4,hb2⟩;clear he;go_wp2;go_ret;have hs:=hb1.size;exact⟨q,ad zs,fs,rfl,⟨k1,af zs,aM zs,k2,fun a ha=>JA hs (k3 a ha),fun j hj=>(k4 j hj).mono hs⟩,ae hb1 hb2⟩
theorem E8(K:Nat)(p:Option Addr)(n nc:Nat)(es:List Ent)(zs:List Int)(w:World)(h:PA w K p n nc es zs)(hn:n<=1000000):
  Calls Tryz.prog 58 #[.slice p n nc] w fun e w'=>e=.returned (.int .i64 ((ad zs:Int)-1))/\Below w.heap.size w w':=by
 have htl:=aj zs;have hzl:=h.zl;have v:IntKind.i64.wrap ((ad zs:Int)-1)=(ad zs:Int)-1:=by rw[IntKind.wrap_i64];omega
 go_enter Tryz.func58,Tryz.ntmps58;go_wp2_with fail;refine(cN K p n nc es zs _ h hn).mono ?_;rintro e w1 ⟨rfl,hb1⟩;go_wp2;go_ret;exact⟨rfl,hb1⟩
def aE(zss:List (List Int)):Nat:=ad (zss.map fun z=>(ad z:Int))
theorem iW(zss:List (List Int)):aE zss<=zss.length:=by
 have:=aj (zss.map fun z=>(ad z:Int))
 rwa [List.length_map] at this
theorem mP(zss:List (List Int))(j:Nat):gx (zss.map fun z=>(ad z:Int)) j=(ad (gt zss j):Int):=by
 rcases Ju j zss.length with h|h
 ·simp[gx,gt,h]
 ·have h1:gt zss j=[]:=by simp[gt,h];rfl
  rw[h1];simp[gx,h];rfl
theorem oD(zss:List (List Int))(j:Nat)(h:aE zss<=j):ad (gt zss j)=0:=by
 have:=az _ _ h;rw[mP] at this
 omega
theorem mi(zss:List (List Int))(k:Nat)(h1:∀j,k<=j->ad (gt zss j)=0)(h2:k=0\/¬ad (gt zss (k-1))=0):aE zss=k:=by
 refine aX _ k (fun j hj=>by rw[mP,h1 j hj];rfl) ?_
 rcases h2 with h|h
 ·exact .inl h
 ·refine .inr ?_
  rw[mP];omega
theorem gy(zss:List (List Int))(j:Nat)(h:zss.length<=j):gt zss j=[]:=by simp[gt,h];rfl
theorem pD{α:Type}[Inhabited α](l:List α)(n j:Nat)(h:j<n):gt (l.take n) j=gt l j:=by simp[gt,List.getElem?_take,h]
theorem pC(l:List Hdr)(n j:Nat)(h:j<n):gh (l.take n) j=gh l j:=by simp[gh,List.getElem?_take,h]
variable {D T:Nat} {h:Hdr} {hs:List Hdr}
theorem ew.cut{α:Type}[Inhabited α]{E:World->Nat->Nat->α->Hdr->Prop}{ts:List α}(k:ew D E w B T ts h hs)(n:Nat)(hn:n<=h.n):ew D E w B T (ts.take n) ⟨h.p,n,n⟩ (hs.take n):=by
 refine⟨by have:=k.el;simp;omega,by have:=k.tl;simp;omega,Jr _,JA hn (JA k.cap k.bnd),fun e=>?_,JA hn k.few,fun hp=>?_,fun a ha h0=>k.at_ a ha (JE h0 hn),fun j hj=>?_⟩
 ·have h1:=k.pn e
  have h2:=k.cap;show n=0
  omega
 ·have hl:0<n/\0<hs.length:=by simp at hp;omega
  obtain⟨b,o,hb,hc⟩:=k.hl hl.2;refine⟨b,o,hb,fun j hj=>?_⟩
  have hj':j<n/\j<hs.length:=by simp at hj;omega
  rw[pC _ _ _ hj'.1];exact hc j hj'.2
 ·rw[pC _ _ _ hj,pD _ _ _ hj]
  exact k.ev j (JE hj hn)
theorem uz(q:Option Addr)(m mc:Nat)(w:World)(h:m<=mc)(hc:mc<=maxLen)(hq:q=none->mc=0):
  Calls Tryz.prog 110 #[.slice q m mc] w fun e w'=>e=.returned (.slice q m m)/\w=w':=by
 unfold maxLen at hc
 go_enter Tryz.func110,Tryz.ntmps110;go_wp2;go_ret;exact⟨rfl,rfl⟩
variable {E:Nat} {zss:List (List Int)}
theorem oE(H:HR D (EZ K E) w B T zss h)(hT:T<=w.heap.size)(hD:D<=1000000)(hE:E<=1000000):
  Calls Tryz.prog 60 #[.slice h.p h.n h.c] w fun e w'=>e=.returned (.slice h.p (aE zss) (aE zss))/\Below w.heap.size w w':=by
 obtain⟨hs,k⟩:=H;have HX:Hid (ew D (EZ K E) w B T zss h hs/\T<=w.heap.size):=⟨k,hT⟩;have hn:h.n<=D:=k.few;have hcap:h.n<=h.c:=k.cap;have hbnd:h.c<=maxLen:=k.bnd;have hpn:h.p=none->h.c=0:=k.pn;have HL:Hid (zss.length=h.n):=k.tl;obtain⟨p,n,nc⟩:=h;simp only at hn hcap hbnd hpn HL ⊢
 have hbnd':=hbnd;unfold maxLen at hbnd'
 clear k hT;go_enter Tryz.func60,Tryz.ntmps60;go_wp2;go_loopw [3] (fun nv wr=>∃k:Nat,k<=n/\nv=.int .i64 k/\Hid ((∀j,k<=j->ad (gt zss j)=0)/\Below w.heap.size w wr)) (fun nv _=>(intOf nv).toNat)
 case atStart=>exact⟨n,Jr _,by go_num,fun j hj=>by rw[gy _ _ (by have:=HL.out;omega)];rfl,Jt _ _⟩
 case round=>
  obtain⟨k,hk,rfl,H⟩:=hrel;rcases Jw k with h0|h0
  ·subst h0
   have HT:Hid (aE zss=0):=mi zss 0 (fun j _=>H.out.1 j (Jz _)) (.inl rfl)
   have hcl:=fun w=>uz p 0 nc w (Jz _) hbnd hpn
   go_wp2_with fail;go_fit (hcl wr);rintro e w1 ⟨rfl,rfl⟩;clear hcl;go_wp2;go_ret;exact⟨by rw[HT.out];rfl,H.out.2⟩
  ·obtain⟨i,rfl⟩:∃i,k=i+1:=⟨k-1,by omega⟩
   obtain⟨H1,H2⟩:=H.out;have HH:Hid ((∀j,i+1<=j->ad (gt zss j)=0)/\Below w.heap.size w wr):=⟨H1,H2⟩;obtain⟨b,o,hp,hc⟩:=HX.out.1.hl (by rw[HX.out.1.el];show 0<n;omega)
   simp only at hp;subst hp
   have c0:=hc i (by rw[HX.out.1.el];show i<n;omega)
   have c1:wr.cell? ⟨b,o+i,none⟩=some (gh hs i).val:=by rw[H2.cell (block_lt_of_cell c0)];exact c0
   have hE2:=(df K E).below (HX.out.1.ev i (by show i<n;omega)) HX.out.2 H2
   generalize gh hs i=hd at c1 hE2
   obtain⟨p2,n2,nc2⟩:=hd;simp only[Hdr.val] at c1
   obtain⟨es2,hP2,hd3,-,-⟩:=hE2;simp only at hP2 hd3
   have v1:wrap64 ((i:Int)+1-1)=(i:Int):=by unfold wrap64;omega
   have hlt:(i:Int)<(n:Int):=by omega
   clear H H1 H2 hc c0;go_wp2_with fail;go_fit (E8 K p2 n2 nc2 es2 (gt zss i) wr hP2 (by omega))
   rintro e w1 ⟨rfl,hb1⟩;have hB:=ae HH.out.2 hb1;have HBB:Hid (Below w.heap.size w w1):=hB;clear c1 hP2 hb1 hB;have hcs:Hid (ad (gt zss i)=0\/¬ad (gt zss i)=0):=Classical.em _;rcases hcs.out with hz|hz
   ·have HZ:Hid (ad (gt zss i)=0):=hz
    have d1:(ad (gt zss i):Int)-1<0:=by omega
    clear hz hcs;generalize (ad (gt zss i):Int)-1=t at *
    go_wp2;go_roundw
    case rel=>exact⟨i,by omega,by go_num,fun j hj=>by
     rcases Ju i j with h|h
     ·exact HH.out.1 j h
     ·have:j=i:=by omega
      subst this;exact HZ.out,HBB.out⟩
    case measure=>simp[intOf]
   ·have HT:Hid (aE zss=i+1):=mi zss (i+1) HH.out.1 (.inr hz)
    have d1:¬(ad (gt zss i):Int)-1<0:=by omega
    clear hz hcs;generalize (ad (gt zss i):Int)-1=t at *
    have hcl:=fun w=>uz (some ⟨b,o,none⟩) (i+1) nc w (by omega) hbnd hpn
    go_wp2_with fail;go_fit (hcl w1);rintro e w2 ⟨rfl,rfl⟩;clear hcl;go_wp2;go_ret;exact⟨by rw[HT.out];rfl,HBB.out⟩
theorem PN.put(h:PN B w K p n es zs){b:Nat}(hb:b<B)(v:Value):PN B (w.setCell ⟨b,o,none⟩ v) K p n es zs:=
 ⟨h.el,h.zl,h.nrm,h.pl.ah _ _ (gF h.fr hb),h.fr,fun j hj=>by
  obtain⟨xs,c1,c2,c3⟩:=h.ev j hj;exact⟨xs,c1.set (a:=⟨b,o,none⟩) hb v,c2,c3⟩⟩
def HB(w:World)(g:Nat)(hs:List Hdr):Prop:=w.heap[g]?=some (.cells (hs.map Hdr.val).toArray 25 (0,0))
section
variable {w w':World} {g:Nat} {hs:List Hdr}
theorem HB.lt(h:HB w g hs):g<w.heap.size:=(Array.getElem?_eq_some_iff.1 h).1
theorem HB.cell(h:HB w g hs)(j:Nat)(hj:j<hs.length):w.cell? ⟨g,j,none⟩=some (gh hs j).val:=by
 have h':w.heap[g]?=some (.cells (hs.map Hdr.val).toArray 25 (0,0)):=h;simp[World.cell?,h',gh,hj]
theorem HB.frozen(h:HB w g hs)(j:Nat):w.frozen? ⟨g,j,none⟩=false:=frozen_of_row w g j _ _ h
theorem HB.set(h:HB w g hs)(j:Nat)(v:Hdr):HB (w.setCell ⟨g,j,none⟩ v.val) g (hs.set j v):=by
 unfold HB;rw[heap_setCell_same w g j _ _ _ h];simp[List.map_set]
theorem HB.below{B:Nat}(h:HB w g hs)(hb:Below B w w')(hg:g<B):HB w' g hs:=(hb.block g hg).trans h
theorem Im(hs:List Hdr)(i j:Nat)(v:Hdr)(hi:i<hs.length):gh (hs.set i v) j=if j=i then v else gh hs j:=by
 unfold gh;simp only[List.getD_eq_getElem?_getD,List.getElem?_set];by_cases e:i=j
 ·subst e;simp[hi]
 ·have e':¬j=i:=fun h=>e h.symm
  simp[e,e']
end
def hzs(n:Nat):List Hdr:=List.replicate n ⟨none,0,0⟩
theorem Gm(n:Nat):madeCells #[.slice none 0 0] n=((hzs n).map Hdr.val).toArray:=by
 apply Array.ext
 ·simp[size_madeCells,hzs]
 ·intro i h1 h2
  simp[madeCells,hzs,Hdr.val,Nat.mod_one]
theorem D3:(Tryz.prog.info? 25).map (fun i=>(i.zero,i.size,i.bytes))=some (some (.slice none 0 0),1,24):=by kernel_rfl
theorem It(n:Nat)(h:n<=1000000000)(w:World):(Instr.makeSlice 23 (.int .i64 n) (.int .i64 n)).run Tryz.prog w =
  .ok (.slice (some ⟨w.heap.size,0,none⟩) n n) (w.alloc (.cells ((hzs n).map Hdr.val).toArray 25)):=by
 have hi:=D3
 cases hq:Tryz.prog.info? 25 with
 |none=>rw[hq] at hi;cases hi
 |some i=>
  rw[hq] at hi
  simp only[Option.map_some,Option.some.injEq,Prod.mk.injEq] at hi
  obtain⟨h1,h2,h3⟩:=hi;have hr:=run_make (P:=Tryz.prog) w 23 25 i (.slice none 0 0) Tryz.underlying23 hq h1 .i64 .i64 n n (by omega) (Int.le_refl _) (by rw[h3];omega) (by omega)
  rw[Int.toNat_natCast,h2,Nat.mul_one] at hr
  rw[hr];exact congrArg (fun c=>Result.ok (Value.slice (some ⟨w.heap.size,0,none⟩) n n) (w.alloc (.cells c 25))) (Gm n)
theorem DF(h:PN B w K p n es zs)(hK:K<=1000)(hn:n<=E)(hE:E<=1000000):EZ K E w B w.heap.size zs ⟨p,n,n⟩:=by
 refine⟨es,h.pa hK (by omega),hn,fun a ha h0=>⟨h.fr a ha,?_⟩,fun j hj h0 a ha=>⟨?_,(gA K).lt ((h.ev j hj).ev hK) h0 a ha⟩⟩
 ·obtain⟨b,o,hp,hlt⟩:=h.pl.lt (by rw[h.el];exact h0)
  simp only at ha;rw[hp] at ha
  cases ha
  exact hlt
 ·obtain⟨xs,k,-⟩:=h.ev j hj
  exact k.fr a ha
structure NO(B:Nat)(w:World)(K E:Nat)(l:List (List Int))(p:Option Addr)(n:Nat)(hs:List Hdr):Prop where
 el:hs.length=n
 tl:l.length=n
 hl:HL w p hs
 fr:aJ B p
 ev:∀j,j<n->(gh hs j).c=(gh hs j).n/\(gh hs j).n<=E/\∃es,PN B w K (gh hs j).p (gh hs j).n es (gt l j)
variable {l:List (List Int)}
theorem NO.below(h:NO B w K E l p n hs)(hb:Below w.heap.size w w'):NO B w' K E l p n hs:=
 ⟨h.el,h.tl,h.hl.below hb,h.fr,fun j hj=>let ⟨a,b,es,c⟩:=h.ev j hj;⟨a,b,es,c.below hb⟩⟩
variable {m:Nat}
theorem NO.cut(h:NO B w K E l p n hs)(hm:m<=n):NO B w K E (l.take m) p m (hs.take m):=by
 refine⟨by have:=h.el;simp;omega,by have:=h.tl;simp;omega,fun hp=>?_,h.fr,fun j hj=>?_⟩
 ·have hl:0<m/\0<hs.length:=by simp at hp;omega
  obtain⟨b,o,hb,hc⟩:=h.hl hl.2;refine⟨b,o,hb,fun j hj=>?_⟩
  have hj':j<m/\j<hs.length:=by simp at hj;omega
  rw[pC _ _ _ hj'.1];exact hc j hj'.2
 ·rw[pC _ _ _ hj,pD _ _ _ hj]
  exact h.ev j (by omega)
theorem NO.hr(h:NO B w K E l p n hs)(hK:K<=1000)(hE:E<=1000000)(hn:n<=1000000):HR n (EZ K E) w B w.heap.size l ⟨p,n,n⟩:=by
 refine⟨hs,h.el,h.tl,Jr _,by show n<=maxLen;unfold maxLen;omega,fun e=>?_,Jr _,h.hl,fun a ha h0=>⟨h.fr a ha,?_⟩,fun j hj=>?_⟩
 ·rcases Jw n with h0|h0
  ·exact h0
  ·obtain⟨b,o,hb,-⟩:=h.hl (by rw[h.el];exact h0)
   simp only at e;rw[hb] at e
   cases e
 ·obtain⟨b,o,hb,hc⟩:=h.hl (by rw[h.el];exact h0)
  simp only at ha;rw[hb] at ha
  cases ha
  exact block_lt_of_cell (hc 0 (by rw[h.el];exact h0))
 ·obtain⟨a,b,es,c⟩:=h.ev j hj
  have h1:=DF c hK b hE;have e:(⟨(gh hs j).p,(gh hs j).n,(gh hs j).n⟩:Hdr)=gh hs j:=by
   generalize gh hs j=x at a
   obtain⟨x1,x2,x3⟩:=x;simp only at a
   rw[a]
  rw[e] at h1
  exact h1
def otr(l:List (List Int)):List (List Int):=l.take (aE l)
def OpP(l:List (List Int))(K E:Nat)(w:World)(e:Ending)(w':World):Prop:=
 ∃p hs,e=.returned (.slice p (aE l) (aE l))/\NO w.heap.size w' K E (otr l) p (aE l) hs/\Below w.heap.size w w'
def CB(F:Nat->List Int)(K E g n i:Nat)(w wr:World):Prop:=
 ∃hs:List Hdr,HB wr g hs/\hs.length=n/\(∀r,r<i->(gh hs r).c=(gh hs r).n/\(gh hs r).n<=E/\∃es,PN (g+1) wr K (gh hs r).p (gh hs r).n es (F r))/\Below w.heap.size w wr/\w.heap.size<=g
variable {i:Nat} {wr v3:World}
theorem CB.step{F:Nat->List Int}{p3:Option Addr}{n3:Nat}{es3:List Ent}(h:CB F K E g n i w wr)(hi:i<n)(hv:Below wr.heap.size wr v3)(hN:PN (g+1) v3 K p3 n3 es3 (F i))(hE:n3<=E):CB F K E g n (i+1) w (v3.setCell ⟨g,i,none⟩ (.slice p3 n3 n3)):=by
 obtain⟨hs,h1,h2,h3,h4,h5⟩:=h;refine⟨hs.set i ⟨p3,n3,n3⟩,(h1.below hv h1.lt).set i ⟨p3,n3,n3⟩,by simp[h2],fun r hr=>?_,(h4.trans (hv.mono h4.size)).setCell (p:=⟨g,i,none⟩) h5 _,h5⟩
 rw[Im _ _ _ _ (by omega)]
 by_cases e:r=i
 ·subst e
  rw[if_pos rfl];exact⟨rfl,hE,es3,hN.put (Nat.lt_succ_self g) _⟩
 ·rw[if_neg e]
  obtain⟨a,b,es,c⟩:=h3 r (by omega)
  exact⟨a,b,es,(c.below hv).put (Nat.lt_succ_self g) _⟩
theorem CB.no{F:Nat->List Int}(h:CB F K E g n n w wr):∃hs,NO g wr K E ((List.range n).map F) (some ⟨g,0,none⟩) n hs:=by
 obtain⟨hs,h1,h2,h3,h4,h5⟩:=h;refine⟨hs,h2,by simp,fun hp=>⟨g,0,rfl,fun j hj=>by rw[Nat.zero_add];exact h1.cell j hj⟩,fun a ha=>by cases ha;exact Jr _,fun j hj=>?_⟩
 obtain⟨a,b,es,c⟩:=h3 j hj;refine⟨a,b,es,?_⟩;have e:gt ((List.range n).map F) j=F j:=by simp[gt,hj]
 rw[e];exact c.mono (Nat.le_succ g)
variable {B':Nat}
theorem NO.mono(h:NO B w K E l p n hs)(hB:B'<=B):NO B' w K E l p n hs:=
 ⟨h.el,h.tl,h.hl,fun a ha=>JA hB (h.fr a ha),fun j hj=>let ⟨a,b,es,c⟩:=h.ev j hj;⟨a,b,es,c.mono hB⟩⟩
variable {E':Nat}
theorem yi{K':Nat}(H:HR D (EZ K E) w B T zss h)(hT:T<=w.heap.size)(hD:D<=1000)(hE:E<=1000000)(hK':K'<=1000)(hE':E'<=1000000)(J:Nat)(C:Array Value)(hE0:∀args w',Sem.run Tryz.prog (callFunc J args) w'=.ok (.enter J args) w')(F:List Int->List Int)
  (hJ:∀wq i hd,i<aE zss->Below w.heap.size w wq->EZ K E wq B T (gt zss i) hd->Calls Tryz.prog J (#[Hdr.val hd]++C) wq (PnP (F (gt zss i)) K' wq)) (hF:∀i,i<aE zss->(F (gt zss i)).length<=E'):
  Calls Tryz.prog 39 #[.slice h.p h.n h.c,.func (.func J) #[] C] w (OpP ((List.range (aE zss)).map fun i=>F (gt zss i)) K' E' w):=by
 have ht:=oE H hT (by omega) hE
 obtain⟨hs,k⟩:=H;have hol:=iW zss;have hn:aE zss<=D:=by have h1:=k.tl;have h2:=k.few;omega
 have HX:Hid (ew D (EZ K E) w B T (zss.take (aE zss)) ⟨h.p,aE zss,aE zss⟩ (hs.take (aE zss))/\T<=w.heap.size):=⟨k.cut _ (by have:=k.tl;omega),hT⟩
 obtain⟨p,n,nc⟩:=h;simp only at ht HX ⊢
 have HJ:=(show Hid _ from hJ)
 have HF:=(show Hid _ from hF)
 clear hJ hF k hT;generalize hm:aE zss=m at *
 have hmk:=It m (by omega)
 go_enter Tryz.func39,Tryz.ntmps39;go_wp2_with fail;go_fit ht;rintro e w1 ⟨rfl,hb1⟩;have HB1:Hid (Below w.heap.size w w1):=hb1;clear ht hb1;go_wp2_with fail;have HO:Hid (CB (fun i=>F (gt zss i)) K' E' w1.heap.size m 0 w (w1.alloc (.cells ((hzs m).map Hdr.val).toArray 25))):=
  ⟨hzs m,heap_alloc_new w1 _,by simp[hzs],fun r hr=>absurd hr (Nat.not_lt_zero r),HB1.out.alloc HB1.out.size _,HB1.out.size⟩
 have HG1:Hid (w.heap.size<=w1.heap.size):=HB1.out.size;generalize w1.alloc (.cells ((hzs m).map Hdr.val).toArray 25)=W1 at *
 generalize w1.heap.size=g at *
 clear hmk HB1;go_loopw [15] (fun kv wr=>∃i:Nat,i<=m/\kv=.int .i64 i/\Hid (CB (fun i=>F (gt zss i)) K' E' g m i w wr)) (fun kv _=>m-(intOf kv).toNat)
 case atStart=>exact⟨0,Jz _,by go_num,HO.out⟩
 case round=>
  obtain⟨i,hi,rfl,G⟩:=hrel;rcases Ju i m with hlt|hge
  ·obtain⟨os,g1,g2,g3,g4,g5⟩:=G.out
   have i1:(i:Int)<(m:Int):=by omega
   obtain⟨b,o,hp,hc⟩:=HX.out.1.hl (by rw[HX.out.1.el];show 0<m;omega)
   simp only at hp;subst hp
   have c0:=hc i (by rw[HX.out.1.el];exact hlt)
   have c1:wr.cell? ⟨b,o+i,none⟩=some (gh (hs.take m) i).val:=by rw[g4.cell (block_lt_of_cell c0)];exact c0
   have hE2:=(df K E).below (HX.out.1.ev i hlt) HX.out.2 g4;rw[pD _ _ _ hlt] at hE2
   generalize gh (hs.take m) i=hd at c1 hE2
   obtain⟨p2,n2,nc2⟩:=hd;have hcall:=HJ.out wr i ⟨p2,n2,nc2⟩ hlt g4 hE2;simp only[Hdr.val] at c1 hcall
   have hg1:=g1;have hlg:=g1.lt;clear hc c0 hE2 g1 g3;go_wp2_with fail;go_fit hcall;rintro e v3 ⟨p8,n8,es8,rfl,hN8,hb3⟩;have z0:=(hg1.below hb3 hlg).cell i (by omega)
   have f0:=(hg1.below hb3 hlg).frozen i;have hle:n8<=E':=by have h1:=HF.out i hlt;rw[hN8.zl] at h1;exact h1
   have hstep:=G.out.step hlt hb3 (hN8.mono hlg) hle;have HST:=(show Hid _ from hstep)
   clear hstep hN8 hb3 hcall c1;go_wp2;go_roundw
   case rel=>exact⟨i+1,by omega,by go_num,HST.out⟩
   case measure=>simp[intOf];omega
  ·obtain rfl:i=m:=by omega
   have i1:¬(i:Int)<(i:Int):=by omega
   obtain⟨os,hN⟩:=G.out.no;have HBW:Hid (Below w.heap.size w wr):=by obtain⟨_,_,_,_,h4,_⟩:=G.out;exact h4
   have ht2:=oE (hN.hr hK' hE' (by omega)) (Jr _) (by omega) hE'
   have HN:Hid (NO g wr K' E' ((List.range i).map fun i=>F (gt zss i)) (some ⟨g,0,none⟩) i os):=hN
   simp only at ht2;clear hN G
   go_wp2_with fail;go_fit ht2;rintro e w3 ⟨rfl,hb3⟩;have hle:=iW ((List.range i).map fun i=>F (gt zss i))
   rw[List.length_map,List.length_range] at hle
   have HR':Hid (OpP ((List.range i).map fun i=>F (gt zss i)) K' E' w (.returned (.slice (some ⟨g,0,none⟩) (aE ((List.range i).map fun i=>F (gt zss i))) (aE ((List.range i).map fun i=>F (gt zss i))))) w3):=
    ⟨some ⟨g,0,none⟩,os.take _,rfl,((HN.out.below hb3).cut hle).mono HG1.out,ae HBW.out hb3⟩
   clear hb3 ht2 hle;generalize aE ((List.range i).map fun i=>F (gt zss i))=q at *
   go_wp2;go_ret;exact HR'.out
end Go.Proofs.YtdjjlghlcffflaaGreatDoor
