/- Own. -/
import Derived.Test.YtfnkomoickanfaaGreatDoorUa
set_option linter.unusedVariables false
set_option linter.unusedSimpArgs false
set_option maxHeartbeats 8000000
set_option maxRecDepth 100000
namespace Go.Proofs.YtfnkomoickanfaaGreatDoor
open Go.RowKit
theorem az.mono{B F:Nat}{p:Option Addr}(h:az F p)(hB:B≤F):az B p:=fun a ha=>Nat.le_trans hB (h a ha)
theorem aW{B:Nat}{a b c:World}(h:Below B a b)(hB:B≤a.heap.size)(k:Below b.heap.size b c):Below B a c:=h.trans (k.mono (Nat.le_trans hB h.size))
theorem ae{a b c:World}(h:Below a.heap.size a b)(k:Below b.heap.size b c):Below a.heap.size a c:=aW h (Nat.le_refl _) k
theorem c8{B g:Nat}{a b:World}(h:Below B a b)(hg:B≤g)(u v:Value):Below B a ((b.setCell ⟨g,0,none⟩ u).setCell ⟨g,1,none⟩ v):=(h.setCell (p:=⟨g,0,none⟩) hg u).setCell (p:=⟨g,1,none⟩) hg v
theorem NI.le{B:Nat}{w:World}{s:Bool}{p:Option Addr}{n:Nat}{xs:List Int}{z:Int}(h:NI B w s p n xs z){k:Nat}(hz:(z.natAbs:Int)<pw k):n≤k:=by
 have hv:(z.natAbs:Int)=val xs:=by
  have:=aA h.u
  rw[←h.v,ak]
  split<;>omega
 rcases Nat.eq_zero_or_pos n with h0|h0
 ·omega
 ·have h1:=cx h.u (by rw[h.nrm];exact h0)
  rw[h.nrm] at h1
  have h2:n-1<k:=by
   rcases Nat.lt_or_ge (n-1) k with h3|h3
   ·exact h3
   ·have:=bD h3;omega
  omega
theorem AI.lt{w:World}{p:Option Addr}{n nc:Nat}{xs:List Int}(h:AI w p n nc xs)(s:Bool):((ak s xs).natAbs:Int)<pw n:=by
 have h1:=aA h.u
 have h2:=jw h.u
 have h3:=bD (ao xs)
 rw[h.len] at h3
 rw[ak]
 split<;>omega
theorem aT{B g:Nat}{p:Option Addr}(h:az B p)(hg:g<B):Off g p:=fun a ha e=>by have:=h a ha;omega
theorem AI.off{w:World}{p:Option Addr}{n nc:Nat}{xs:List Int}(h:AI w p n nc xs){g:Nat}(hg:w.heap.size≤g):0<n→Off g p:=fun hn=>h.rd.off hg (by rw[h.len];exact hn)
theorem eI{z:Int}(h:0<z):aG z=1:=by unfold aG;rw[if_neg (by omega),if_neg (by omega)]
theorem eH{z:Int}(h:z<0):aG z = -1:=by unfold aG;rw[if_neg (by omega),if_pos h]
theorem gH{z:Int}(h:z=0):aG z=0:=by unfold aG;rw[if_pos h]
theorem BC{w:World}{K:Nat}{z:Int}{e:Ent}(h:EV w K z e):Calls Tryz.prog 102 #[.agg #[.bool e.s,.slice e.p e.n e.c]] w fun r w'=>r=.returned (.int .i64 (aG z))∧Below w.heap.size w w':=by
 obtain⟨xs,h1,rfl,h3⟩:=h
 exact mT e.s e.p e.n e.c xs w h1
theorem qJ(K:Nat)(p:Option Addr)(n nc:Nat)(es:List Ent)(zs:List Int)(w:World)(h:PA w K p n nc es zs)(hn:n≤1000000):
  Calls Tryz.prog 90 #[.slice p n nc] w fun e w'=>e=.returned (.slice p (ad zs) (ad zs))∧Below w.heap.size w w':=by
 have hle:=h.el
 go_enter Tryz.func90,Tryz.ntmps90
 go_wp2
 go_loopw [3] (fun nv wr=>∃k:Nat,k≤n∧nv=.int .i64 k∧Hid ((∀j,k≤j→gx zs j=0)∧Below w.heap.size w wr)) (fun nv _=>(intOf nv).toNat)
 case atStart=>exact⟨n,Nat.le_refl _,by go_num,fun j hj=>aJ zs n (by rw[h.zl];exact Nat.le_refl _) j hj,Below.refl _ _⟩
 case round=>
  obtain⟨k,hk,rfl,H⟩:=hrel
  rcases Nat.eq_zero_or_pos k with h0|h0
  ·subst h0
   have HT:Hid (ad zs=0):=cP zs 0 (fun j _=>H.out.1 j (Nat.zero_le _)) (.inl rfl)
   go_wp2
   go_ret
   exact⟨by rw[HT.out];rfl,H.out.2⟩
  ·obtain⟨i,rfl⟩:∃i,k=i+1:=⟨k-1,by omega⟩
   obtain⟨H1,H2⟩:=H.out
   have HH:Hid ((∀j,i+1≤j→gx zs j=0)∧Below w.heap.size w wr):=⟨H1,H2⟩
   have hw:=h.below H2
   obtain⟨b,o,hp,hc⟩:=hw.pl (by omega)
   subst hp
   obtain⟨c0,c1⟩:=hc i (by omega)
   have hv:=hw.ev i (by omega)
   have hcap:=h.cap
   have hbnd:=h.bnd
   unfold maxLen at hbnd
   clear H H1 H2 hc
   go_wp2_with fail
   refine(BC hv).mono ?_
   rintro e w1 ⟨rfl,hb1⟩
   have hB:=ae HH.out.2 hb1
   have hcs:Hid (gx zs i=0∨¬gx zs i=0):=Classical.em _
   rcases hcs.out with hz|hz
   ·rw[gH hz]
    have HZ:Hid (gx zs i=0):=hz
    clear hz hcs c0 c1 hv
    go_wp2
    go_roundw
    case rel=>exact⟨i,by omega,by go_num,fun j hj=>by
     rcases Nat.lt_or_ge i j with h|h
     ·exact HH.out.1 j h
     ·have:j=i:=by omega
      subst this;exact HZ.out,hB⟩
    case measure=>simp[intOf]
   ·have HT:Hid (ad zs=i+1):=cP zs (i+1) HH.out.1 (.inr hz)
    have hi:aG (gx zs i)=1∨aG (gx zs i) = -1:=by
     rcases(show 0<gx zs i∨gx zs i<0 by omega) with h|h
     ·exact .inl (eI h)
     ·exact .inr (eH h)
    clear hz hcs c0 c1 hv
    rcases hi with hi|hi
    all_goals
     rw[hi]
     clear hi
     go_wp2
     go_ret
     exact⟨by rw[HT.out];rfl,hB⟩
def ezs(n:Nat):List Ent:=List.replicate n ez
theorem gV(n:Nat):(ezs n).length=n:=by simp[ezs]
theorem sq(n i:Nat):ge (ezs n) i=ez:=by
 unfold ge ezs
 by_cases h:i<n
 ·simp[List.getElem?_replicate,h]
 ·simp[List.getElem?_replicate,h]
theorem uT(n:Nat):madeCells #[.bool false,.slice none 0 0] (n*2)=ca2 (ezs n):=by
 apply Array.ext
 ·simp[size_madeCells,A0,gV]
 ·intro i h1 h2
  have hl:i<n*2:=by simpa [size_madeCells] using h1
  have hj:i/2<(ezs n).length:=by rw[gV];omega
  obtain⟨g0,g1⟩:=ki (ezs n) (i/2) hj
  have e:(ca2 (ezs n))[i]?=((ezs n).flatMap fun e=>[Value.bool e.s,.slice e.p e.n e.c])[i]?:=by unfold ca2;exact List.getElem?_toArray
  rw[Array.getElem?_eq_getElem h2] at e
  rcases Nat.mod_two_eq_zero_or_one i with h|h
  ·have hi:i/2*2=i:=by omega
   rw[hi,←e,sq] at g0
   rw[Option.some.inj g0]
   simp[madeCells,h,ez]
  ·have hi:i/2*2+1=i:=by omega
   rw[hi,←e,sq] at g1
   rw[Option.some.inj g1]
   simp[madeCells,h,ez]
theorem Ah:(Tryz.prog.info? 24).map (fun i=>(i.zero,i.size,i.bytes))=some (some (.agg #[.bool false,.slice none 0 0]),2,32):=by kernel_rfl
theorem B1(n:Nat)(h:n≤1000000000)(w:World):(Instr.makeSlice 51 (.int .i64 n) (.int .i64 n)).run Tryz.prog w =
  .ok (.slice (some ⟨w.heap.size,0,none⟩) n n) (w.alloc (.cells (ca2 (ezs n)) 24)):=by
 have hi:=Ah
 cases hq:Tryz.prog.info? 24 with
 |none=>rw[hq] at hi;cases hi
 |some i=>
  rw[hq] at hi
  simp only[Option.map_some,Option.some.injEq,Prod.mk.injEq] at hi
  obtain⟨h1,h2,h3⟩:=hi
  have hr:=run_make (P:=Tryz.prog) w 51 24 i (.agg #[.bool false,.slice none 0 0]) Tryz.underlying51 hq h1 .i64 .i64 n n (by omega) (Int.le_refl _) (by rw[h3];omega) (by omega)
  rw[Int.toNat_natCast,h2] at hr
  rw[hr]
  exact congrArg (fun c=>Result.ok (Value.slice (some ⟨w.heap.size,0,none⟩) n n) (w.alloc (.cells c 24))) (uT n)
def NV(B:Nat)(w:World)(K:Nat)(z:Int)(e:Ent):Prop:=∃xs,NI B w e.s e.p e.n xs z∧e.c=e.n∧e.n≤K
structure PN(B:Nat)(w:World)(K:Nat)(p:Option Addr)(n:Nat)(es:List Ent)(zs:List Int):Prop where
 el:es.length=n
 zl:zs.length=n
 nrm:ad zs=n
 pl:PL w p es
 fr:az B p
 ev:∀j,j<n→NV B w K (gx zs j) (ge es j)
section
variable {B:Nat} {w w':World} {K:Nat} {z:Int} {e:Ent} {p:Option Addr} {n:Nat} {es:List Ent} {zs:List Int}
theorem NV.below(h:NV B w K z e)(hb:Below w.heap.size w w'):NV B w' K z e:=by
 obtain⟨xs,h1,h2⟩:=h
 exact⟨xs,h1.below hb,h2⟩
theorem NV.mono{B':Nat}(h:NV B w K z e)(hB:B'≤B):NV B' w K z e:=by
 obtain⟨xs,h1,h2⟩:=h
 exact⟨xs,h1.mono hB,h2⟩
theorem NV.ev(h:NV B w K z e)(hK:K≤1000):EV w K z e:=by
 obtain⟨xs,h1,h2,h3⟩:=h
 exact⟨xs,by rw[h2];exact h1.ai (by omega),h1.v,h3⟩
theorem PN.below(h:PN B w K p n es zs)(hb:Below w.heap.size w w'):PN B w' K p n es zs:=⟨h.el,h.zl,h.nrm,h.pl.below hb,h.fr,fun j hj=>(h.ev j hj).below hb⟩
theorem PN.mono{B':Nat}(h:PN B w K p n es zs)(hB:B'≤B):PN B' w K p n es zs:=⟨h.el,h.zl,h.nrm,h.pl,fun a ha=>Nat.le_trans hB (h.fr a ha),fun j hj=>(h.ev j hj).mono hB⟩
theorem PN.pa(h:PN B w K p n es zs)(hK:K≤1000)(hn:n≤1000000):PA w K p n n es zs:=
 ⟨h.el,h.zl,Nat.le_refl _,by unfold maxLen;omega,fun e=>by
  rcases Nat.eq_zero_or_pos n with h0|h0
  ·exact h0
  ·obtain⟨b,o,hp,-⟩:=h.pl (by rw[h.el];exact h0)
   rw[hp] at e
   exact absurd e (by simp),h.pl,fun j hj=>(h.ev j hj).ev hK⟩
end
def PnP(zs:List Int)(K:Nat)(w:World)(e:Ending)(w':World):Prop:=
 ∃p n es,e=.returned (.slice p n n)∧PN w.heap.size w' K p n es zs∧Below w.heap.size w w'
theorem fX{w:World}{base g n cap:Nat}{e:TypeId}{xs:List Int}{k:IntKind}(h:w.ownsRow base e 1 (.slice (some ⟨g,0,none⟩) n cap) n (xs.map (Value.int k))):Rd w (some ⟨g,0,none⟩) k xs:=fun hx=>
 ⟨g,0,rfl,fun j hj=>by
  have:=h.cells (g:=g) rfl j (.int k (gx xs j)) (by rw[List.getElem?_map,List.getElem?_eq_getElem hj,bX xs j hj];rfl)
  rw[Addr.add_mid] at this
  exact this⟩
def vd:List Int→Int
 | []=>0
 |x::r=>x+65536*vd r
def U16(xs:List Int):Prop:=∀j,0≤gx xs j∧gx xs j<65536
def spl:List Int→List Int
 | []=>[]
 |x::r=>x%65536::x/65536::spl r
theorem DO(xs:List Int):vd (spl xs)=val xs:=by
 induction xs with
 |nil=>rfl
 |cons x r ih=>simp only[spl,vd,val,ih];omega
theorem gW(xs:List Int):(spl xs).length=2*xs.length:=by
 induction xs with
 |nil=>rfl
 |cons x r ih=>simp only[spl,List.length_cons,ih];omega
theorem nI{x:Int}{r:List Int}(h0:0≤x∧x<65536)(h:U16 r):U16 (x::r):=fun j=>by
 cases j with
 |zero=>rw[bZ];exact h0
 |succ j=>rw[cZ];exact h j
theorem vN{xs:List Int}(h:U32 xs):U16 (spl xs):=by
 induction xs with
 |nil=>intro j;rw[spl,lB];decide
 |cons x r ih=>
  obtain⟨h1,h2⟩:=kO h
  exact nI (by omega) (nI (by omega) (ih h2))
theorem xr(a b:List Int):spl (a++b)=spl a++spl b:=by
 induction a with
 |nil=>rfl
 |cons x r ih=>simp only[List.cons_append,spl,ih]
theorem jf(a b:List Int)(h:∀j,gx b j=0):vd (a++b)=vd a:=by
 induction a with
 |nil=>
  rw[List.nil_append]
  induction b with
  |nil=>rfl
  |cons x r ih=>
   have h0:=h 0
   rw[bZ] at h0
   simp only[vd,h0,ih (fun j=>by have:=h (j+1);rwa [cZ] at this)]
   rfl
 |cons x r ih=>simp only[List.cons_append,vd,ih]
theorem jg(xs:List Int):vd (tr xs)=vd xs:=by
 have h:=jf (tr xs) (xs.drop (ad xs)) (fun j=>by rw[aY];exact dT xs _ (by omega))
 rw[tr,List.take_append_drop] at h
 exact h.symm
theorem j6{xs:List Int}(h:U16 xs):U16 (tr xs):=fun j=>by rw[gS];exact h j
structure RN(w:World)(s:Bool)(p:Option Addr)(n:Nat)(ds:List Int):Prop where
 len:ds.length=n
 rd:Rd w p .i64 ds
 u:U16 ds
 nrm:ad ds=n
 sg:n=0→s=false
 sml:n≤1000000000
theorem RN.below{w w':World}{s:Bool}{p:Option Addr}{n:Nat}{ds:List Int}(h:RN w s p n ds)(hb:Below w.heap.size w w'):RN w' s p n ds:=⟨h.len,h.rd.below hb,h.u,h.nrm,h.sg,h.sml⟩
def ag(s:Bool)(ds:List Int):Int:=if s then-vd ds else vd ds
theorem bE(neg:Bool)(p:Option Addr)(len cap:Nat)(xs:List Int)(w:World)(hl:xs.length=len)(hc:len≤cap)(hm:cap≤maxLen)(hx:Rd w p .i64 xs):
  Calls Tryz.prog 56 #[.bool neg,.slice p len cap] w fun e w'=>e=.returned (.agg #[.bool (nsg neg xs),.slice p (ad xs) (ad xs)])∧Below w.heap.size w w':=by
 unfold maxLen at hm
 have ht:=ao xs
 go_enter Tryz.func56,Tryz.ntmps56
 go_wp2
 have hx':=hx.alloc (.cells #[.bool false,.slice none 0 0] 43)
 have hBx:Bx (w.alloc (.cells #[.bool false,.slice none 0 0] 43)) w.heap.size (.bool false) (.slice none 0 0):=Bx.new _ _ _ rfl
 have hbw:Below w.heap.size w (w.alloc (.cells #[.bool false,.slice none 0 0] 43)):=(Below.refl _ _).alloc (Nat.le_refl _) _
 generalize w.alloc (.cells #[.bool false,.slice none 0 0] 43)=W at *
 have c0:=hBx.c0
 have c1:=hBx.c1
 have f0:=hBx.f0
 have f1:=hBx.f1
 go_loop [5] (fun n=>∃k:Nat,k≤len∧n=.int .i64 k∧Hid (∀j,k≤j→gx xs j=0)) (fun n=>(intOf n).toNat)
 case atStart=>exact⟨len,Nat.le_refl _,rfl,aJ xs len (by omega)⟩
 case round=>
  obtain⟨k,hk,rfl,hz⟩:=hrel
  by_cases h0:k=0
  ·subst h0
   have ht0:=cP xs 0 hz.out (.inl rfl)
   have hns:nsg neg xs=false:=by rw[nsg,if_pos ht0]
   have HN:Hid (nsg neg xs=false∧ad xs=0):=⟨hns,ht0⟩
   clear hns ht0
   cases neg
   all_goals
    go_wp2
    refine bodyPost_ret (v:=.agg #[.bool false,.slice p 0 0]) (by simp[results,Tryz.results56,go_sem,c0,c1]) rfl ⟨by rw[HN.out.1,HN.out.2],?_⟩
    exact(hbw.setCell (by simp) _).setCell (by simp) _
  ·obtain⟨m,rfl⟩:∃m,k=m+1:=⟨k-1,by omega⟩
   obtain⟨b,off,rfl,hcell⟩:=hx' (by omega)
   have hcm:=hcell m (by omega)
   clear hcell
   by_cases h1:gx xs m=0
   ·have h2:(gx xs m==0)=true:=by simp only[h1];rfl
    go_wp2
    go_round
    case rel=>exact⟨m,by omega,by go_num,fun j hj=>by
     rcases Nat.lt_or_ge m j with h|h
     ·exact hz.out j h
     ·have:j=m:=by omega
      subst this;exact h1⟩
    case measure=>simp[intOf]
   ·have h2:(gx xs m==0)=false:=by simpa using h1
    have ht1:=cP xs (m+1) hz.out (.inr h1)
    have hns:nsg neg xs=neg:=by rw[nsg,if_neg (by omega)]
    have HN:Hid (nsg neg xs=neg∧ad xs=m+1):=⟨hns,ht1⟩
    clear hns ht1
    cases neg
    ·go_wp2
     refine bodyPost_ret (v:=.agg #[.bool false,.slice (some ⟨b,off,none⟩) (m+1) (m+1)]) (by simp[results,Tryz.results56,go_sem,c0,c1]) rfl ⟨by rw[HN.out.1,HN.out.2],?_⟩
     exact(hbw.setCell (by simp) _).setCell (by simp) _
    ·go_wp2
     refine bodyPost_ret (v:=.agg #[.bool true,.slice (some ⟨b,off,none⟩) (m+1) (m+1)]) (by simp[results,Tryz.results56,go_sem,c0,c1]) rfl ⟨by rw[HN.out.1,HN.out.2],?_⟩
     exact(hbw.setCell (by simp) _).setCell (by simp) _
def uH(w:World)(a b:Int)(n m:Nat)(e:Ending)(w':World):Prop:=
 ∃s1 p1 n1 qs s2 p2 n2 rs Q R,e=.returned (.tuple #[.agg #[.bool s1,.slice p1 n1 n1],.agg #[.bool s2,.slice p2 n2 n2],.int .i64 0])∧NI w.heap.size w' s1 p1 n1 qs Q∧NI w.heap.size w' s2 p2 n2 rs R∧
  Q*b+R=a∧0≤R∧R<(b.natAbs:Int)∧n1≤n+3∧n2≤n+m+1∧Below w.heap.size w w'
theorem sU(s t:Bool)(xs ys qs rs:List Int)(h:val qs*val ys+val rs=val xs)(hs:s=false∨val rs=0):ak (s != t) qs*ak t ys+ak false rs=ak s xs:=by
 rcases hs with rfl|hr
 ·cases t<;>simp[ak,Int.neg_mul,Int.mul_neg]<;>omega
 ·rw[hr] at h
  cases s<;>cases t<;>simp[ak,Int.neg_mul,Int.mul_neg,hr]<;>omega
theorem yS(t:Bool)(xs ys qs rs qs' rs':List Int)(h:val qs*val ys+val rs=val xs)(h1:val qs'=val qs+1)(h2:val rs'=val ys-val rs):ak (!t) qs'*ak t ys+ak false rs'=ak true xs:=by
 cases t<;>simp[ak,Int.neg_mul,Int.mul_neg,h1,h2,Int.add_mul]<;>omega
theorem mU(t:Bool){ys:List Int}(h:U32 ys):((ak t ys).natAbs:Int)=val ys:=by
 have:=aA h
 cases t<;>simp[ak]<;>omega
theorem wR(t:Bool)(xs ys qs rs:List Int)(h:val qs*val ys+val rs=val xs):ak t qs*ak t ys+ak false rs=ak false xs:=by
 simpa using sU false t xs ys qs rs h (.inl rfl)
theorem wS(t:Bool)(xs ys qs rs:List Int)(h:val qs*val ys+val rs=val xs)(hr:val rs=0):ak (!t) qs*ak t ys+ak false rs=ak true xs:=by
 simpa using sU true t xs ys qs rs h (.inr hr)
theorem DM{ys:List Int}(hU:U32 ys)(h:ad ys=1):tr ys=[val ys]:=by
 have hl:=au ys
 rw[h] at hl
 match he:tr ys,hl with
 | [d],_=>
  have:=aE ys
  rw[he,val_one] at this
  rw[this]
end Go.Proofs.YtfnkomoickanfaaGreatDoor
