/- Own. -/
import Derived.Test.YtfnkomoickanfaaGreatDoorZs
import Derived.RegionTactic
import Derived.Lib.Mul64
import Derived.Laws.Bits64b
set_option linter.unusedVariables false
set_option linter.unusedSimpArgs false
set_option maxHeartbeats 8000000
set_option maxRecDepth 100000
namespace Go.Proofs.YtfnkomoickanfaaGreatDoor
open Go.RowKit
theorem yn:(Tryz.prog.info? 26).map (fun i=>(i.zero,i.size,i.bytes))=some (some (.agg #[.bool false,.slice none 0 0,.bool false,.slice none 0 0]),4,64):=by kernel_rfl
theorem lC:(Tryz.prog.info? 45).map (fun i=>(i.zero,i.size,i.bytes))=some (some (.agg #[.bool false,.slice none 0 0,.bool false,.slice none 0 0]),4,64):=by kernel_rfl
theorem Db{base:Nat}{t:TypeId}{E:World→Rat→Rq→Prop}(L:gC E){wr w1 w3:World}{v:Value}{rs:List Rq}{zs:List Rat}{z:Rat}{s s':Bool}{p p':Option Addr}{n c n' c' k:Nat}{o:Obj}{g cap:Nat}(hk:rs.length=k)(h:LW base t E wr v rs zs)(hb1:Below wr.heap.size wr w1)(hE:E w1 z ⟨s,p,n,c,s',p',n',c'⟩)(hF:az wr.heap.size p)(hF':az wr.heap.size p')
  (hown:w3.ownsRow base t 4 (.slice (some ⟨g,0,none⟩) (k+1) cap) (k+1) (frl rs++[.bool s,.slice p n c,.bool s',.slice p' n' c'])) (hgrow:(w1.alloc o).grownBy w3 v.ownBlock) (hat:v.ownBlock=some g∨g=(w1.alloc o).heap.size):
  LW base t E w3 (.slice (some ⟨g,0,none⟩) (k+1) cap) (rs++[⟨s,p,n,c,s',p',n',c'⟩]) (zs++[z]):=
 LW.app L hk h hb1 hE ⟨fun _ a ha=>.inr (hF a ha),fun _ a ha=>.inr (hF' a ha)⟩ hown hgrow hat
def RwP(K:Nat)(zs:List Rat)(w:World)(e:Ending)(w':World):Prop:=∃q m mc rs,e=.returned (.slice q m mc)∧WA (EM K) w' q m mc rs zs∧Below w.heap.size w w'
theorem oN(xs:List Rat)(k:Nat)(h:k<xs.length):xs.take (k+1)=xs.take k++[gq xs k]:=by
 rw[List.take_succ_eq_append_getElem h]
 simp[gq,h]
theorem qV{w:World}{K:Nat}{p:Option Addr}{n nc:Nat}{rs0:List Rq}{zs:List Rat}(h:WA (EQa K) w p n nc rs0 zs)(hK:1≤K)(hK':K≤400)(hn:n≤1000000):
  Calls Tryz.prog 30 #[.slice p n nc] w (RwP K zs w):=by
 obtain⟨i0,hi,hzz⟩:=Option.map_eq_some_iff.1 lC
 simp only[Prod.mk.injEq] at hzz
 obtain⟨hz0,hz1,hz2⟩:=hzz
 have HI:Hid (Tryz.prog.info? 45=some i0∧i0.zero=some (.agg #[.bool false,.slice none 0 0,.bool false,.slice none 0 0])∧i0.size=4∧i0.bytes=64):=⟨hi,hz0,hz1,hz2⟩
 have HX:Hid (WA (EQa K) w p n nc rs0 zs):=h
 clear h hi hz0 hz1 hz2
 go_enter Tryz.func30,Tryz.ntmps30
 go_wp2_with fail
 go_loopw [3,4] (fun qv iv wr=>∃(k:Nat) (rs:List Rq),k≤n∧iv=.int .i64 k∧Hid (rs.length=k∧LW w.heap.size 45 (EM K) wr qv rs (zs.take k)∧Below w.heap.size w wr)) (fun _ iv _=>n-(intOf iv).toNat)
 case atStart=>exact⟨0,[],Nat.zero_le _,by go_num,rfl,LW.nil _ _ _ _,Below.refl _ _⟩
 case round=>
  obtain⟨k,rs,hk,rfl,H⟩:=hrel
  rcases Nat.lt_or_ge k n with hlt|hge
  ·obtain⟨hel,hLR,hB⟩:=H.out
   have hPA:=HX.out.below (dP K) hB
   obtain⟨b,o,hp,hc⟩:=hPA.rl (by rw[hPA.el];omega)
   subst hp
   obtain⟨c0,c1,c2,c3⟩:=hc k (by rw[hPA.el];omega)
   have hev:=hPA.ev k (by omega)
   have HT:Hid (zs.take (k+1)=zs.take k++[gq zs k]):=oN zs k (by rw[hPA.zl];omega)
   have i1:(k:Int)<(n:Int):=by omega
   generalize gr rs0 k=e0 at *
   have hfr:=vy hev hK hK'
   clear hel hLR hB hc hPA hev
   generalize gq zs k=y at *
   go_wp2_with fail
   go_fit hfr
   rintro e w1 ⟨s1,p1,n1,s2,q1,m1,rfl,hM,hF1,hF2,hb1⟩
   have HE:Hid (EM K w1 y ⟨s1,p1,n1,n1,s2,q1,m1,m1⟩):=⟨hM,rfl,rfl⟩
   obtain⟨hi,hz0,hz1,hz2⟩:=HI.out
   have hown0:=bW H.out.2.1.own hb1
   rw[H.out.1] at hown0
   have HO:Hid (w1.ownsRow w.heap.size 45 4 u3 k (frl rs)):=hown0
   have hsz:w.heap.size≤w1.heap.size:=Nat.le_trans H.out.2.2.size hb1.size
   have HF:Hid (az wr.heap.size p1∧az wr.heap.size q1):=⟨hF1,hF2⟩
   clear hown0 hfr c0 c1 c2 c3 hM hF1 hF2
   go_wp2_with (refine wpList_append_lies _ rfl _ _ 70 rfl w.heap.size 45 i0 (.agg #[.bool false,.slice none 0 0,.bool false,.slice none 0 0]) 4 64 Tryz.underlying70 hi hz0 hz1 hz2 rfl (by decide) u3 k (frl rs) rfl (HO.out.alloc _) ⟨w1.heap.size,0,none⟩ 1 1 [.bool s1,.slice p1 n1 n1,.bool s2,.slice q1 m1 m1] rfl rfl ?_ (fun x hx=>by simp at hx;rcases hx with rfl|rfl|rfl|rfl<;>rfl) (by decide) (by unfold maxLen;omega) (by omega) (by simp;omega) _ rfl ?_;exact World.news_of_block (heap_alloc_new w1 _);intro g cap w3 hown3 hgrow3 hat3 hlt3;have hB3:Below w.heap.size w w3:=((ae H.out.2.2 hb1).alloc hsz _).grown hgrow3 (by simp;omega) (fun q hq=>(HO.out.lt q hq).1);have HA:Hid (LW w.heap.size 45 (EM K) w3 (.slice (some ⟨g,0,none⟩) (k+1) cap) (rs++[⟨s1,p1,n1,n1,s2,q1,m1,m1⟩]) (zs.take k++[y])):=Db (cU _) H.out.1 H.out.2.1 hb1 HE.out HF.out.1 HF.out.2 hown3 hgrow3 hat3;clear hown3 hgrow3 hat3)
   refine⟨⟨k+1,rs++[⟨s1,p1,n1,n1,s2,q1,m1,m1⟩],by omega,by go_num,by have:=H.out.1;simp;omega,by rw[HT.out];exact HA.out,hB3⟩,by simp[intOf];omega⟩
  ·obtain rfl:k=n:=by omega
   obtain⟨hel,hLR,hB⟩:=H.out
   obtain⟨q,cap,hv,hW⟩:=hLR.wa
   rw[hel] at hv hW
   subst hv
   have HR':Hid (RwP K zs w (.returned (.slice q k cap)) wr):=⟨q,k,cap,rs,rfl,by rw[List.take_of_length_le (by rw[HX.out.zl];exact Nat.le_refl _)] at hW;exact hW,hB⟩
   clear hLR hB hW H hel
   have i1:¬(k:Int)<(k:Int):=by omega
   go_wp2
   go_ret
   exact HR'.out
section
variable {wc w w1:World} {V1 V2 V3:Int} {N1 N2 N3:Nat} {c1 c2 c3 a s:Bool} {r1 r2 r3 x:Value} {t1:Bool} {p1:Option Addr} {n1:Nat} {z1:List Int} {t2:Bool} {p2:Option Addr} {n2:Nat} {z2:List Int} {t3:Bool} {p3:Option Addr} {n3:Nat} {z3:List Int} {g:Nat}
end
section
variable {P:Program} {ops:Array Oper} {Q:Exit→Act→World→Prop} {md:Region.Mode}
theorem nU{l:Array Bool}{i:Nat}(h:l.getD i true=false):(l.setIfInBounds i true).toList.count false<l.toList.count false:=by
 have hi:i<l.size:=by
  rcases Nat.lt_or_ge i l.size with h'|h'
  ·exact h'
  ·simp[Array.getElem?_eq_none h'] at h
 have hv:l.toList[i]'(by simpa using hi)=false:=by simpa [hi] using h
 have hp:0<l.toList.count false:=List.count_pos_iff.2 (hv ▸ List.getElem_mem _)
 rw[Array.toList_setIfInBounds,List.count_set (by simpa using hi),hv]
 show _-1+0<_
 omega
def ahead(ops:Array Oper):Bool:=(List.range ops.size).all fun i=>((ops[i]?).map (·.after.all fun e=>decide (e.on<i))).getD true
end
section
variable {w w':World} {g B:Nat} {s:Bool} {p:Option Addr} {n:Nat} {xs:List Int} {t:Bool} {q:Option Addr} {m:Nat} {ys:List Int} {r:Rat}
variable {B2:Nat} {s2:Bool} {p2:Option Addr} {n2:Nat} {x2:List Int} {t2:Bool} {q2:Option Addr} {m2:Nat} {y2:List Int} {r2:Rat}
end
section
variable {w w':World} {K Ka Kb:Nat} {s t sa ta sb tb:Bool} {p q pa qa pb qb:Option Addr} {n nc m mc na nac ma mac nb nbc mb mbc:Nat} {r ra rb:Rat} {B:Nat}
end
section
variable {w w':World} {K Ka Kb:Nat} {s t sa ta sb tb:Bool} {p q pa qa pb qb:Option Addr} {n nc m mc na nac ma mac nb nbc mb mbc:Nat} {r ra rb:Rat} {B:Nat}
end
theorem DD{w:World}{N:Nat}{x:Int}{s:Bool}{p:Option Addr}{n:Nat}(h:RV w N x s p n):
  Calls Tryz.prog 85 #[.agg #[.bool s,.slice p n n]] w fun e w'=>∃s',e=.returned (.agg #[.bool s',.slice p n n])∧RV w' N (-x) s' p n∧Below w.heap.size w w':=by
 obtain⟨ds,h1,rfl,h3⟩:=h
 refine(my h1).mono ?_
 rintro e w' ⟨s',g1,g2,g3,g4⟩
 exact⟨s',g1,⟨ds,g2,g3.out,h3⟩,g4⟩
theorem vr{w:World}{N:Nat}{x:Int}{s:Bool}{p:Option Addr}{n:Nat}(h:RV w N x s p n)(hN:N≤1000):
  Calls Tryz.prog 72 #[.agg #[.bool s,.slice p n n]] w fun e w'=>∃b:Nat,e=.returned (.int .i64 (b:Int))∧b≤16*N∧Hid (IB b (x.natAbs:Int))∧Below w.heap.size w w':=by
 have hbd:=h.bd
 obtain⟨ds,h1,rfl,h3⟩:=h
 have a:=ay h1.u
 have e:((ag s ds).natAbs:Int)=vd ds:=by unfold ag;split<;>omega
 rw[e] at hbd ⊢
 refine(qD s p n n ds w h1.len (by omega) h1.nrm h1.rd h1.u).mono ?_
 rintro e w' ⟨b,g1,g2,g3⟩
 refine⟨b,g1,?_,g2,g3⟩
 have hp:pd N=2^(16*N):=by rw[pd,show(65536:Int)=2^16 from rfl,←Int.pow_mul]
 rcases Nat.lt_or_ge (16*N) b with hb|hb
 ·rcases g2.out.2.2 with k|k
  ·omega
  ·have:=ef (show 16*N≤b-1 by omega)
   omega
 ·exact hb
theorem Ci{w:World}{K:Nat}{s t:Bool}{p q:Option Addr}{n m:Nat}{r:Rat}(h:MQ w K s p n t q m r)(hK:K≤400):
  Calls Tryz.prog 115 #[.agg #[.bool s,.slice p n n,.bool t,.slice q m m]] w fun e w'=>∃b c:Nat,e=.returned (.int .i64 ((b:Int)+c))∧Hid (IB b (r.num.natAbs:Int))∧Hid (IB c (r.den:Int))∧Below w.heap.size w w':=by
 go_enter Tryz.func115,Tryz.ntmps115
 go_wp2_with fail
 have hA0:Bq (w.alloc (.cells #[.bool s,.slice p n n,.bool t,.slice q m m] 45)) w.heap.size (.bool s) (.slice p n n) (.bool t) (.slice q m m):=Bq.new _ _ _ _ _ rfl
 have hW:Below w.heap.size w (w.alloc (.cells #[.bool s,.slice p n n,.bool t,.slice q m m] 45)):=(Below.refl _ _).alloc (Nat.le_refl _) _
 generalize w.alloc (.cells #[.bool s,.slice p n n,.bool t,.slice q m m] 45)=W at *
 have k:=h.below hW
 have nA:Hid (w.heap.size≠w.heap.size+1):=(by omega:w.heap.size≠w.heap.size+1)
 obtain⟨a0,a1,a2,a3,-,-,-,-⟩:=hA0
 go_region_held3 (fun w'=>w'.cell? ⟨w.heap.size,0,none⟩=some (.bool s)∧w'.cell? ⟨w.heap.size,1,none⟩=some (.slice p n n)∧w'.cell? ⟨w.heap.size,2,none⟩=some (.bool t)∧w'.cell? ⟨w.heap.size,3,none⟩=some (.slice q m m)) (first|with_reducible exact⟨a0,a1,a2,a3⟩|with_reducible exact bB ⟨a0,a1,a2,a3⟩ hV1|with_reducible exact bB ⟨a0,a1,a2,a3⟩ hV2|with_reducible exact sB ⟨a0,a1,a2,a3⟩ hV2 nA|(simp[go_sem, *];done))
  (first
   |(go_at_call_of 72 (Value.agg #[.bool s,.slice p n n]);refine(vr k.num.drew (by omega)).mono ?_;rintro e v1 ⟨b,rfl,lb,hb,hv1⟩;have hV1:=aC hv1)
   |(go_at_call_of 72 (Value.agg #[.bool t,.slice q m m]);refine(vr (k.den.below hV1) (by omega)).mono ?_;rintro e v2 ⟨c,rfl,lc,hc,hv2⟩;have hV2:=ae hV1 hv2;have v0:IntKind.i64.wrap ((b:Int)+(c:Int))=(b:Int)+(c:Int):=(by rw[IntKind.wrap_i64];omega)))
 clear a0 a1 a2 a3
 go_wp2
 go_ret
 exact⟨b,c,rfl,hb,hc,ae hW hV2⟩
def qb(r:Rat):Nat:=zb r.num+zb (r.den:Int)
def wbt(zs:List Rat):Nat:=zs.foldl (fun m z=>max m (qb z)) 0
theorem tP(zs:List Rat)(j:Nat)(h:j<zs.length):wbt (zs.take (j+1))=max (wbt (zs.take j)) (qb (gq zs j)):=by
 rw[oN zs j h,wbt,List.foldl_append]
 rfl
theorem C6{b c:Nat}{r:Rat}(h1:IB b (r.num.natAbs:Int))(h2:IB c (r.den:Int)):b+c=qb r:=by
 have e1:=h1.uniq (oU r.num)
 have e2:=h2.uniq (by have:=oU (r.den:Int);rwa [Int.natAbs_natCast] at this)
 rw[e1,e2,qb]
theorem AJ{w:World}{K:Nat}{e0:Rq}{r:Rat}(h:EM K w r e0)(hK:K≤400):
  Calls Tryz.prog 115 #[.agg #[.bool e0.s,.slice e0.p e0.n e0.c,.bool e0.t,.slice e0.q e0.m e0.d]] w fun e w'=>e=.returned (.int .i64 (qb r:Int))∧Below w.heap.size w w':=by
 obtain⟨h1,h2,h3⟩:=h
 rw[h2,h3]
 refine(Ci h1 hK).mono ?_
 rintro e w' ⟨b,c,rfl,hb,hc,hw⟩
 exact⟨by rw[←C6 hb.out hc.out];push_cast;rfl,hw⟩
theorem By{z:Int}{K:Nat}(h:(z.natAbs:Int)<pw K):zb z≤32*K:=by
 have h1:=oU z
 rw[yQ] at h
 rcases h1.2.2 with h3|h3
 ·omega
 ·rcases Nat.lt_or_ge (32*K) (zb z) with h4|h4
  ·exfalso
   have h5:(2:Int)^(32*K)≤2^(zb z-1):=ef (by omega)
   omega
  ·exact h4
theorem D4{w:World}{r:Rat}{e0:Rq}(h:EQa 24 w r e0):qb r≤1600:=by
 have h1:=AQ.sz h (by decide)
 have h2:=By h1.1
 have h3:=By h1.2
 unfold qb
 omega
theorem zu(zs:List Rat)(M:Nat)(h:∀j,j<zs.length→qb (gq zs j)≤M):∀j,j≤zs.length→wbt (zs.take j)≤M
 |0,_=>by simp[wbt]
 |j+1,hj=>by
  rw[tP zs j (by omega)]
  have:=zu zs M h j (by omega)
  have:=h j (by omega)
  omega
theorem tg{w:World}{K:Nat}{p:Option Addr}{n nc:Nat}{rs0:List Rq}{zs:List Rat}(h:WA (EM K) w p n nc rs0 zs)(hK:K≤400)(hn:n≤1000000)(hz:∀j,j<n→qb (gq zs j)≤1000000):
  Calls Tryz.prog 71 #[.slice p n nc] w fun e w'=>e=.returned (.int .i64 (wbt zs:Int))∧Below w.heap.size w w':=by
 have HX:Hid (WA (EM K) w p n nc rs0 zs):=h
 have HZ:Hid (∀j,j<n→qb (gq zs j)≤1000000):=hz
 clear h hz
 go_enter Tryz.func71,Tryz.ntmps71
 go_wp2_with fail
 go_loopw [3,4] (fun mv iv wr=>∃k:Nat,k≤n∧iv=.int .i64 k∧mv=.int .i64 (wbt (zs.take k))∧Hid (Below w.heap.size w wr)) (fun _ iv _=>n-(intOf iv).toNat)
 case atStart=>exact⟨0,Nat.zero_le _,by go_num,by simp[wbt],Below.refl _ _⟩
 case round=>
  obtain⟨k,hk,rfl,rfl,H⟩:=hrel
  rcases Nat.lt_or_ge k n with hlt|hge
  ·have hPA:=HX.out.below (cU K) H.out
   obtain⟨b,o,hp,hc⟩:=hPA.rl (by rw[hPA.el];omega)
   subst hp
   obtain⟨c0,c1,c2,c3⟩:=hc k (by rw[hPA.el];omega)
   have hev:=hPA.ev k (by omega)
   have HT:Hid (wbt (zs.take (k+1))=max (wbt (zs.take k)) (qb (gq zs k))):=tP zs k (by rw[hPA.zl];omega)
   have i1:(k:Int)<(n:Int):=by omega
   generalize gr rs0 k=e0 at *
   have hcall:=AJ hev hK
   clear hc hPA hev
   generalize qb (gq zs k)=t at *
   generalize wbt (zs.take k)=d at *
   go_wp2_with fail
   go_fit hcall
   rintro e w1 ⟨rfl,hb1⟩
   have HB1:Hid (Below w.heap.size w w1):=ae H.out hb1
   clear c0 c1 c2 c3 hcall hb1
   by_cases hdt:d<t
   ·have j1:(d:Int)<(t:Int):=by omega
    have HM:Hid (wbt (zs.take (k+1))=t):=by show _=_;have:=HT.out;omega
    go_wp2
    go_roundw
    case rel=>exact⟨k+1,by omega,by go_num,by rw[HM.out],HB1.out⟩
    case measure=>simp[intOf];omega
   ·have j1:¬(d:Int)<(t:Int):=by omega
    have HM:Hid (wbt (zs.take (k+1))=d):=by show _=_;have:=HT.out;omega
    go_wp2
    go_roundw
    case rel=>exact⟨k+1,by omega,by go_num,by rw[HM.out],HB1.out⟩
    case measure=>simp[intOf];omega
  ·obtain rfl:k=n:=by omega
   have i1:¬(k:Int)<(k:Int):=by omega
   have HZ':Hid (zs.take k=zs):=List.take_of_length_le (by rw[HX.out.zl];exact Nat.le_refl _)
   go_wp2
   go_ret
   exact⟨by rw[HZ'.out];rfl,H.out⟩
def tmf(c x:Int):Int:=min (c*max x 1) 4611686018427387904
def tms(xs:List Int):Int:=xs.foldl tmf 1
theorem A5(c:Int)(xs:List Int)(k:Nat)(h:k<xs.length):(xs.take (k+1)).foldl tmf c=tmf ((xs.take k).foldl tmf c) (gx xs k):=by
 rw[List.take_succ_eq_append_getElem h,List.foldl_append,bX xs k h]
 rfl
theorem zk{c x:Int}(h0:1≤c):1≤tmf c x∧tmf c x≤4611686018427387904:=by
 have h:=Int.mul_le_mul h0 (Int.le_max_right x 1) (by decide) (by omega)
 unfold tmf
 omega
theorem zm:∀(xs:List Int) (c:Int),1≤c→c≤4611686018427387904→1≤xs.foldl tmf c∧xs.foldl tmf c≤4611686018427387904
 | [],c,h0,h1=>⟨h0,h1⟩
 |x::xs,c,h0,h1=>zm xs (tmf c x) (zk h0).1 (zk h0).2
theorem ye(f:Int→Int→Int)(c:Int)(xs:List Int)(k:Nat)(h:k<xs.length):(xs.take (k+1)).foldl f c=f ((xs.take k).foldl f c) (gx xs k):=by
 rw[List.take_succ_eq_append_getElem h,List.foldl_append,bX xs k h]
 rfl
theorem ng(f:Int→Int→Int)(P Q:Int→Prop)(hP:∀c x,P c→Q x→P (f c x)):∀(xs:List Int) (c:Int),P c→(∀x∈xs,Q x)→P (xs.foldl f c)
 | [],c,h,_=>h
 |x::xs,c,h,hq=>ng f P Q hP xs (f c x) (hP c x h (hq x (by simp))) fun y hy=>hq y (by simp[hy])
def smf(c x:Int):Int:=min (c+x) 4611686018427387904
def sms(xs:List Int):Int:=xs.foldl smf 0
def pmf(c x:Int):Int:=min (c*x) 4611686018427387904
theorem zi(c x:Int)(h:0≤c∧c≤4611686018427387904)(hx:0≤x∧x≤9223372036854775807):0≤smf c x∧smf c x≤4611686018427387904:=by unfold smf;omega
theorem Dq(c x:Int)(h:0≤c∧c≤4611686018427387904)(hx:0≤x∧x≤9223372036854775807):0≤pmf c x∧pmf c x≤4611686018427387904:=by
 have:=Int.mul_nonneg h.1 hx.1
 unfold pmf
 omega
def InT(c:Int):Prop:=0≤c∧c≤4611686018427387904
def InI(c:Int):Prop:=0≤c∧c≤9223372036854775807
theorem vu{w:World}(a b:Int)(ha:1≤a)(ha':a≤4611686018427387904)(hb:1≤b):
  Calls Tryz.prog 76 #[.int .i64 a,.int .i64 b] w fun e w'=>e=.returned (.int .i64 (min (a*b) 4611686018427387904))∧w'=w:=by
 have i1:¬(4611686018427387904<a):=by omega
 have i2:(a != 0)=true:=by rw[bne_iff_ne];omega
 have i5:a≠0:=by omega
 have key:b≤4611686018427387904/a↔b*a≤4611686018427387904:=Int.le_ediv_iff_mul_le (by omega)
 rw[Int.mul_comm b a] at key
 have hpos:1≤a*b:=Int.mul_le_mul ha hb (by decide) (by omega)
 rcases Int.lt_or_le (4611686018427387904/a) b with h|h
 ·have HE:Hid (min (a*b) 4611686018427387904=4611686018427387904):=by
   have:¬a*b≤4611686018427387904:=fun hh=>by have:=key.2 hh;omega
   show min (a*b) 4611686018427387904=4611686018427387904
   omega
  clear key hpos
  rw[HE.out]
  go_enter Tryz.func76,Tryz.ntmps76
  go_wp2
  go_ret
  exact⟨rfl,rfl⟩
 ·have h':=key.1 h
  have HE:Hid (min (a*b) 4611686018427387904=a*b):=by
   show min (a*b) 4611686018427387904=a*b
   omega
  have i4:wrap64 (a*b)=a*b:=by unfold wrap64;omega
  have i3:¬(4611686018427387904/a<b):=by omega
  clear key hpos h h'
  rw[HE.out]
  go_enter Tryz.func76,Tryz.ntmps76
  go_wp2
  go_ret
  exact⟨rfl,rfl⟩
theorem xd{w:World}{p:Option Addr}{n nc:Nat}{xs:List Int}(hl:xs.length=n)(hX:Rd w p .i64 xs)(hn:n≤1000000):
  Calls Tryz.prog 73 #[.slice p n nc] w fun e w'=>e=.returned (.int .i64 (tms xs))∧w'=w:=by
 have HX:Hid (xs.length=n∧Rd w p .i64 xs):=⟨hl,hX⟩
 clear hl hX
 go_enter Tryz.func73,Tryz.ntmps73
 go_wp2_with fail
 go_loopw [3,4] (fun cv iv wr=>∃k:Nat,k≤n∧iv=.int .i64 k∧cv=.int .i64 (tms (xs.take k))∧wr=w) (fun _ iv _=>n-(intOf iv).toNat)
 case atStart=>exact⟨0,Nat.zero_le _,by go_num,rfl,rfl⟩
 case round=>
  obtain⟨k,hk,rfl,rfl,rfl⟩:=hrel
  obtain⟨hl,hX⟩:=HX.out
  obtain⟨d1,d2⟩:=zm (xs.take k) 1 (by decide) (by decide)
  rcases Nat.lt_or_ge k n with hlt|hge
  ·obtain⟨b,o,hp,hc⟩:=hX (by omega)
   subst hp
   have c0:=hc k (by omega)
   have HP:Hid (tms (xs.take (k+1))=tmf (tms (xs.take k)) (gx xs k)):=A5 1 xs k (by omega)
   generalize gx xs k=x at *
   have d1':1≤tms (xs.take k):=d1
   have d2':tms (xs.take k)≤4611686018427387904:=d2
   clear d1 d2
   generalize tms (xs.take k)=c at *
   have i1:(k:Int)<(n:Int):=by omega
   clear hc hl hX
   rcases Int.lt_or_le 1 x with h1|h1
   ·have HP':Hid (tms (xs.take (k+1))=min (c*x) 4611686018427387904):=by
     have h3:max x 1=x:=by omega
     have h4:=HP.out
     unfold tmf at h4
     rw[h3] at h4
     exact h4
    clear HP
    go_wp2_with fail
    refine(vu c x d1' d2' (by omega)).mono ?_
    rintro e w1 ⟨rfl,rfl⟩
    go_wp2_with fail
    refine⟨⟨k+1,by omega,by go_num,by rw[HP'.out],by first|rfl|trivial⟩,by simp[intOf];omega⟩
   ·have h2:¬(1<x):=by omega
    have HP':Hid (tms (xs.take (k+1))=c):=by
     have h3:max x 1=1:=by omega
     have h4:=HP.out
     unfold tmf at h4
     rw[h3,Int.mul_one] at h4
     show tms (xs.take (k+1))=c
     omega
    go_wp2_with fail
    refine⟨⟨k+1,by omega,by go_num,by rw[HP'.out],by first|rfl|trivial⟩,by simp[intOf];omega⟩
  ·obtain rfl:k=n:=by omega
   have HE:Hid (tms (xs.take k)=tms xs):=by rw[List.take_of_length_le (by omega)];rfl
   have i1:¬(k:Int)<(k:Int):=by omega
   clear hX hl d1 d2
   go_wp2
   go_ret
   exact⟨by rw[←HE.out];rfl,rfl⟩
end Go.Proofs.YtfnkomoickanfaaGreatDoor
