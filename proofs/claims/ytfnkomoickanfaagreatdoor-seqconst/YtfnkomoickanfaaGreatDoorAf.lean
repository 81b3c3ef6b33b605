/- Own. -/
import Derived.Test.YtfnkomoickanfaaGreatDoorAc
import Derived.ProofKit
import Derived.OpenShut
import Derived.Lib.SmallJoins
import Derived.Lay
import Derived.LaidOnce
import Derived.SevenTiedAt
import Derived.Deep.SlicePairs
set_option linter.unusedVariables false
set_option linter.unusedSimpArgs false
set_option maxHeartbeats 8000000
set_option maxRecDepth 100000
namespace Go.Proofs.YtfnkomoickanfaaGreatDoor
open Go.RowKit
theorem wU{w:World}{B T K E D:Nat}{zss:List (List Int)}{h:Hdr}(H:HR D (EZ K E) w B T zss h)(hT:T≤w.heap.size)(hD:D≤1000)(hE:E≤1000)(hK:K≤400):
  Calls Tryz.prog 29 #[.slice h.p h.n h.c] w (OrP D (zss.map tr) (2*K) E w):=by
 obtain⟨I0,hi,hzz⟩:=Option.map_eq_some_iff.1 yo
 simp only[Prod.mk.injEq] at hzz
 obtain⟨hz0,hz1,hz2⟩:=hzz
 have HI:Hid (Tryz.prog.info? 54=some I0∧I0.zero=some (.slice none 0 0)∧I0.size=1∧I0.bytes=24):=⟨hi,hz0,hz1,hz2⟩
 clear hi hz0 hz1 hz2
 obtain⟨hs,k⟩:=H
 have HX:Hid (fa D (EZ K E) w B T zss h hs∧T≤w.heap.size):=⟨k,hT⟩
 have hn:h.n≤D:=k.few
 have HL:Hid (zss.length=h.n):=k.tl
 obtain⟨p,n,nc⟩:=h
 simp only at hn HL ⊢
 clear k hT
 go_enter Tryz.func29,Tryz.ntmps29
 go_wp2_with fail
 go_loopw [3,4] (fun qv iv wr=>∃(k:Nat) (ls:List Hdr),k≤n∧iv=.int .i64 k∧Hid (ls.length=k∧LH w.heap.size 54 (EY (2*K) E) wr qv ls ((zss.take k).map tr)∧Below w.heap.size w wr)) (fun _ iv _=>n-(intOf iv).toNat)
 case atStart=>exact⟨0,[],Nat.zero_le _,by go_num,rfl,by rw[List.take_zero];exact LH.nil _ _ _ _,Below.refl _ _⟩
 case round=>
  obtain⟨k,ls,hk,rfl,G⟩:=hrel
  rcases Nat.lt_or_ge k n with hlt|hge
  ·have g4:=G.out.2.2
   obtain⟨b,o,hp,hc⟩:=HX.out.1.hl (by rw[HX.out.1.el];show 0<n;omega)
   simp only at hp
   subst hp
   have c0:=hc k (by rw[HX.out.1.el];exact hlt)
   have c1:wr.cell? ⟨b,o+k,none⟩=some (gh hs k).val:=by rw[g4.cell (block_lt_of_cell c0)];exact c0
   have hE2:=(fO K E).below (HX.out.1.ev k hlt) HX.out.2 g4
   generalize gh hs k=hd at c1 hE2
   obtain⟨p2,n2,nc2⟩:=hd
   simp only[Hdr.val] at c1
   obtain⟨es2,hP2,hd3,-,-⟩:=hE2
   simp only at hP2 hd3
   have i1:(k:Int)<(n:Int):=by omega
   have hcall:=xm hP2 (by omega) hK
   have hlen:Hid (ad (gt zss k)≤E):=by have h1:=ao (gt zss k);have h2:=hP2.zl;show _≤_;omega
   clear hc c0 hP2 g4
   go_wp2_with fail
   go_fit hcall
   rintro e w1 ⟨q,m,fs,rfl,hR1,hF1,ht1,hF2,hb1⟩
   have HE:Hid (EY (2*K) E w1 wr.heap.size w1.heap.size (tr (gt zss k)) ⟨q,m,m⟩):=wF hR1 hF1 ht1 hF2 (by rw[←ht1,aZ];exact hlen.out)
   clear c1 hR1 hF1 hF2 hcall
   obtain⟨hi,hz0,hz1,hz2⟩:=HI.out
   have hown0:=bW G.out.2.1.own hb1
   rw[G.out.1] at hown0
   have HO:Hid (w1.ownsRow w.heap.size 54 1 u3 k (ls.map Hdr.val)):=hown0
   have hsz:w.heap.size≤w1.heap.size:=Nat.le_trans G.out.2.2.size hb1.size
   clear hown0
   go_wp2_with (refine wpList_append_lies _ rfl _ _ 68 rfl w.heap.size 54 I0 (.slice none 0 0) 1 24 Tryz.underlying68 hi hz0 hz1 hz2 rfl (by decide) u3 k (ls.map Hdr.val) rfl (HO.out.alloc _) ⟨w1.heap.size,0,none⟩ 1 1 [.slice q m m] rfl rfl ?_ (fun x hx=>by simp at hx;subst hx;rfl) (by decide) (by unfold maxLen;omega) (by omega) (by simp;omega) _ rfl ?_;exact World.news_of_block (heap_alloc_new w1 _);intro g cap w3 hown3 hgrow3 hat3 hlt3;have hB3:Below w.heap.size w w3:=((ae G.out.2.2 hb1).alloc hsz _).grown hgrow3 (by simp;omega) (fun q hq=>(HO.out.lt q hq).1);have HA:Hid (LH w.heap.size 54 (EY (2*K) E) w3 (.slice (some ⟨g,0,none⟩) (k+1) cap) (ls++[⟨q,m,m⟩]) ((zss.take k).map tr++[tr (gt zss k)])):=LH.app (bJ (2*K) E) G.out.1 G.out.2.1 hb1 HE.out (Nat.le_refl _) (Nat.le_refl _) G.out.2.2.size hown3 hgrow3 hat3;clear hown3 hgrow3 hat3)
   refine⟨⟨k+1,ls++[⟨q,m,m⟩],by omega,by go_num,by have:=G.out.1;simp;omega,by rw[qZ tr zss k (by have:=HL.out;omega)];exact HA.out,hB3⟩,by simp[intOf];omega⟩
  ·obtain rfl:k=n:=by omega
   obtain⟨hel,hLR,hB⟩:=G.out
   rw[List.take_of_length_le (by have:=HL.out;omega)] at hLR
   obtain⟨q,cap,hv,hRow⟩:=hLR.row (bJ (2*K) E) (D:=D) (by omega)
   subst hv
   have ht2:=xe ⟨_,hRow⟩ (Nat.le_refl _) (by omega) (by omega)
   have HRW:Hid (fa D (EY (2*K) E) wr w.heap.size wr.heap.size (zss.map tr) ⟨q,ls.length,cap⟩ ls∧Below w.heap.size w wr):=⟨hRow,hB⟩
   simp only at ht2
   rw[hel] at ht2 ⊢
   clear hRow hLR hB G
   go_wp2_with fail
   go_fit ht2
   rintro e w1 ⟨rfl,hb1⟩
   have HR':Hid (OrP D (zss.map tr) (2*K) E w (.returned (.slice q (aD (zss.map tr)) (aD (zss.map tr)))) w1):=A6 HRW.out.1 HRW.out.2 hb1
   clear hb1 ht2
   generalize aD (zss.map tr)=m at *
   go_wp2
   go_ret
   exact HR'.out
theorem eC(w:World)(p:Option Addr)(n nc:Nat)(hn:n≤1000000):
  Calls Tryz.prog 32 #[.slice p n nc] w fun e w'=>e=.returned (.int .i64 ((n:Int)-1))∧w'=w:=by
 have v1:IntKind.i64.wrap ((n:Int)-1)=(n:Int)-1:=by rw[IntKind.wrap_i64];omega
 go_enter Tryz.func32,Tryz.ntmps32
 go_wp2
 go_ret
 exact⟨by simp[go_sem,v1],rfl⟩
theorem mI{w w':World}{a:Addr}{v:Value}(hb:Below w.heap.size w w')(h:w.cell? a=some v):w'.cell? a=some v:=by
 rw[hb.cell (block_lt_of_cell h)]
 exact h
theorem ox{w:World}{B T K E D:Nat}{zss:List (List Int)}{h:Hdr}(H:HR D (EZ K E) w B T zss h)(hT:T≤w.heap.size)(hD:D≤1000000)(hE:E≤1000000):
  Calls Tryz.prog 51 #[.slice h.p h.n h.c] w fun e w'=>e=.returned (.int .i64 ((aD zss:Int)-1))∧Below w.heap.size w w':=by
 have ht:=lJ H hT hD hE
 have hl:aD zss≤1000000:=by
  obtain⟨hs,k⟩:=H
  have h1:=ee zss
  have h2:=k.tl
  have h3:=k.few
  omega
 obtain⟨p,n,nc⟩:=h
 simp only at ht ⊢
 clear H hT
 generalize aD zss=m at *
 have v1:IntKind.i64.wrap ((m:Int)-1)=(m:Int)-1:=by rw[IntKind.wrap_i64];omega
 go_enter Tryz.func51,Tryz.ntmps51
 go_wp2_with fail
 go_fit ht
 rintro e w1 ⟨rfl,hb⟩
 clear ht
 go_wp2
 go_ret
 exact⟨by simp[go_sem,v1],hb⟩
def dS(zss:List (List Int)):Int:=zss.foldl (fun m z=>max m ((ad z:Int)-1)) (-1)
def fS(zss:List (List Int)):Nat:=zss.foldl (fun m z=>max m (pb z)) 0
theorem yH(zss:List (List Int))(j:Nat)(h:j<zss.length):dS (zss.take (j+1))=max (dS (zss.take j)) ((ad (gt zss j):Int)-1):=by
 unfold dS
 rw[List.take_succ_eq_append_getElem h,List.foldl_append]
 simp[gt,h]
theorem yG(zss:List (List Int))(j:Nat)(h:j<zss.length):fS (zss.take (j+1))=max (fS (zss.take j)) (pb (gt zss j)):=by
 unfold fS
 rw[List.take_succ_eq_append_getElem h,List.foldl_append]
 simp[gt,h]
def oz(zss:List (List Int)):List (List Int):=(zss.take (aD zss)).map tr
theorem yU(w:World)(p:Option Addr)(nc:Nat):
  Calls Tryz.prog 81 #[.slice p 0 nc,.int .i64 (-1)] w fun e w'=>e=.returned (.slice none 0 0)∧w'=w:=by
 go_enter Tryz.func81,Tryz.ntmps81
 go_wp2
 go_ret
 exact⟨rfl,rfl⟩
theorem wV{w:World}{B T N E D:Nat}{l:List (List Int)}{h:Hdr}(H:HR D (EY N E) w B T l h)(hD:D≤1000):
  Calls Tryz.prog 79 #[.slice h.p h.n h.c] w fun e w'=>∃hd,e=.returned (Hdr.val hd)∧EY N E w B T (gt l (l.length-1)) hd∧w'=w:=by
 have hl:l.length=h.n∧h.n≤D:=by obtain⟨_,k⟩:=H;exact⟨k.tl,k.few⟩
 rw[hl.1]
 have hat:=fun i hi=>s8 H i hD hi
 have HN:Hid (h.n=0→EY N E w B T (gt l (h.n-1)) ⟨none,0,0⟩):=fun h0=>by
  rw[dM _ _ (by omega)]
  exact yb N E w B T
 obtain⟨p,n,nc⟩:=h
 have hn:=hl.2
 simp only at hat hn HN ⊢
 clear H hl
 rcases Nat.eq_zero_or_pos n with h0|h0
 ·subst h0
  go_enter Tryz.func79,Tryz.ntmps79
  go_wp2_with fail
  go_fit (yU w p nc)
  rintro e w1 ⟨rfl,hw⟩
  subst w1
  go_wp2
  go_ret
  exact⟨⟨none,0,0⟩,rfl,HN.out (by trivial),rfl⟩
 ·obtain⟨i,rfl⟩:∃i,n=i+1:=⟨n-1,by omega⟩
  have v1:wrap64 ((i:Int)+1-1)=(i:Int):=by unfold wrap64;omega
  have hat':=hat i (by omega)
  clear hat
  go_enter Tryz.func79,Tryz.ntmps79
  go_wp2_with fail
  go_fit hat'
  rintro e w1 ⟨⟨p2,n2,nc2⟩,rfl,he,hw⟩
  subst w1
  have HE:Hid (EY N E w B T (gt l (i+1-1)) ⟨p2,n2,nc2⟩):=he
  clear he hat'
  simp only[Hdr.val]
  go_wp2
  go_ret
  exact⟨⟨p2,n2,nc2⟩,rfl,HE.out,rfl⟩
def l4(s:Bool)(xs:List Int)(w:World)(e:Ending)(w':World):Prop:=
 ∃p' n' nc',e=.returned (.agg #[.bool s,.slice p' n' nc'])∧AI w' p' n' nc' (xs.take 24)∧n'≤24∧az w.heap.size p'∧Below w.heap.size w w'
theorem zw(s:Bool)(b off n nc k:Nat)(xs:List Int)(w:World)(hl:xs.length=n)(hnc:n≤nc)(hb:nc≤maxLen)(hX:Rd w (some ⟨b,off,none⟩) .u32 xs)(hU:U32 xs)(hk:k=min n 24)(hk0:0<k):
  Calls Tryz.prog 25 #[.agg #[.bool s,.slice (some ⟨b,off,none⟩) n nc]] w (l4 s xs w):=by
 have hb':=hb
 unfold maxLen at hb'
 obtain⟨i0,hi,hzz⟩:=Option.map_eq_some_iff.1 nm
 simp only[Prod.mk.injEq] at hzz
 obtain⟨hz0,hz1,hz2⟩:=hzz
 have HI:Hid (Tryz.prog.info? 132=some i0∧i0.zero=some (.int .u32 0)∧i0.size=1∧i0.bytes=4):=⟨hi,hz0,hz1,hz2⟩
 clear hi hz0 hz1 hz2
 have HX:Hid (k=min n 24):=hk
 clear hk
 by_cases hn:24<n
 ·have hn':24<(n:Int):=by omega
  have h24:(24:Int)≤(nc:Int):=by omega
  have h24n:24≤nc:=by omega
  have h24m:(24:Int)≤(n:Int):=by omega
  obtain rfl:k=24:=by have:=HX.out;omega
  go_enter Tryz.func25,Tryz.ntmps25
  go_wp2
  have hb1:Bx ((w.alloc (.cells #[.bool s,.slice (some ⟨b,off,none⟩) n nc] 24)).alloc (.cells #[.bool false,.slice none 0 0] 24)) w.heap.size (.bool s) (.slice (some ⟨b,off,none⟩) n nc):=(Bx.new _ _ _ rfl).alloc _
  have hb2:Bx ((w.alloc (.cells #[.bool s,.slice (some ⟨b,off,none⟩) n nc] 24)).alloc (.cells #[.bool false,.slice none 0 0] 24)) (w.heap.size+1) (.bool false) (.slice none 0 0):=Bx.new _ _ _ (World.size_alloc ..).symm
  have hbw:Below w.heap.size w ((w.alloc (.cells #[.bool s,.slice (some ⟨b,off,none⟩) n nc] 24)).alloc (.cells #[.bool false,.slice none 0 0] 24)):=((Below.refl _ _).alloc (Nat.le_refl _) _).alloc (by simp) _
  have hsz:((w.alloc (.cells #[.bool s,.slice (some ⟨b,off,none⟩) n nc] 24)).alloc (.cells #[.bool false,.slice none 0 0] 24)).heap.size=w.heap.size+1+1:=by simp
  generalize ((w.alloc (.cells #[.bool s,.slice (some ⟨b,off,none⟩) n nc] 24)).alloc (.cells #[.bool false,.slice none 0 0] 24))=W at *
  have HS:Hid (W.heap.size=w.heap.size+1+1):=hsz
  clear hsz
  have k0:=hb1.c0
  have k1:=hb1.c1
  obtain⟨hi,hz0,hz1,hz2⟩:=HI.out
  have hsrc:∀j v,((xs.take 24).map (Value.int .u32))[j]?=some v→W.drew.cell? ((⟨b,off,none⟩:Addr).add j)=some v:=by
   obtain⟨b',off',hp,hc⟩:=((hX.below hbw).take 24).drew (by simp;omega)
   cases hp
   exact Rd.src hc
  go_region_held3 (fun w'=>w'.cell? ⟨w.heap.size,0,none⟩=some (.bool s)∧w'.cell? ⟨w.heap.size,1,none⟩=some (.slice (some ⟨b,off,none⟩) n nc)) (first|(simp[go_sem, *];done)|exact dO (by assumption) (by assumption))
   (first
    |(refine step_append_lies _ rfl _ _ 22 rfl w.heap.size 132 i0 (.int .u32 0) 1 4 Tryz.underlying22 hi hz0 hz1 hz2 rfl (by decide) (.slice none 0 0) 0 [] rfl (World.ownsRow_nil _ _ _ _) ⟨b,off,none⟩ 24 nc ((xs.take 24).map (Value.int .u32)) rfl (by simp;omega) ?_ (kx _ _) (by decide) (by unfold maxLen;decide) (by decide) hbw.size _ rfl ?_;exact hsrc;intro g cap w3 hown3 hgrow3 hat3 hlt3;have hb3:=jA (w:=W.drew) hgrow3;obtain⟨c0,c1,f0,f1⟩:=bM (aC hb3) hb2.c0 hb2.c1 hb2.f0 hb2.f1))
  go_wp2
  obtain rfl:g=W.heap.size:=by rcases hat3 with h|h;cases h;exact h
  have hr3:Rd w3 (some ⟨W.heap.size,0,none⟩) .u32 (xs.take 24):=fX (by simpa using hown3)
  have hs3:=HS.out
  have hcp:24≤cap∧cap≤maxLen:=by
   rcases hown3.2 with ⟨h,_⟩|⟨g',cap',cur,h,_,_,h4,h5,_⟩
   ·cases h
   ·cases h;exact⟨by omega,h5⟩
  refine bodyPost_ret (v:=.agg #[.bool s,.slice (some ⟨W.heap.size,0,none⟩) 24 cap]) (by simp[results,Tryz.results25,go_sem,c0,c1]) rfl ?_
  refine⟨_,24,cap,rfl,⟨by simp;omega,hcp.1,hcp.2,by omega,?_,aj hU 24⟩,by omega,aL hbw.size,?_⟩
  ·skip
   exact(hr3.ah _ _ (fun a ha=>by cases ha;simp;omega)).ah _ _ (fun a ha=>by cases ha;simp;omega)
  ·exact(((hbw.trans ((aC hb3).mono hbw.size)).setCell (by simp) _).setCell (by simp) _)
 ·have hn':¬24<(n:Int):=by omega
  obtain rfl:k=n:=by have:=HX.out;omega
  have hkc:(k:Int)≤(nc:Int):=by omega
  have hk24:k≤24:=by omega
  go_enter Tryz.func25,Tryz.ntmps25
  go_wp2
  have hb1:Bx ((w.alloc (.cells #[.bool s,.slice (some ⟨b,off,none⟩) k nc] 24)).alloc (.cells #[.bool false,.slice none 0 0] 24)) w.heap.size (.bool s) (.slice (some ⟨b,off,none⟩) k nc):=(Bx.new _ _ _ rfl).alloc _
  have hb2:Bx ((w.alloc (.cells #[.bool s,.slice (some ⟨b,off,none⟩) k nc] 24)).alloc (.cells #[.bool false,.slice none 0 0] 24)) (w.heap.size+1) (.bool false) (.slice none 0 0):=Bx.new _ _ _ (World.size_alloc ..).symm
  have hbw:Below w.heap.size w ((w.alloc (.cells #[.bool s,.slice (some ⟨b,off,none⟩) k nc] 24)).alloc (.cells #[.bool false,.slice none 0 0] 24)):=((Below.refl _ _).alloc (Nat.le_refl _) _).alloc (by simp) _
  have hsz:((w.alloc (.cells #[.bool s,.slice (some ⟨b,off,none⟩) k nc] 24)).alloc (.cells #[.bool false,.slice none 0 0] 24)).heap.size=w.heap.size+1+1:=by simp
  generalize ((w.alloc (.cells #[.bool s,.slice (some ⟨b,off,none⟩) k nc] 24)).alloc (.cells #[.bool false,.slice none 0 0] 24))=W at *
  have HS:Hid (W.heap.size=w.heap.size+1+1):=hsz
  clear hsz
  have k0:=hb1.c0
  have k1:=hb1.c1
  obtain⟨hi,hz0,hz1,hz2⟩:=HI.out
  have hsrc:∀j v,((xs.take k).map (Value.int .u32))[j]?=some v→W.drew.cell? ((⟨b,off,none⟩:Addr).add j)=some v:=by
   obtain⟨b',off',hp,hc⟩:=((hX.below hbw).take k).drew (by simp;omega)
   cases hp
   exact Rd.src hc
  go_region_held3 (fun w'=>w'.cell? ⟨w.heap.size,0,none⟩=some (.bool s)∧w'.cell? ⟨w.heap.size,1,none⟩=some (.slice (some ⟨b,off,none⟩) k nc)) (first|(simp[go_sem, *];done)|exact dO (by assumption) (by assumption))
   (first
    |(refine step_append_lies _ rfl _ _ 22 rfl w.heap.size 132 i0 (.int .u32 0) 1 4 Tryz.underlying22 hi hz0 hz1 hz2 rfl (by decide) (.slice none 0 0) 0 [] rfl (World.ownsRow_nil _ _ _ _) ⟨b,off,none⟩ k nc ((xs.take k).map (Value.int .u32)) rfl (by simp;omega) ?_ (kx _ _) hk0 (by unfold maxLen;omega) (by omega) hbw.size _ rfl ?_;exact hsrc;intro g cap w3 hown3 hgrow3 hat3 hlt3;have hb3:=jA (w:=W.drew) hgrow3;obtain⟨c0,c1,f0,f1⟩:=bM (aC hb3) hb2.c0 hb2.c1 hb2.f0 hb2.f1))
  go_wp2
  obtain rfl:g=W.heap.size:=by rcases hat3 with h|h;cases h;exact h
  have hr3:Rd w3 (some ⟨W.heap.size,0,none⟩) .u32 (xs.take k):=fX (by simpa using hown3)
  have hs3:=HS.out
  have hcp:k≤cap∧cap≤maxLen:=by
   rcases hown3.2 with ⟨h,_⟩|⟨g',cap',cur,h,_,_,h4,h5,_⟩
   ·cases h
   ·cases h;exact⟨by omega,h5⟩
  refine bodyPost_ret (v:=.agg #[.bool s,.slice (some ⟨W.heap.size,0,none⟩) k cap]) (by simp[results,Tryz.results25,go_sem,c0,c1]) rfl ?_
  refine⟨_,k,cap,rfl,⟨by simp;omega,hcp.1,hcp.2,by omega,?_,aj hU 24⟩,by omega,aL hbw.size,?_⟩
  ·rw[List.take_of_length_le (l:=xs) (i:=k) (by omega)] at hr3
   rw[List.take_of_length_le (l:=xs) (i:=24) (by omega)]
   exact(hr3.ah _ _ (fun a ha=>by cases ha;simp;omega)).ah _ _ (fun a ha=>by cases ha;simp;omega)
  ·exact(((hbw.trans ((aC hb3).mono hbw.size)).setCell (by simp) _).setCell (by simp) _)
theorem rK(ty:TypeId)(q:Option Addr)(c:Nat)(w:World):(Builtin.append_ #[22,22] ty #[.slice none 0 0,.slice q 0 c]).run Tryz.prog w=.ok (.slice none 0 0) w:=by
 obtain⟨i0,hi,hzz⟩:=Option.map_eq_some_iff.1 nm
 cases q<;>simp[Builtin.append_,run_underlying Tryz.underlying22,sizeOf,typeInfo,hi,Builtin.lenOf,Builtin.firstCells,loadCells,loadCellsFrom]
theorem xF(s:Bool)(w:World):
  Calls Tryz.prog 25 #[.agg #[.bool s,.slice none 0 0]] w (l4 s [] w):=by
 have ha:=fun ty w=>rK ty none 0 w
 go_enter Tryz.func25,Tryz.ntmps25
 go_wp2
 have hb1:Bx ((w.alloc (.cells #[.bool s,.slice none 0 0] 24)).alloc (.cells #[.bool false,.slice none 0 0] 24)) w.heap.size (.bool s) (.slice none 0 0):=(Bx.new _ _ _ rfl).alloc _
 have hb2:Bx ((w.alloc (.cells #[.bool s,.slice none 0 0] 24)).alloc (.cells #[.bool false,.slice none 0 0] 24)) (w.heap.size+1) (.bool false) (.slice none 0 0):=Bx.new _ _ _ (World.size_alloc ..).symm
 have hbw:Below w.heap.size w ((w.alloc (.cells #[.bool s,.slice none 0 0] 24)).alloc (.cells #[.bool false,.slice none 0 0] 24)):=((Below.refl _ _).alloc (Nat.le_refl _) _).alloc (by simp) _
 generalize ((w.alloc (.cells #[.bool s,.slice none 0 0] 24)).alloc (.cells #[.bool false,.slice none 0 0] 24))=W at *
 have k0:=hb1.c0
 have k1:=hb1.c1
 have c0:=hb2.c0
 have c1:=hb2.c1
 have f0:=hb2.f0
 have f1:=hb2.f1
 go_region_held3 (fun w'=>w'.cell? ⟨w.heap.size,0,none⟩=some (.bool s)∧w'.cell? ⟨w.heap.size,1,none⟩=some (.slice none 0 0)) (first|(simp[go_sem, *];done)|exact dO (by assumption) (by assumption)) (fail)
 go_wp2
 refine bodyPost_ret (v:=.agg #[.bool s,.slice none 0 0]) (by simp[results,Tryz.results25,go_sem,c0,c1]) rfl ?_
 exact⟨none,0,0,rfl,⟨rfl,Nat.le_refl _,by unfold maxLen;decide,by decide,Rd.nil,iq⟩,by decide,c9,(hbw.drew.setCell (by simp) _).setCell (by simp) _⟩
theorem xG(s:Bool)(a:Addr)(nc:Nat)(w:World)(hb:nc≤maxLen):
  Calls Tryz.prog 25 #[.agg #[.bool s,.slice (some a) 0 nc]] w (l4 s [] w):=by
 have hb':=hb
 unfold maxLen at hb'
 have ha:=fun ty w=>rK ty (some a) nc w
 have hnc0:(0:Int)≤(nc:Int):=by omega
 go_enter Tryz.func25,Tryz.ntmps25
 go_wp2
 have hb1:Bx ((w.alloc (.cells #[.bool s,.slice (some a) 0 nc] 24)).alloc (.cells #[.bool false,.slice none 0 0] 24)) w.heap.size (.bool s) (.slice (some a) 0 nc):=(Bx.new _ _ _ rfl).alloc _
 have hb2:Bx ((w.alloc (.cells #[.bool s,.slice (some a) 0 nc] 24)).alloc (.cells #[.bool false,.slice none 0 0] 24)) (w.heap.size+1) (.bool false) (.slice none 0 0):=Bx.new _ _ _ (World.size_alloc ..).symm
 have hbw:Below w.heap.size w ((w.alloc (.cells #[.bool s,.slice (some a) 0 nc] 24)).alloc (.cells #[.bool false,.slice none 0 0] 24)):=((Below.refl _ _).alloc (Nat.le_refl _) _).alloc (by simp) _
 generalize ((w.alloc (.cells #[.bool s,.slice (some a) 0 nc] 24)).alloc (.cells #[.bool false,.slice none 0 0] 24))=W at *
 have k0:=hb1.c0
 have k1:=hb1.c1
 have c0:=hb2.c0
 have c1:=hb2.c1
 have f0:=hb2.f0
 have f1:=hb2.f1
 go_region_held3 (fun w'=>w'.cell? ⟨w.heap.size,0,none⟩=some (.bool s)∧w'.cell? ⟨w.heap.size,1,none⟩=some (.slice (some a) 0 nc)) (first|(simp[go_sem, *];done)|exact dO (by assumption) (by assumption)) (fail)
 go_wp2
 refine bodyPost_ret (v:=.agg #[.bool s,.slice none 0 0]) (by simp[results,Tryz.results25,go_sem,c0,c1]) rfl ?_
 exact⟨none,0,0,rfl,⟨rfl,Nat.le_refl _,by unfold maxLen;decide,by decide,Rd.nil,iq⟩,by decide,c9,(hbw.drew.setCell (by simp) _).setCell (by simp) _⟩
theorem uF(s:Bool)(p:Option Addr)(n nc:Nat)(xs:List Int)(w:World)(hl:xs.length=n)(hnc:n≤nc)(hb:nc≤maxLen)(hX:Rd w p .u32 xs)(hU:U32 xs)(hp:p=none→nc=0):
  Calls Tryz.prog 25 #[.agg #[.bool s,.slice p n nc]] w (l4 s xs w):=by
 rcases Nat.eq_zero_or_pos n with h|h
 ·subst h
  obtain rfl:xs=[]:=List.eq_nil_of_length_eq_zero hl
  cases p with
  |none=>rw[hp rfl];exact xF s w
  |some a=>exact xG s a nc w hb
 ·obtain⟨b,off,rfl,_⟩:=hX (by omega)
  exact zw s b off n nc (min n 24) xs w hl hnc hb hX hU rfl (by omega)
open Go.ChangeShapes Go.WideShapes Go.ChangeAt Go.RowKit Go.Joins
theorem own:ownKnob Tryz.prog.godebug=none:=by kernel_rfl
theorem laidOut:laidOutB Tryz.prog=true:=by kernel_rfl
theorem cV(w:World)(o:Obj):(w.alloc o).heap[w.heap.size]?=some o:=by unfold World.alloc;exact Array.getElem?_push_size ..
theorem Dh{w:World}{g:Nat}{s:Bool}{q:Option Addr}{n c:Nat}{ty:TypeId}(hg:w.heap[g]?=some (.cells #[.bool s,.slice q n c] ty))(o:Nat)(k:IntKind)(z:Int):w.cell? ⟨g,o,none⟩≠some (.int k z):=by
 intro h
 match o,h with
 |0,h=>simp[World.cell?,hg,go_sem] at h
 |1,h=>simp[World.cell?,hg,go_sem] at h
 |(o+2),h=>simp[World.cell?,hg,go_sem] at h
theorem RE.wP{w:World}{N:Nat}{z:Int}{e:Ent}(h:RE w N z e){g:Nat}{s:Bool}{q:Option Addr}{n c:Nat}{ty:TypeId}(hg:w.heap[g]?=some (.cells #[.bool s,.slice q n c] ty)):0<e.n→Off g e.p:=by
 intro h0 a ha e
 obtain⟨⟨ds,h1,h2,h3⟩,h4⟩:=h
 obtain⟨b,off,hp,hc⟩:=h1.rd (by rw[h1.len];exact h0)
 rw[hp] at ha
 cases ha
 dsimp only at e
 subst e
 exact Dh hg _ _ _ (hc 0 (by rw[h1.len];exact h0))
theorem PR.gset{w:World}{N:Nat}{p:Option Addr}{n nc:Nat}{es:List Ent}{zs:List Int}{g o:Nat}{u v:Value}(h:PR w N p n nc es zs)(hp:0<n→Off g p)(hq:∀j,j<n→0<(ge es j).n→Off g (ge es j).p):PR ((w.setCell ⟨g,o,none⟩ u).setCell ⟨g,o+1,none⟩ v) N p n nc es zs:=by
 refine⟨h.el,h.zl,h.cap,h.bnd,?_,fun j hj=>(h.ev j hj).eL (hq j hj)⟩
 intro hx
 have h0:=hp (by rw[←h.el];exact hx)
 exact((h.pl.ah ⟨g,o,none⟩ u h0).ah ⟨g,o+1,none⟩ v h0) hx
end Go.Proofs.YtfnkomoickanfaaGreatDoor
