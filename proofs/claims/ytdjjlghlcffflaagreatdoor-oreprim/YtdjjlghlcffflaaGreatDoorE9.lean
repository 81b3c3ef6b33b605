/- Own. -/
import Derived.Test.YtdjjlghlcffflaaGreatDoorE7
set_option linter.unusedVariables false
set_option linter.unusedSimpArgs false
set_option maxHeartbeats 8000000
set_option maxRecDepth 100000
namespace Go.Proofs.YtdjjlghlcffflaaGreatDoor.Ev
open Go.RowKit
section
variable {P:Program} {ρ:Ren} {w:World}
theorem fP(z:Array Value)(n:Nat):(Builtin.zeroCells z n).size=n*z.size:=by simp[Builtin.zeroCells]
theorem kV{G:Nat->Prop}{s s':St}{elem:TypeId}{size n nc:Nat}{vs:List LV}{xs:List Value}{rest:Array Value}{m:Nat}(hn:s.new ⟨vs,elem,some size,none⟩=some (m,s'))(hr:aV G ρ s.heap w)(hf:bg ρ s s')(hv:VRs ρ vs xs)(hl:vs.length=n*size)(hnc:n<=nc)(hrest:rest.size=(nc-n)*size):
  Ext G s s' ρ (ρ.upd m ⟨w.heap.size,0,nc⟩) w (w.drew.alloc (.cells (xs.toArray++rest) elem))/\VR (ρ.upd m ⟨w.heap.size,0,nc⟩) (.slice m 0 n (.more 0)) (.slice (some ⟨w.heap.size,0,none⟩) n nc):=by
 have hxl:=hv.length;refine⟨pt hn hr hf (xs.toArray++rest) nc rfl rfl rfl rfl ?_ ?_ ?_,?_⟩
 ·simp;omega
 ·intro i v hi
  obtain⟨x,hx,hvr⟩:=hv.get hi;refine⟨x,?_,hvr⟩;have:=(List.getElem?_eq_some_iff.1 hx).1;rw[Array.getElem?_append_left (by simpa using this)]
  simpa using hx
 ·intro sz e
  cases e
  simp only[Array.size_append,List.size_toArray,hrest];rw[hxl,hl,<-Nat.add_mul];congr 1;omega
 ·have:=VR.more (ρ:=ρ.upd m ⟨w.heap.size,0,nc⟩) (n:=m) (off:=0) (len:=n) (u:=0) (p:=⟨w.heap.size,0,nc⟩) (by simp[Ren.upd])
  simpa using this
theorem dt{s s':St}{n off:Nat}{vs:List LV}(hw:WF s)(h:eG n off vs s=some s'):aA s s':=by
 unfold eG at h
 split at h
 ·rename_i b hbc
  obtain⟨hb,hlp⟩:=pB hbc;obtain⟨_,h⟩:=ay h;split at h
  ·cases h
   have hl:Live s.heap n:=by unfold Live;rw[hb];simp
   exact fm _ (Nat.lt_of_lt_of_le (cL hw hl) hw.lt) hl (cL hw hl)
  ·cases h
 ·cases h
theorem eZ{s s':St}{size n:Nat}{u:LV}{cs:List LV}(h:lY s size n u=some (cs,s')):aA s s':=by
 unfold lY at h
 split at h
 ·rename_i m off ln c
  split at h
  ·rename_i b s1 hl
   obtain⟨hb,rfl,hlp⟩:=look_eq hl
   cases hrd:dq b.cells off (n*size) with
   |none=>rw[hrd] at h;cases h
   |some cs0=>rw[hrd] at h;cases h;exact cA s m
  ·cases h
 ·cases h;exact aA.refl s
 ·cases h;exact aA.refl s
 ·cases h
theorem yp{G:Nat->Prop}{s s':St}{ts:List TypeId}{ty:TypeId}{us:List LV}{xs:List Value}{r:R}(h:ki P ts us s=some (r,s'))(hx:VRs ρ us xs)(hw:WF s)(hG:Gok G s')(hr:aV G ρ s.heap w)(hf:bg ρ s s'):
  aA s s'/\∃v,r=.val v/\ke P G s s' ρ w v (Builtin.append_ ts.toArray ty xs.toArray):=by
 unfold ki at h
 split at h
 ·rename_i t0 t1 sl x
  obtain _|⟨hsl,_|⟨hxx,_|_⟩⟩:=hx
  rename_i ysl yx
  split at h
  ·rename_i elem d1 n he hu1 hlen
   split at h
   ·cases h
   ·rename_i hd1
    split at h
    ·rename_i size bytes z hsz hby hz
     obtain⟨h1,h⟩:=ay h;simp only[Bool.and_eq_true] at h1
     obtain⟨⟨⟨hb1,hs0⟩,hn1⟩,hz1⟩:=h1;have hb1:=Nat.le_of_ble_eq_true hb1;have hs0:0<size:=Nat.le_of_ble_eq_true hs0;have hn1:=Nat.le_of_ble_eq_true hn1;have hz1:=Nat.eq_of_beq_eq_true hz1;obtain⟨zx,hzx,hzv⟩:=gG hz;have hzl:zx.cells.size=size:=by
      have:=(hzv ρ).cells.length;simp at this
      omega
     have hu0:=fi he;split at h
     ·cases h
     ·rename_i new s1 hfst
      obtain⟨h2,h⟩:=ay h;simp only[Bool.and_eq_true] at h2
      have hnl:=Nat.eq_of_beq_eq_true h2.1;have hd1':∀k,d1≠.int k:=fun k e=>hd1 k e
      have step:∀{s2:St},aA s1 s2->Gok G s2->bg ρ s s2->aA s s1/\Ext G s s1 ρ ρ w w/\s1.heap=s.heap/\s1.next=s.next/\∃ys:List Value,(∀w',w'.heap=w.heap->(Builtin.firstCells size n yx).run P w'=.ok ys.toArray w')/\VRs ρ new ys:=fun m2 g2 _=>oe hfst hxx hw (g2.back m2) hr
      cases sl with
      |nilSlice=>
       cases hsl
       cases hn0:n.beq 0 with
       |true=>
        rw[hn0] at h
        cases h
        have hn0:=Nat.eq_of_beq_eq_true hn0;subst hn0;obtain⟨m1,e1,hh,hnx,ys,hys,hvy⟩:=step (aA.refl s') hG hf;have hy0:ys=[]:=by
         have:=hvy.length;rw[hnl] at this
         simpa using this
        subst hy0;refine⟨m1,_,rfl,ρ,w,.slice none 0 0,?_,e1,.nilSlice⟩;have:=gd (P:=P) (w:=w) (w':=w) (ty:=ty) (base:=none) (len:=0) (cap:=0) hu0 hsz hu1 hd1' (fun w=>fI hlen hxx w) (hys w rfl) (Nat.le_refl _) (fun a e=>by cases e) (fun _=>rfl)
        simpa using this
       |false=>
        rw[hn0] at h
        simp only[cond_false] at h
        split at h
        ·rename_i m s2 hnew
         cases h
         have hn0:n≠0:=fun e=>by subst e;cases hn0
         obtain⟨m1,e1,hh,hnx,ys,hys,hvy⟩:=step (bG hnew) hG hf;obtain⟨nc,hnc,hrun⟩:=run_append_grow (P:=P) (w:=w) (ty:=ty) (base:=none) (len:=0) (cap:=0) (os:=[]) hu0 hsz hby hb1 hzx hu1 hd1' (fun w=>fI hlen hxx w) rfl (hys w.drew rfl) (by omega) hn1 (by omega)
         have hf1:bg ρ s1 s':=fun k a b=>hf k (by omega) b
         obtain⟨e2,hv2⟩:=kV (n:=n) (nc:=nc) (rest:=Builtin.zeroCells zx.cells (nc-n)) hnew e1.rep hf1 hvy (by omega) (by omega) (by rw[fP,hzl])
         refine⟨m1.trans (bG hnew),_,rfl,_,_,_,?_,e1.trans hw m1 (bG hnew) e2,hv2⟩;simpa using hrun
        ·cases h
      |slice m off len c=>
       obtain⟨hl1,h⟩:=ay h;have hl1:=Nat.le_of_ble_eq_true hl1;obtain⟨p,cap,hp,rfl,hk1,hk2⟩:=kG hsl
       cases c with
       |known cap0=>
        have hcap:=hk1 cap0 rfl;subst hcap;dsimp only at h
        cases hroom:(len+n).ble cap with
        |true=>
         rw[hroom] at h
         simp only[cond_true] at h
         have hroom:=Nat.le_of_ble_eq_true hroom;split at h
         ·rename_i s2 hst
          cases h
          have hm2:aA s1 s':=by
           exact dt ((eZ hfst).wf hw) hst
          obtain⟨m1,e1,hh,hnx,ys,hys,hvy⟩:=step hm2 hG hf;obtain⟨_,w',hrun,e2⟩:=fZ (P:=P) hst hp hvy (m1.wf hw) hG e1.rep;refine⟨m1.trans hm2,_,rfl,ρ,w',_,?_,e1.trans hw m1 hm2 e2,.known hp⟩;exact gd hu0 hsz hu1 hd1' (fun w=>fI hlen hxx w) (hys w rfl) hroom (fun a e=>by cases e;rw[Addr.add_lit,Nat.add_assoc];exact hrun) (fun e=>by cases e)
         ·cases h
        |false=>
         rw[hroom] at h
         simp only[cond_false] at h
         have hroom:cap<len+n:=by
          rcases Nat.lt_or_ge cap (len+n) with h9|h9
          ·exact h9
          ·rw[Nat.ble_eq_true_of_le h9] at hroom;cases hroom
         split at h
         ·cases h
         ·rename_i b s2 hlk
          split at h
          ·cases h
          ·rename_i old hold
           split at h
           ·rename_i m' s3 hnew
            cases h
            obtain⟨hb,rfl,hlp⟩:=look_eq hlk;have hm2:=(cA s1 m).trans (bG hnew);obtain⟨m1,e1,hh,hnx,ys,hys,hvy⟩:=step hm2 hG hf;have hw1:=m1.wf hw;have hGm:=gR hw1 (by unfold Live;rw[hb];simp) (hG.back (bG hnew))
            obtain⟨q,ds,hrep⟩:=(e1.rep.rep m b hGm hb).cells hlp;have:=hrep.at_;rw[hp] at this;cases this
            obtain⟨os,_,hvo,hol⟩:=iy (P:=P) hrep hold;obtain⟨os',hro,hvo',hol'⟩:=iy (P:=P) (hrep.eN (σ:=ρ) (w':=w.drew) (fun _ _ h=>h) rfl) hold
            obtain⟨nc,hnc,hrun⟩:=run_append_grow (P:=P) (w:=w) (ty:=ty) (base:=some ⟨p.blk,p.base+off,none⟩) (len:=len) (cap:=cap) (os:=os') hu0 hsz hby hb1 hzx hu1 hd1' (fun w=>fI hlen hxx w) hro (hys w.drew rfl) hroom hn1 hl1
            have e2:=gO m e1.rep;have hf1:bg ρ (s1.bJ m) s':=fun k a b=>hf k (by rw[dk] at a;omega) b
            have hol2:=hvo'.length;obtain⟨e3,hv3⟩:=kV (n:=len+n) (nc:=nc) (rest:=Builtin.zeroCells zx.cells (nc-(len+n))) hnew e2.rep hf1 (hvo'.append hvy) (by simp;rw[Nat.add_mul];omega) hnc (by rw[fP,hzl])
            exact⟨m1.trans hm2,_,rfl,_,_,_,hrun,e1.trans hw m1 hm2 (e2.trans hw1 (cA s1 m) (bG hnew) e3),hv3⟩
           ·cases h
       |more u=>
        have hcap:=hk2 u rfl;dsimp only at h
        split at h
        ·cases h
        ·rename_i b s2 hlk
         obtain⟨hb,rfl,hlp⟩:=look_eq hlk;have hl:Live s1.heap m:=by unfold Live;rw[hb];simp
         have hw1:WF s1:=(eZ hfst).wf hw;have h9:m<1000000000:=Nat.lt_of_lt_of_le (cL hw1 hl) hw1.lt;split at h
         ·cases h
         ·rename_i sz hsz2
          obtain⟨h3,h⟩:=ay h;simp only[Bool.and_eq_true] at h3
          obtain⟨⟨⟨h3,h4⟩,h5⟩,h6⟩:=h3;have h6:0<len+n:=Nat.le_of_ble_eq_true h6;have h3:=Nat.eq_of_beq_eq_true h3;have h4:=Nat.eq_of_beq_eq_true h4;have h5:=Nat.eq_of_beq_eq_true h5;subst h3
          cases hroom:(off+(len+n)*sz).ble b.cells.length with
          |true=>
           rw[hroom] at h
           simp only[cond_true] at h
           have hroom:=Nat.le_of_ble_eq_true hroom;split at h
           ·rename_i s2 hst
            cases h
            have hm2:aA s1 s':=by
             exact dt hw1 hst
            have hGm:G m:=by
             unfold eG at hst
             split at hst
             ·obtain⟨_,hst⟩:=ay hst
              split at hst
              ·cases hst
               exact l7 hw1 hl hG
              ·cases hst
             ·cases hst
            obtain⟨m1,e1,hh,hnx,ys,hys,hvy⟩:=step hm2 hG hf;obtain⟨q,ds,hrep⟩:=(e1.rep.rep m b hGm hb).cells hlp;have:=hrep.at_;rw[hp] at this;cases this
            have hmo:=hrep.more sz hsz2;have hfi:=hrep.fit;have hcr:len+n<=cap:=by
             rw[hcap];have a1:(u+(len+n))*sz<=p.cap*sz:=by rw[Nat.add_mul];omega
             have a2:=Nat.le_of_mul_le_mul_right a1 hs0;omega
            obtain⟨_,w',hrun,e2⟩:=fZ (P:=P) hst hp hvy hw1 hG e1.rep;refine⟨m1.trans hm2,_,rfl,ρ,w',.slice (some ⟨p.blk,p.base+off,none⟩) (len+n) cap,?_,e1.trans hw m1 hm2 e2,?_⟩
            ·exact gd hu0 hsz hu1 hd1' (fun w=>fI hlen hxx w) (hys w rfl) hcr (fun a e=>by cases e;rw[Addr.add_lit,Nat.add_assoc];exact hrun) (fun e=>by cases e)
            ·rw[hcap];exact .more hp
           ·cases h
          |false=>
           rw[hroom] at h
           simp only[cond_false] at h
           split at h
           ·cases h
           ·rename_i old hold
            split at h
            ·rename_i m' s3 hnew
             cases h
             have hm2:=uO hw1 hl hnew;obtain⟨m1,e1,hh,hnx,ys,hys,hvy⟩:=step hm2 hG hf;have hGm:G m:=l7 hw1 hl (hG.back (bG hnew));obtain⟨q,ds,hrep⟩:=(e1.rep.rep m b hGm hb).cells hlp;have:=hrep.at_;rw[hp] at this;cases this
             have hmo:=hrep.more sz hsz2;have hfi:=hrep.fit;obtain⟨hle,hout⟩:=iD hold;have hyl:=hvy.length;have hf1:bg ρ s1 s':=fun k a b=>hf k (by omega) b
             rcases Nat.lt_or_ge cap (len+n) with hgrow|hin
             ·obtain⟨os',hro,hvo',hol'⟩:=iy (P:=P) (hrep.eN (σ:=ρ) (w':=w.drew) (fun _ _ h=>h) rfl) hold
              obtain⟨nc,hnc,hrun⟩:=run_append_grow (P:=P) (w:=w) (ty:=ty) (base:=some ⟨p.blk,p.base+off,none⟩) (len:=len) (cap:=cap) (os:=os') hu0 hsz hby hb1 hzx hu1 hd1' (fun w=>fI hlen hxx w) hro (hys w.drew rfl) hgrow hn1 hl1
              have e2:=DD hw1 hl e1.rep;have hf2:bg ρ (s1.set m none) s':=fun k a b=>hf k (by rw[cH] at a;omega) b
              have hol2:=hvo'.length;obtain⟨e3,hv3⟩:=kV (n:=len+n) (nc:=nc) (rest:=Builtin.zeroCells zx.cells (nc-(len+n))) hnew e2.rep hf2 (hvo'.append hvy) (by simp;rw[Nat.add_mul];omega) hnc (by rw[fP,hzl])
              exact⟨m1.trans hm2,_,rfl,_,_,_,hrun,e1.trans hw m1 hm2 (e2.trans hw1 (fm none h9 hl (cL hw1 hl)) (bG hnew) e3),hv3⟩
             ·have hu9:u+(len+n)<=p.cap:=by omega
              have hu8:(u+(len+n))*sz<=p.cap*sz:=Nat.mul_le_mul_right _ hu9;rw[Nat.add_mul,Nat.add_mul] at hu8
              have hone:∀y∈ys,Value.oneCell' y=true:=by
               intro y hym;obtain⟨i,hi⟩:=List.mem_iff_getElem?.1 hym;have hil:i<ys.length:=(List.getElem?_eq_some_iff.1 hi).1;have hv:new[i]?=some (new[i]'(by omega)):=List.getElem?_eq_getElem _
               obtain⟨y',hy',hvr⟩:=hvy.get hv;rw[hi] at hy'
               cases hy'
               have q2:=List.all_eq_true.1 h2.2 _ (List.getElem_mem (show i<new.length by omega))
               have q3:=hvr.one;rw[q2] at q3
               cases y<;>first|rfl|cases q3
              have hst:=run_storeCells_at P p.blk (p.base+off+len*sz) b.elem ys 0 ds w hrep.heap (by omega) hone
              have hhp:=setRow_heap w p.blk ds (ds.toList.take (p.base+off+len*sz+0)++ys++ds.toList.drop (p.base+off+len*sz+0+ys.length)).toArray b.elem (0,0) hrep.heap;have hsz3:((ds.toList.take (p.base+off+len*sz+0)++ys++ds.toList.drop (p.base+off+len*sz+0+ys.length)).toArray).size=ds.size:=by simp;omega
              have e2:Ext G s1 s' ρ (ρ.upd m' ⟨p.blk,p.base+off,p.cap-u⟩) w _:=DE (p:=p) (q:=⟨p.blk,p.base+off,p.cap-u⟩) (cs:=(ds.toList.take (p.base+off+len*sz+0)++ys++ds.toList.drop (p.base+off+len*sz+0+ys.length)).toArray) (w':=w.setRow p.blk (ds.toList.take (p.base+off+len*sz+0)++ys++ds.toList.drop (p.base+off+len*sz+0+ys.length)).toArray) hnew hw1 hl hGm hp e1.rep hf1 rfl (by dsimp only;rw[<-h5];exact hhp) (fun k hk=>by simp only[World.setRow,Array.getElem?_modify];rw[if_neg (by omega)]) (by simp[World.setRow]) rfl rfl rfl (fun i v hi=>by
                dsimp only at hi ⊢
                by_cases hi2:i<len*sz
                ·rw[List.getElem?_append_left (by rw[hout];simp;omega),hout,List.getElem?_take,if_pos hi2,List.getElem?_drop] at hi
                 obtain⟨y,hy,hvr⟩:=hrep.val _ v hi;refine⟨y,?_,hvr⟩;rw[List.getElem?_toArray,List.append_assoc,List.getElem?_append_left (by simp;omega),List.getElem?_take,if_pos (by omega),Nat.add_assoc]
                 simpa using hy
                ·have hol3:old.length=len*sz:=by rw[hout];simp;omega
                 rw[List.getElem?_append_right (by omega),hol3] at hi
                 have hi3:i-len*sz<new.length:=(List.getElem?_eq_some_iff.1 hi).1;obtain⟨y,hy,hvr⟩:=hvy.get hi;refine⟨y,?_,hvr⟩;rw[List.getElem?_toArray,List.append_assoc,List.getElem?_append_right (by simp;omega),List.getElem?_append_left (by simp;omega),<-hy]
                 congr 1;simp;omega) (by
                rw[hsz3];have hol3:old.length=len*sz:=by rw[hout];simp;omega
                simp only[List.length_append];rw[hol3,hnl];omega) (fun sz' e=>by
                cases e
                rw[hsz3,hmo];dsimp only;rw[Nat.sub_mul];omega)
              refine⟨m1.trans hm2,_,rfl,_,_,.slice (some ⟨p.blk,p.base+off,none⟩) (len+n) cap,?_,e1.trans hw m1 hm2 e2,?_⟩
              ·exact gd hu0 hsz hu1 hd1' (fun w=>fI hlen hxx w) (hys w rfl) hin (fun a e=>by cases e;rw[Addr.add_lit];exact hst) (fun e=>by cases e)
              ·have:=VR.more (ρ:=ρ.upd m' ⟨p.blk,p.base+off,p.cap-u⟩) (n:=m') (off:=0) (len:=len+n) (u:=0) (p:=⟨p.blk,p.base+off,p.cap-u⟩) (by simp[Ren.upd])
               rw[hcap];simpa using this
            ·cases h
      |_=>cases h
    ·cases h
  ·cases h
 ·cases h
theorem BG{G:Nat->Prop}{s s':St}{ts:List TypeId}{ty:TypeId}{us:List LV}{xs:List Value}{r:R}(h:nZ P ts us s=some (r,s'))(hx:VRs ρ us xs)(hw:WF s)(hG:Gok G s')(hr:aV G ρ s.heap w):
  aA s s'/\∃v,r=.val v/\ke P G s s' ρ w v (Builtin.copy_ ts.toArray ty xs.toArray):=by
 unfold nZ at h
 split at h
 ·rename_i t0 ts dst src
  obtain _|⟨hd,_|⟨hs,_|_⟩⟩:=hx
  rename_i yd ys
  split at h
  ·rename_i elem ls ld he hls hld
   split at h
   ·rename_i size hsz
    split at h
    ·cases h
    ·rename_i cs s1 hf
     have hu0:=fi he
     cases dst with
     |slice m off len c=>
      dsimp only at h;split at h
      ·rename_i s2 hst
       cases h
       have hm1:=eZ hf;have hm2:=dt (hm1.wf hw) hst;obtain⟨_,e1,_,_,zs,hzs,hvz⟩:=oe (P:=P) hf hs hw (hG.back hm2) hr;obtain⟨p,cap,hp,rfl,_,_⟩:=kG hd;obtain⟨_,w',hrun,e2⟩:=fZ (P:=P) hst hp hvz (hm1.wf hw) hG e1.rep;have hld':ld=len:=by cases hld;rfl
       subst hld';refine⟨hm1.trans hm2,_,rfl,ρ,w',.int .i64 (Nat.min ls ld),?_,e1.trans hw hm1 hm2 e2,.int _ _⟩;simp[Builtin.copy_,run_underlying hu0,fI (P:=P) hls hs,ct hsz,hzs w rfl,hrun,goInt]
      ·cases h
     |nilSlice=>
      cases h
      have hm1:=eZ hf;obtain⟨_,e1,_,_,zs,hzs,hvz⟩:=oe (P:=P) hf hs hw hG hr
      cases hd
      cases hld
      refine⟨hm1,_,rfl,ρ,w,.int .i64 (Nat.min ls 0),?_,e1,.int _ _⟩;have hz0:=hzs w rfl;simp only[Nat.min_eq_min,Nat.zero_le,Nat.min_eq_right] at hz0
      simp[Builtin.copy_,run_underlying hu0,fI (P:=P) hls hs,ct hsz,hz0,goInt]
     |_=>cases h
   ·cases h
  ·cases h
 ·cases h
theorem nY{ts:List TypeId}{us:List LV}{s s':St}{r:R}(hw:WF s)(h:lU P ts us s=some (r,s')):aA s s':=by
 unfold lU at h
 split at h
 ·split at h
  ·cases h;exact aA.refl _
  ·rename_i elem m off len c he
   cases hb:len.beq 0 with
   |true=>rw[hb] at h;cases h;exact aA.refl _
   |false=>
    rw[hb] at h
    simp only[cond_false] at h
    split at h
    ·obtain⟨_,h⟩:=ay h
     split at h
     ·rename_i hst;cases h;exact dt hw hst
     ·cases h
    ·cases h
  ·cases h
 ·cases h
theorem Ai{G:Nat->Prop}{s s':St}{ts:List TypeId}{ty:TypeId}{us:List LV}{xs:List Value}{r:R}(h:lU P ts us s=some (r,s'))(hx:VRs ρ us xs)(hw:WF s)(hG:Gok G s')(hr:aV G ρ s.heap w):
  aA s s'/\∃v,r=.val v/\ke P G s s' ρ w v (Builtin.clear_ ts.toArray ty xs.toArray):=by
 refine⟨nY hw h,?_⟩;have hun:VR ρ .un (.tuple #[]):=.tuple .nil;unfold lU at h
 split at h
 ·rename_i t ts x us
  obtain _|⟨hd,hx⟩:=hx
  split at h
  ·rename_i elem he
   cases h
   cases hd
   refine⟨_,rfl,ρ,w,.tuple #[],?_,bB hr,hun⟩;simp[Builtin.clear_,run_underlying (fi he)]
  ·rename_i elem m off len c he
   obtain⟨p,cap,hp,rfl,_,_⟩:=kG hd
   cases hb:len.beq 0 with
   |true=>
    rw[hb] at h
    cases h
    have h0:=Nat.eq_of_beq_eq_true hb;subst h0;refine⟨_,rfl,ρ,w,.tuple #[],?_,bB hr,hun⟩;simp[Builtin.clear_,run_underlying (fi he)]
   |false=>
    rw[hb] at h
    simp only[cond_false] at h
    have h0:len≠0:=fun e=>by subst e;cases hb
    obtain⟨k,rfl⟩:∃k,len=k+1:=⟨len-1,by omega⟩
    split at h
    ·rename_i size z hsz hz
     obtain⟨h1,h⟩:=ay h;simp only[Bool.and_eq_true] at h1
     have h2:=Nat.eq_of_beq_eq_true h1.1;have h3:0<size:=Nat.le_of_ble_eq_true h1.2;split at h
     ·rename_i s2 hst
      cases h
      obtain⟨zx,hzx,hzv⟩:=gG hz;have hzl:zx.cells.size=size:=by
       have:=(hzv ρ).cells.length;simp at this
       omega
      have hvr:=lD (n:=k+1) (hzv ρ) h2 h3;obtain⟨_,w',hrun,e2⟩:=fZ (P:=P) hst hp hvr hw hG hr;refine⟨_,rfl,ρ,w',.tuple #[],?_,e2,hun⟩;have hzc:(Builtin.zeroCells zx.cells (k+1))=((Array.range ((k+1)*size)).map (zx.cells[· % zx.cells.size]!)):=by rw[<-hzl];rfl
      simp only[Builtin.clear_,List.getElem?_toArray,List.getElem?_cons_zero,Sem.run_bind,run_underlying (fi he),Result.andThen_ok,hzx,hzc];rw[hrun];rfl
     ·cases h
    ·cases h
  ·cases h
 ·cases h
theorem DA{ts:List TypeId}{ty:TypeId}{us:List LV}{xs:List Value}{v:LV}(h:Al P ts us=some v)(hx:VRs ρ us xs):eh P ρ w v (Builtin.len_ ts.toArray ty xs.toArray):=by
 unfold Al at h
 split at h
 ·rename_i t ts x us
  obtain _|⟨hd,hx⟩:=hx
  split at h
  ·rename_i hu
   cases h;cases hd
   exact⟨_,by simp[Builtin.len_,run_underlying hu,goInt],.int _ _⟩
  ·rename_i hu
   cases h
   exact⟨_,by simp[Builtin.len_,run_underlying hu,goInt],.int _ _⟩
  ·rename_i hu
   cases h;cases hd<;>exact⟨_,by simp[Builtin.len_,run_underlying hu,goInt],.int _ _⟩
  ·rename_i hu
   cases h;cases hd
   exact⟨_,by simp[Builtin.len_,run_underlying hu,goInt],.int _ _⟩
  ·cases h
 ·cases h
theorem Dz{ts:List TypeId}{ty:TypeId}{us:List LV}{xs:List Value}{v:LV}(h:Ah P ts us=some v)(hx:VRs ρ us xs):eh P ρ w v (Builtin.cap_ ts.toArray ty xs.toArray):=by
 unfold Ah at h
 split at h
 ·rename_i t ts x us
  obtain _|⟨hd,hx⟩:=hx
  split at h
  ·rename_i hu
   cases h;cases hd
   exact⟨_,by simp[Builtin.cap_,run_underlying hu,goInt],.int _ _⟩
  ·rename_i hu
   cases h;cases hd
   exact⟨_,by simp[Builtin.cap_,run_underlying hu,goInt],.int _ _⟩
  ·cases h
 ·cases h
theorem sk:∀{us:List LV} {xs:List Value} {u v:LV} {x:Value},VRs ρ us xs->l4 u us=some v->VR ρ u x->eh P ρ w v (xs.foldlM Builtin.min2 x)
 |_,_,u,v,x,.nil,h,hx=>by
  unfold l4 at h
  cases h
  exact⟨x,rfl,hx⟩
 |_,_,u,v,x,.cons hy hys,h,hx=>by
  unfold l4 at h
  split at h
  ·contradiction
  ·rename_i e
   cases e
   cases hx;cases hy
   obtain⟨z,h1,h2⟩:=sk hys h (.int _ _);refine⟨z,?_,h2⟩;simp only[List.foldlM_cons,Builtin.min2,Sem.run_bind,Sem.run_pure,Result.andThen_ok];exact h1
  ·cases h
theorem sj:∀{us:List LV} {xs:List Value} {u v:LV} {x:Value},VRs ρ us xs->lZ u us=some v->VR ρ u x->eh P ρ w v (xs.foldlM Builtin.max2 x)
 |_,_,u,v,x,.nil,h,hx=>by
  unfold lZ at h
  cases h
  exact⟨x,rfl,hx⟩
 |_,_,u,v,x,.cons hy hys,h,hx=>by
  unfold lZ at h
  split at h
  ·contradiction
  ·rename_i e
   cases e
   cases hx;cases hy
   obtain⟨z,h1,h2⟩:=sj hys h (.int _ _);refine⟨z,?_,h2⟩;simp only[List.foldlM_cons,Builtin.max2,Sem.run_bind,Sem.run_pure,Result.andThen_ok];exact h1
  ·cases h
def NxR(ρ:Ren):R->Next->Prop
 | .val v,.value x=>VR ρ v x
 | .skip,.skip=>True
 | .enter f args,.enter g xs=>f=g/\VRs ρ args xs.toList
 | .round n r f,.round l _ tmps assign body=>∃p,ρ n=some p/\l=p.blk/\assign=r.assign/\body=r.body/\bH ρ {f with marks:=[],rnd:=true} {tmps:=tmps,defers:=[]}
 |_,_=>False
def OpR(P:Program)(G:Nat->Prop)(s s':St)(ρ:Ren)(w:World)(r:R)(sem:Sem Next):Prop:=
 aA s s'/\∃ρ' w' nx,sem.run P w=.ok nx w'/\Ext G s s' ρ ρ' w w'/\NxR ρ' r nx
theorem OpR.jQ{G:Nat->Prop}{s s':St}{v:LV}{sem:Sem Value}{sn:Sem Next}(hm:aA s s')(h:ke P G s s' ρ w v sem)(e:sn=(do pure (.value (<-sem)))):OpR P G s s' ρ w (.val v) sn:=by
 subst e;obtain⟨ρ',w',x,h1,h2,h3⟩:=h;exact⟨hm,ρ',w',.value x,by simp[h1],h2,h3⟩
theorem OpR.dW{G:Nat->Prop}{s:St}{v:LV}{sem:Sem Value}{sn:Sem Next}(hr:aV G ρ s.heap w)(h:eh P ρ w v sem)(e:sn=(do pure (.value (<-sem)))):OpR P G s s ρ w (.val v) sn:=by
 subst e;obtain⟨x,h1,h3⟩:=h;exact⟨aA.refl s,ρ,w,.value x,by simp[h1],bB hr,h3⟩
theorem cm{v:Option LV}{s s':St}{r:R}(h:bM v s=some (r,s')):∃x,v=some x/\r=.val x/\s'=s:=by
 unfold bM at h
 split at h
 ·rename_i x;cases h;exact⟨x,rfl,rfl,rfl⟩
 ·cases h
set_option linter.unusedSimpArgs false in
set_option linter.unusedVariables false in
theorem rJ{t0 t1 elem ty:TypeId}{kk k:IntKind}{size bytes:Nat}{l:Int}{zx:Value}(hu0:P.underlying t0=some (.slice elem))(hsz:cB P elem=some size)(hby:iK P elem=some bytes)(hb:bytes<=1000)
  (hzx:∀w,(zeroValue elem).run P w=.ok zx w) (hu1:P.underlying t1=some (.int kk)) (hl0:0<l) (hl1:l<=1000000) (hs:0<size):
  ∃nc,l.toNat<=nc/\(Builtin.append_ #[t0,t1] ty #[.slice none 0 0,.int k l]).run P w=.ok (.slice (some ⟨w.heap.size,0,none⟩) l.toNat nc) (w.drew.alloc (.cells (Builtin.zeroCells zx.cells l.toNat++Builtin.zeroCells zx.cells (nc-l.toNat)) elem)):=by
 obtain⟨i,hi,hib⟩:=mR hby;have hnc:=sB l.toNat 0 (by omega)
 have hbig:¬(2^48<Builtin.nextslicecap l.toNat 0*i.bytes):=by
  have:Builtin.nextslicecap l.toNat 0*i.bytes<=4000768*1000:=Nat.mul_le_mul (by omega) (by omega)
  omega
 refine⟨l.toNat+w.tape w.drawn (.appendCap l.toNat 0 elem)%(2^63-l.toNat),by omega,?_⟩
 have hw:=wrap_small (c:=l) (by omega) hl1
 have hneg:¬l<0:=by omega
 have hmul:¬((2:Int)^48<l*(i.bytes:Int)):=by
  have:l*(i.bytes:Int)<=1000000*1000:=Int.mul_le_mul hl1 (by omega) (by omega) (by omega)
  omega
 have hroom':¬(l.toNat<=0):=by omega
 have hroom2:¬(l.toNat=0):=by omega
 have hroom3:¬(l<=0):=by omega
 have hsz0:¬(l.toNat*size=0):=by
  have:0<l.toNat*size:=Nat.mul_pos (by omega) hs
  omega
 have hs0:¬size=0:=by omega
 have hask:∀(k:Nat) (w:World),(askRoom k).run P w=.ok () w:=fun k w=>by
  unfold askRoom;split<;>rfl
 have hq:Question.forced (.appendCap l.toNat 0 elem)=false:=rfl;have hcut:∀k,Question.cut (.appendCap l.toNat 0 elem) k=l.toNat+k%(2^63-l.toNat):=fun _=>rfl
 have hmx:¬(IntKind.i64.max<(l.toNat:Int)):=by
  have:IntKind.i64.max=9223372036854775807:=rfl;omega
 have hm2:¬(281474976710656<l*(i.bytes:Int)):=by omega
 have hm3:¬(9223372036854775807<max l 0):=by omega
 simp[Builtin.append_,Builtin.firstCells,run_underlying hu0,run_underlying hu1,ct hsz,asInt,asIntOf,hw,hneg,hmul,hroom',hroom2,hroom3,hsz0,hs0,ja hi,hbig,hask,hzx,hq,hcut,newRow,hmx,hm2,hm3]
theorem wj{G:Nat->Prop}{s s':St}{ts:List TypeId}{ty:TypeId}{us:List LV}{xs:List Value}{r:R}(h:kO P ts us s=some (r,s'))(hx:VRs ρ us xs)(hr:aV G ρ s.heap w)(hf:bg ρ s s'):
  aA s s'/\∃v,r=.val v/\ke P G s s' ρ w v (Builtin.append_ ts.toArray ty xs.toArray):=by
 unfold kO at h
 split at h
 ·rename_i t0 t1 k l
  obtain _|⟨hsl,_|⟨hxx,_|_⟩⟩:=hx
  cases hsl
  cases hxx
  split at h
  ·rename_i elem kk he hu1
   split at h
   ·rename_i size bytes z hsz hby hz
    obtain⟨h1,h⟩:=ay h;simp only[Bool.and_eq_true,decide_eq_true_eq] at h1
    obtain⟨⟨⟨⟨h1,h3⟩,h4⟩,h5⟩,h6⟩:=h1;have h4:=Nat.le_of_ble_eq_true h4;have h5:=Nat.eq_of_beq_eq_true h5;have h6:0<size:=Nat.le_of_ble_eq_true h6;split at h
    ·rename_i m s1 hnew
     cases h
     obtain⟨zx,hzx,hzv⟩:=gG hz;have hzl:zx.cells.size=size:=by
      have:=(hzv ρ).cells.length;simp at this
      omega
     have hvr:=lD (n:=l.toNat) (hzv ρ) h5 h6;obtain⟨nc,hnc,hrun⟩:=rJ (P:=P) (w:=w) (ty:=ty) (k:=k) (fi he) hsz hby h4 hzx hu1 h1 h3 h6;obtain⟨e2,hv2⟩:=kV (n:=l.toNat) (nc:=nc) (rest:=Builtin.zeroCells zx.cells (nc-l.toNat)) hnew hr hf hvr (by have:=hvr.length;simp at this;omega) hnc (by rw[fP,hzl])
     refine⟨bG hnew,_,rfl,_,_,_,?_,e2,hv2⟩;rw[hrun];congr 4;simp only[Builtin.zeroCells,hzl]
    ·cases h
   ·cases h
  ·cases h
 ·cases h
theorem wh{G:Nat->Prop}{s s':St}{ts:List TypeId}{ty:TypeId}{us:List LV}{xs:List Value}{r:R}(h:ju P ts us s=some (r,s'))(hx:VRs ρ us xs)(hw:WF s)(hG:Gok G s')(hr:aV G ρ s.heap w)(hf:bg ρ s s'):
  aA s s'/\∃v,r=.val v/\ke P G s s' ρ w v (Builtin.append_ ts.toArray ty xs.toArray):=by
 unfold ju at h
 split at h
 ·rename_i hd
  cases h
  exact yp hd hx hw hG hr hf
 ·exact wj h hx hr hf
theorem wk{G:Nat->Prop}{s s':St}{b:Builtin}{ts:List TypeId}{ty:TypeId}{cb:Array Bool}{us:List LV}{xs:List Value}{r:R}(h:kP P b ts us s=some (r,s'))(hx:VRs ρ us xs)(hw:WF s)(hG:Gok G s')(hr:aV G ρ s.heap w)(hf:bg ρ s s'):
  OpR P G s s' ρ w r (builtin b ts.toArray ty cb xs.toArray):=by
 unfold kP at h
 split at h
 ·obtain⟨hm,v,rfl,hv⟩:=wh (P:=P) (ty:=ty) h hx hw hG hr hf
  exact .jQ hm hv rfl
 ·obtain⟨hm,v,rfl,hv⟩:=BG (P:=P) (ty:=ty) h hx hw hG hr
  exact .jQ hm hv rfl
 ·obtain⟨hm,v,rfl,hv⟩:=Ai (P:=P) (ty:=ty) h hx hw hG hr
  exact .jQ hm hv rfl
 ·obtain⟨v,hv,rfl,rfl⟩:=cm h
  exact .dW hr (DA (ty:=ty) hv hx) rfl
 ·obtain⟨v,hv,rfl,rfl⟩:=cm h
  exact .dW hr (Dz (ty:=ty) hv hx) rfl
 ·split at h
  ·obtain⟨v,hv,rfl,rfl⟩:=cm h
   obtain _|⟨hd,hx⟩:=hx
   exact .dW hr (sk hx hv hd) rfl
  ·cases h
 ·split at h
  ·obtain⟨v,hv,rfl,rfl⟩:=cm h
   obtain _|⟨hd,hx⟩:=hx
   exact .dW hr (sj hx hv hd) rfl
  ·cases h
 ·cases h
end
end Go.Proofs.YtdjjlghlcffflaaGreatDoor.Ev
