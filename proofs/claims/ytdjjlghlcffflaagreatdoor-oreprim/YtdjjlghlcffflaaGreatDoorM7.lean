/-
  Proved: for every api.Op a and every api.Poly p that can be read as data, in whatever memory, the law OrePrim of ashlarlaw8 returns true and leaves its arguments as they read before (the content of an operator is found, and what is left is primitive). Its conditions are those of the given card: the package-level variables that the card ties to the program's text.
-/
import Derived.Test.YtdjjlghlcffflaaGreatDoorRows
import Derived.Test.YtdjjlghlcffflaaGreatDoorTie
import Derived.Test.YtdjjlghlcffflaaGreatDoorCards
import Derived.Test.YtdjjlghlcffflaaGreatDoorG9
set_option linter.unusedVariables false
set_option linter.unusedSimpArgs false
set_option maxHeartbeats 8000000
set_option maxRecDepth 100000
namespace Go.Proofs.YtdjjlghlcffflaaGreatDoor.orePrim
open Go.ChangeShapes Go.WideShapes Go.ChangeAt Go.RowKit Go.Joins
variable {w:World} {base fuel:Nat} {t:TypeId}
theorem wJ{H:Type}{enc:TypeId×Value->H}{P:Program}{sp:Nat->Bool}{held:Bool}{k:IntKind}{c:Value}{y:DataW H×List MemPlace}
  (ht:P.underlying t=some (.int k)) (h:DataW.trod enc P w base sp held fuel t [c]=some y):∃n,c=.int k n/\y=(.lit (.int k n),[]):=by
 cases fuel with
 |zero=>simp[DataW.trod] at h
 |succ fuel=>
  cases c<;>simp[DataW.trod,ht] at h
  rename_i k' n
  obtain⟨⟨rfl,_⟩,rfl⟩:=h;exact⟨n,rfl,rfl⟩
theorem EX:((Rows.laid_math_bits_deBruijn64tab (H:=Unit)):DataW Unit)=.agg (Lib.deBruijn64tab.map fun(k:Nat)=>.lit (.int .u8 (k:Int))):=by kernel_rfl
variable {W:World}
theorem yL(h:laidMetH Tryz.prog Rows.orePrimRow.laid W):TzT W:=by
 rw[MakeChecks.laidMetH_plain _ _ _ (by kernel_rfl)] at h
 obtain⟨ps,⟨g,t,cs,fuel,p,q,hg,ht,hvar,hd,_,_⟩,_⟩:=h;have hg0:Tryz.prog.globalNamed "math/bits.deBruijn64tab" = some (pO.g 1):=by kernel_rfl
 obtain rfl:=Option.some.inj (hg0.symm.trans hg);have ht0:(Tryz.prog.globals[pO.g 1]?).map (·.type)=some 207:=by kernel_rfl
 obtain rfl:=Option.some.inj (ht0.symm.trans ht);have hu:Tryz.prog.underlying 207=some (.array 64 5):=by kernel_rfl
 have hc:Tryz.prog.cellsOf 5=1:=by kernel_rfl
 have hi:Tryz.prog.underlying 5=some (.int .u8):=by kernel_rfl
 have hca:Tryz.prog.cellsOf 207=64:=by kernel_rfl
 obtain⟨xs,mm,rfl,hx,hl,hxl,hel⟩:=DataW.trod_array hu hd;rw[hca] at hl
 have htl:Lib.deBruijn64tab.length=64:=rfl;intro j hj;rw[htl] at hj
 have h1:=hel j hj;rw[hc,Nat.mul_one] at h1
 have hjl:j<cs.toList.length:=by omega
 have h2:(cs.toList.drop j).take 1=[cs.toList[j]]:=by
  rw[List.drop_eq_getElem_cons hjl,List.take_succ_cons,List.take_zero]
 rw[h2,List.getElem?_eq_getElem (by omega)] at h1
 obtain⟨n,e1,e2⟩:=wJ hi h1;have h3:DataW.agg (Lib.deBruijn64tab.map fun(k:Nat)=>DataW.lit (.int .u8 (k:Int)))=DataW.agg (xs.map (·.1)):=by
  have h9:=congrArg Prod.fst hx;rw[<-EX];exact h9
 have h4:(Lib.deBruijn64tab.map fun(k:Nat)=>(DataW.lit (.int .u8 (k:Int)):DataW Unit))[j]?=(xs.map (·.1))[j]?:=by
  have h9:(Lib.deBruijn64tab.map fun(k:Nat)=>(DataW.lit (.int .u8 (k:Int)):DataW Unit))=xs.map (·.1):=by injection h3
  rw[h9]
 rw[List.getElem?_map,List.getElem?_map,List.getElem?_eq_getElem (by omega),List.getElem?_eq_getElem (by omega),Option.map_some,Option.map_some,e2] at h4
 have h5:n=((Lib.deBruijn64tab[j]'(by omega):Nat):Int):=by
  simp only[Option.some.injEq,DataW.lit.injEq,Lit.int.injEq,true_and] at h4
  exact h4.symm
 have h6:W.cell? ⟨pO.g 1,j,none⟩=cs[j]?:=by
  simp only[World.var?,hg0,Option.bind_some] at hvar
  simp only[World.cell?];split at hvar
  ·rename_i c _ _ hh
   rw[hh]
   cases hvar
   simp
  ·cases hvar
 rw[h6,<-Array.getElem?_toList,List.getElem?_eq_getElem hjl,e1,h5,List.getD_eq_getElem?_getD,List.getElem?_eq_getElem (by omega)]
 rfl
theorem lifted(os:Os)(started:os.Started)(H:Type)(enc:TypeId×Value->H):
  ReturnsInHanded {} Tryz.checked os 3 .any (fun w args=>(Rows.orePrimSpec.pre enc Tryz.prog Tryz.f3 [] false w args/\laidMetH Tryz.prog Rows.orePrimRow.laid w)/\sizedMet enc Tryz.prog Tryz.f3 (OpenSpec.ofChange Rows.orePrimSpec) false w args)
   (Rows.orePrimSpec.post enc Tryz.prog Tryz.f3 false true false false):=by
 refine returnsInHanded_of_change_and (C:=Tryz.checked) (X:=fun w _=>laidMetH Tryz.prog Rows.orePrimRow.laid w) (fun _ _ _ hh h=>h.of_heap hh) own started (by kernel_rfl) Tryz.func3
  (ChangeSpec.witness_shaped (enc:=enc) (C:=Tryz.checked) (os:=os) (X:=fun w _=>laidMetH Tryz.prog Rows.orePrimRow.laid w) false (World.laidAll Tryz.prog os Rows.orePrimRow.laid) #[.slice none 0 0,.slice none 0 0] 8 (World.laidAll_os _ _ _)
   (World.shaped_of_ZipB (by kernel_rfl) (by kernel_rfl)) (by kernel_rfl) (by kernel_rfl) (by kernel_rfl)
   (by rw[MakeChecks.laidMetH_plain _ _ _ (by kernel_rfl)];exact laidMet_laidAll _ (by kernel_rfl) (by kernel_rfl))) ?_
 intro W base args ds gs before hval0 hW _ _ hL _;have hval:∀(j:Nat) t v,Tryz.f3.params[j]?=some t->args[j]?=some v->Value.okWide Tryz.prog W .any base t v:=hval0;have hW':=hW;obtain⟨p,q,hA0,hV,rfl,_,_⟩:=hW;have hA:DataW.TrodAll enc Tryz.prog W 0 (fun _=>true) true Tryz.f3.params.toList args.toList ds p:=hA0
 rw[Tryz.params3] at hA hval
 obtain⟨v0,v1,d0,d1,p0,p1,rfl,rfl,rfl,h0,h1⟩:=trodAll_two hA;obtain⟨rfl,rfl⟩:=trodVars_none hV;simp only[List.append_nil] at hW'
 have hlt0:∀x∈p0,x.block<W.heap.size:=fun x hx=>hW'.lt x (by simp[hx])
 have hlt1:∀x∈p1,x.block<W.heap.size:=fun x hx=>hW'.lt x (by simp[hx])
 obtain⟨pa,n,nc,hs0,rfl,hA1⟩:=Iy (hval 0 23 v0 rfl rfl) h0;obtain⟨ra,l,lc,es0,rfl,hP⟩:=El (hval 1 25 v1 rfl rfl) h1;refine(vS hA1 hP (yL hL)).mono fun e W' ⟨he,hb⟩=>?_
 subst he;have t0:=Below.trod laidOut (by kernel_rfl) (of_decide_eq_true (by kernel_rfl)) h0 hb hlt0
 have t1:=Below.trod laidOut (by kernel_rfl) (of_decide_eq_true (by kernel_rfl)) h1 hb hlt1
 refine⟨_,rfl,_,_,_,[],_,[],hW',trodAll_mk1 (shut_bool Tryz.underlying4 _),trodAll_mk2 t0 t1,rfl,hb.frame _,fun h=>by cases h⟩
theorem said:Rows.OrePrimSaid:=
 OpenClaim.holds_of_wide 3 Tryz.f3 rfl rfl rfl rfl rfl rfl rfl ⟨rfl,rfl,rfl,rfl,rfl⟩ rfl rfl rfl rfl rfl (by kernel_rfl) Tryz.func3 (by kernel_rfl)
  (of_decide_eq_true (by kernel_rfl)) (by unfold Func.isWrapper;first|(rw[if_pos (by decide +kernel)];kernel_rfl)|(rw[if_neg (by decide +kernel)];exact⟨rfl,rfl⟩))
  (fun os started H enc _=>lifted os started H enc)
theorem plain(f:FuncId)(fn:Func)(hf:Tryz.pinned.checked.prog.funcNamed Rows.orePrimRow.func=some f)(hfn:Tryz.pinned.checked.prog.funcs[f]?=some fn):
  false=Tryz.pinned.checked.prog.looks []/\∀(j:Nat) t,fn.params[j]?=some t->Tryz.pinned.checked.prog.wantsStandIn t=false:=by
 obtain rfl:f=3:=Option.some.inj ((show Tryz.prog.funcNamed Rows.orePrimRow.func=some 3 by kernel_rfl).symm.trans hf) |>.symm
 obtain rfl:fn=Tryz.f3:=(Option.some.inj (Tryz.func3.symm.trans hfn)).symm;refine⟨by kernel_rfl,fun j t ht=>?_⟩
 rw[Tryz.params3] at ht
 have hm:t∈[23,25]:=by simpa using Array.mem_of_getElem? ht
 have hall:([23,25].all fun u=>!Tryz.prog.wantsStandIn u)=true:=by kernel_rfl
 exact(show Tryz.prog.wantsStandIn t=false by simpa using List.all_eq_true.1 hall t (by simpa using hm))
end Go.Proofs.YtdjjlghlcffflaaGreatDoor.orePrim
namespace Go.Proofs.YtdjjlghlcffflaaGreatDoor
theorem orePrim_card:Rows.OrePrimCardSaid:=
 Claim7.holds_tied_plain_at .later [] _ _ _ _ orePrim.said (fun _ h=>by cases h) (by kernel_rfl) (fun _ h=>by cases h) orePrim_row_tie rfl ⟨rfl,rfl⟩ (by kernel_rfl) rfl orePrim.plain (by kernel_rfl)
#print axioms orePrim_card
end Go.Proofs.YtdjjlghlcffflaaGreatDoor
