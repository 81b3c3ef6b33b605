/-
  Proved: for every api.Rat v that can be read as data and every int n, in whatever memory, the law SeqConst of ashlarlaw11 returns true and leaves its arguments as they read before (the sequence of one value has that value at every index up to 300). Its conditions are those of the given card: the package-level variables that the card ties to the program's text.
-/
import Derived.Test.YtfnkomoickanfaaGreatDoorRows
import Derived.Test.YtfnkomoickanfaaGreatDoorTie
import Derived.Test.YtfnkomoickanfaaGreatDoorCards
import Derived.Test.YtfnkomoickanfaaGreatDoorYg
set_option linter.unusedVariables false
set_option linter.unusedSimpArgs false
set_option maxHeartbeats 8000000
set_option maxRecDepth 100000
namespace Go.Proofs.YtfnkomoickanfaaGreatDoor.seqConst
open Go.ChangeShapes Go.WideShapes Go.ChangeAt Go.RowKit Go.Joins
theorem i64_in{z:Int}(h:(Lit.int IntKind.i64 z).wf=true):-9223372036854775808≤z∧z≤9223372036854775807:=by
 simpa [Lit.wf,IntKind.min,IntKind.max,IntKind.signed,IntKind.bits] using h
theorem sy{H:Type}{enc:TypeId×Value→H}{P:Program}{w:World}{base:Nat}{sp:Nat→Bool}{held:Bool}{fuel:Nat}{t:TypeId}{k:IntKind}{c:Value}{y:DataW H×List MemPlace}
  (ht:P.underlying t=some (.int k)) (h:DataW.trod enc P w base sp held fuel t [c]=some y):∃n,c=.int k n∧y=(.lit (.int k n),[]):=by
 cases fuel with
 |zero=>simp[DataW.trod] at h
 |succ fuel=>
  cases c<;>simp[DataW.trod,ht] at h
  rename_i k' n
  obtain⟨⟨rfl,_⟩,rfl⟩:=h
  exact⟨n,rfl,rfl⟩
theorem A4:((Rows.laid_math_bits_deBruijn64tab (H:=Unit)):DataW Unit)=.agg (Lib.deBruijn64tab.map fun(k:Nat)=>.lit (.int .u8 (k:Int))):=by kernel_rfl
theorem uC{W:World}(h:laidMetH Tryz.prog Rows.seqConstRow.laid W):Tz.TzT W:=by
 rw[MakeChecks.laidMetH_plain _ _ _ (by kernel_rfl)] at h
 obtain⟨ps,⟨g,t,cs,fuel,p,q,hg,ht,hvar,hd,_,_⟩,_⟩:=h
 have hg0:Tryz.prog.globalNamed "math/bits.deBruijn64tab" = some (Tz.oC.g 1):=by kernel_rfl
 obtain rfl:=Option.some.inj (hg0.symm.trans hg)
 have ht0:(Tryz.prog.globals[Tz.oC.g 1]?).map (·.type)=some 279:=by kernel_rfl
 obtain rfl:=Option.some.inj (ht0.symm.trans ht)
 have hu:Tryz.prog.underlying 279=some (.array 64 5):=by kernel_rfl
 have hc:Tryz.prog.cellsOf 5=1:=by kernel_rfl
 have hi:Tryz.prog.underlying 5=some (.int .u8):=by kernel_rfl
 have hca:Tryz.prog.cellsOf 279=64:=by kernel_rfl
 obtain⟨xs,mm,rfl,hx,hl,hxl,hel⟩:=DataW.trod_array hu hd
 rw[hca] at hl
 have htl:Lib.deBruijn64tab.length=64:=rfl
 intro j hj
 rw[htl] at hj
 have h1:=hel j hj
 rw[hc,Nat.mul_one] at h1
 have hjl:j<cs.toList.length:=by omega
 have h2:(cs.toList.drop j).take 1=[cs.toList[j]]:=by
  rw[List.drop_eq_getElem_cons hjl,List.take_succ_cons,List.take_zero]
 rw[h2,List.getElem?_eq_getElem (by omega)] at h1
 obtain⟨n,e1,e2⟩:=sy hi h1
 have h3:DataW.agg (Lib.deBruijn64tab.map fun(k:Nat)=>DataW.lit (.int .u8 (k:Int)))=DataW.agg (xs.map (·.1)):=by
  have h9:=congrArg Prod.fst hx
  rw[←A4]
  exact h9
 have h4:(Lib.deBruijn64tab.map fun(k:Nat)=>(DataW.lit (.int .u8 (k:Int)):DataW Unit))[j]?=(xs.map (·.1))[j]?:=by
  have h9:(Lib.deBruijn64tab.map fun(k:Nat)=>(DataW.lit (.int .u8 (k:Int)):DataW Unit))=xs.map (·.1):=by injection h3
  rw[h9]
 rw[List.getElem?_map,List.getElem?_map,List.getElem?_eq_getElem (by omega),List.getElem?_eq_getElem (by omega),Option.map_some,Option.map_some,e2] at h4
 have h5:n=((Lib.deBruijn64tab[j]'(by omega):Nat):Int):=by
  simp only[Option.some.injEq,DataW.lit.injEq,Lit.int.injEq,true_and] at h4
  exact h4.symm
 have h6:W.cell? ⟨Tz.oC.g 1,j,none⟩=cs[j]?:=by
  simp only[World.var?,hg0,Option.bind_some] at hvar
  simp only[World.cell?]
  split at hvar
  ·rename_i c _ _ hh
   rw[hh]
   cases hvar
   simp
  ·cases hvar
 rw[h6,←Array.getElem?_toList,List.getElem?_eq_getElem hjl,e1,h5,List.getD_eq_getElem?_getD,List.getElem?_eq_getElem (by omega)]
 rfl
theorem lifted(os:Os)(started:os.Started)(H:Type)(enc:TypeId×Value→H):
  ReturnsInHanded {} Tryz.checked os 3 .any (fun w args=>(Rows.seqConstSpec.pre enc Tryz.prog Tryz.f3 [] false w args∧laidMetH Tryz.prog Rows.seqConstRow.laid w)∧sizedMet enc Tryz.prog Tryz.f3 (OpenSpec.ofChange Rows.seqConstSpec) false w args)
   (Rows.seqConstSpec.post enc Tryz.prog Tryz.f3 false true false false):=by
 refine returnsInHanded_of_change_and (C:=Tryz.checked) (X:=fun w _=>laidMetH Tryz.prog Rows.seqConstRow.laid w) (fun _ _ _ hh h=>h.of_heap hh) own started (by kernel_rfl) Tryz.func3
  (ChangeSpec.witness_shaped (enc:=enc) (C:=Tryz.checked) (os:=os) (X:=fun w _=>laidMetH Tryz.prog Rows.seqConstRow.laid w) false (World.laidAll Tryz.prog os Rows.seqConstRow.laid) #[.agg #[.bool false,.slice none 0 0,.bool false,.slice none 0 0],.int .i64 0] 8 (World.laidAll_os _ _ _)
   (World.shaped_of_ZipB (by kernel_rfl) (by kernel_rfl)) (by kernel_rfl) (by kernel_rfl) (by kernel_rfl)
   (by rw[MakeChecks.laidMetH_plain _ _ _ (by kernel_rfl)];exact laidMet_laidAll _ (by kernel_rfl) (by kernel_rfl))) ?_
 intro W base args ds gs before hval0 hW _ _ hL _
 have hval:∀(j:Nat) t v,Tryz.f3.params[j]?=some t→args[j]?=some v→Value.okWide Tryz.prog W .any base t v:=hval0
 have hW':=hW
 obtain⟨p,q,hA0,hV,rfl,_,_⟩:=hW
 have hA:DataW.TrodAll enc Tryz.prog W 0 (fun _=>true) true Tryz.f3.params.toList args.toList ds p:=hA0
 rw[Tryz.params3] at hA hval
 obtain⟨v0,v1,d0,d1,p0,p1,rfl,rfl,rfl,h0,h1⟩:=trodAll_two hA
 obtain⟨rfl,rfl⟩:=trodVars_none hV
 obtain⟨z1,rfl,rfl,rfl,wz1⟩:=open_int Tryz.underlying3 (hval 1 3 v1 rfl rfl) h1
 simp only[List.append_nil] at hW'
 have hlt0:∀x∈p0,x.block<W.heap.size:=fun x hx=>hW'.lt x (by simp[hx])
 obtain⟨ca0,cb0,cc0,cd0,rfl,hP0,hQ0⟩:=B9 (hval 0 26 v0 rfl rfl) h0
 refine(qN hP0 hQ0 (i64_in wz1) (uC hL)).mono fun e W' ⟨he,hb⟩=>?_
 subst he
 have t0:=Below.trod laidOut (by kernel_rfl) (of_decide_eq_true (by kernel_rfl)) h0 hb hlt0
 refine⟨_,rfl,_,_,_,[],_,[],hW',trodAll_mk1 (shut_bool Tryz.underlying4 _),trodAll_mk2 t0 (shut_int Tryz.underlying3 wz1),rfl,hb.frame _,fun h=>by cases h⟩
theorem said:Rows.SeqConstSaid:=
 OpenClaim.holds_of_wide 3 Tryz.f3 rfl rfl rfl rfl rfl rfl rfl ⟨rfl,rfl,rfl,rfl,rfl⟩ rfl rfl rfl rfl rfl (by kernel_rfl) Tryz.func3 (by kernel_rfl)
  (of_decide_eq_true (by kernel_rfl)) (by unfold Func.isWrapper;first|(rw[if_pos (by decide +kernel)];kernel_rfl)|(rw[if_neg (by decide +kernel)];exact⟨rfl,rfl⟩))
  (fun os started H enc _=>lifted os started H enc)
theorem plain(f:FuncId)(fn:Func)(hf:Tryz.pinned.checked.prog.funcNamed Rows.seqConstRow.func=some f)(hfn:Tryz.pinned.checked.prog.funcs[f]?=some fn):
  true=Tryz.pinned.checked.prog.looks []∧∀(j:Nat) t,fn.params[j]?=some t→Tryz.pinned.checked.prog.wantsStandIn t=false:=by
 obtain rfl:f=3:=Option.some.inj ((show Tryz.prog.funcNamed Rows.seqConstRow.func=some 3 by kernel_rfl).symm.trans hf) |>.symm
 obtain rfl:fn=Tryz.f3:=(Option.some.inj (Tryz.func3.symm.trans hfn)).symm
 refine⟨by kernel_rfl,fun j t ht=>?_⟩
 rw[Tryz.params3] at ht
 have hm:t∈[26,3]:=by simpa using Array.mem_of_getElem? ht
 have hall:([26,3].all fun u=>!Tryz.prog.wantsStandIn u)=true:=by kernel_rfl
 exact(show Tryz.prog.wantsStandIn t=false by simpa using List.all_eq_true.1 hall t (by simpa using hm))
end Go.Proofs.YtfnkomoickanfaaGreatDoor.seqConst
namespace Go.Proofs.YtfnkomoickanfaaGreatDoor
theorem seqConst_card:Rows.SeqConstCardSaid:=
 Claim7.holds_tied_plain_at .later [] _ _ _ _ seqConst.said (fun _ h=>by cases h) (by kernel_rfl) (fun _ h=>by cases h) seqConst_row_tie rfl ⟨rfl,rfl⟩ (by kernel_rfl) rfl seqConst.plain (by kernel_rfl)
#print axioms seqConst_card
end Go.Proofs.YtfnkomoickanfaaGreatDoor
