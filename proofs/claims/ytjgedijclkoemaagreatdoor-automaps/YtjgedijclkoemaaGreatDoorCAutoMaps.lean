/- AutoMaps: of any input the law answers true; the tied card: the tables of math/bits and internal/strconv are laid as the program's text lays them. -/
import Derived.Test.YtjgedijclkoemaaGreatDoorJ43
import Derived.Test.YtjgedijclkoemaaGreatDoorKAutoMaps
namespace Go.Proofs.YtjgedijclkoemaaGreatDoor
open Go.ChangeShapes Go.WideShapes Go.ChangeAt Go.RowKit
open Go.ChangeMaps (open_string shut_string)
set_option maxRecDepth 100000 in
theorem a3b (H:Type) (enc:TypeId×Value→H) (W:World) (base:Nat) (args:Array Value) (ds gs:List (DataW H)) (before:List MemPlace)
 (hval0:∀ (j:Nat) t v,Tryz.f7.params[j]?=some t→args[j]?=some v→Value.okWide Tryz.prog W .any base t v)
 (hW:DataW.Whole enc Tryz.prog Tryz.f7.params.toList Rows.autoMapsSpec.vars false W args.toList ds gs before)
 (hsz0:(DataW.weightsEach Tryz.prog (Tryz.f7.params.toList++Rows.autoMapsSpec.plain.varTypes Tryz.prog) (ds++gs)).all (·≤reachBytes)=true) (hL:laidMetH Tryz.prog Rows.autoMapsRow.laid W) :
 Calls Tryz.prog 7 args W fun e W'=>∃ v,e=.returned v∧Rows.autoMapsSpec.post enc Tryz.prog Tryz.f7 false true false false W args v W':=by
 have hval:=hval0;have hsz:=hsz0;have hW':=hW;obtain ⟨p,q,hA0,hV,rfl,hfz,hnd⟩:=hW;have hA:DataW.TrodAll enc Tryz.prog W 0 (fun _=>true) true Tryz.f7.params.toList args.toList ds p:=hA0;rw [Tryz.params7] at hA hval hsz;obtain ⟨v0,v1,d0,d1,p0,p1,rfl,rfl,rfl,t0,t1⟩:=trodAll_two hA;obtain ⟨g0,rv0,nv0,lv0,pv0,rfl,hg0⟩:=a0S (hval 0 27 v0 rfl rfl) t0;obtain ⟨g1,rv1,nv1,lv1,pv1,rfl,hg1⟩:=a0S (hval 1 27 v1 rfl rfl) t1;obtain ⟨rfl,rfl⟩:=trodVars_none hV;clear hA0 hval0 hsz0;have hOK:=b2d hL;have hC:=a8m rv0 nv0 lv0 pv0 rv1 nv1 lv1 pv1 g0 g1 W (a5z hOK) (c5b hOK) (a7a hOK) hg0 hg1;refine hC.mono fun e W' ⟨he,hb⟩=>?_
 subst he;exact ⟨_,rfl,a2r (by kernel_rfl) rfl (by kernel_rfl) rfl hW' hb⟩
set_option maxRecDepth 20000 in
theorem a8l (os:Os):laidMet Tryz.prog Rows.autoMapsRow.laid ((B_ os).forCall (fun _ _=>0) ⟨#[],#[.agg #[.slice none 0 0,.slice none 0 0,.slice none 0 0,.slice none 0 0,.int .i64 0],.agg #[.slice none 0 0,.slice none 0 0,.slice none 0 0,.slice none 0 0,.int .i64 0]],[]⟩).memory:=
 laidMet_of_run' 8 (by kernel_rfl) (by kernel_rfl)
set_option maxRecDepth 20000 in
theorem a4O (os:Os) {H:Type} (enc:TypeId×Value→H):∃ places,DataW.whole enc Tryz.prog ((B_ os).forCall (fun _ _=>0) ⟨#[],#[.agg #[.slice none 0 0,.slice none 0 0,.slice none 0 0,.slice none 0 0,.int .i64 0],.agg #[.slice none 0 0,.slice none 0 0,.slice none 0 0,.slice none 0 0,.int .i64 0]],[]⟩).memory Tryz.f7.params.toList Rows.autoMapsSpec.vars false (#[.agg #[.slice none 0 0,.slice none 0 0,.slice none 0 0,.slice none 0 0,.int .i64 0],.agg #[.slice none 0 0,.slice none 0 0,.slice none 0 0,.slice none 0 0,.int .i64 0]]:Array Value).toList 8=some ([.agg [.nil,.nil,.nil,.nil,.lit (.int .i64 0)],.agg [.nil,.nil,.nil,.nil,.lit (.int .i64 0)]],[],places):=
 ⟨[],by kernel_rfl⟩
set_option maxRecDepth 100000 in
theorem a4D (os:Os) (started:os.Started) (H:Type) (enc:TypeId×Value→H) (F:Stop.Interp) :
 ReturnsInHanded {} Tryz.checked os 7 .any ((OpenSpec.ofChange Rows.autoMapsSpec).preRow enc Tryz.prog Tryz.f7 Rows.autoMapsRow.domain false Rows.autoMapsRow.laid) (((OpenSpec.ofChange Rows.autoMapsSpec).at F).post enc Tryz.prog Tryz.f7 false true false false):=by
 obtain ⟨places,hx⟩:=a4O os enc;refine returnsInHanded_of_row (C:=Tryz.checked) (s:=OpenSpec.ofChange Rows.autoMapsSpec) Tryz.own started (by kernel_rfl) Tryz.func7
  (witness_row_at (enc:=enc) (C:=Tryz.checked) false (B_ os) #[.agg #[.slice none 0 0,.slice none 0 0,.slice none 0 0,.slice none 0 0,.int .i64 0],.agg #[.slice none 0 0,.slice none 0 0,.slice none 0 0,.slice none 0 0,.int .i64 0]] rfl (by kernel_rfl) (by kernel_rfl) (by kernel_rfl)
   (OpenSpec.preRow_of_cond 8 hx (by kernel_rfl) (fun k hk=>by cases hk) (by kernel_rfl) (a8l os))) ?_
 intro W base args ds gs before hval hW _ _ h3 hL _ _;exact a3b H enc W base args ds gs before hval hW h3 hL
set_option maxRecDepth 20000 in
theorem a4Q:Rows.AutoMapsSaid:=
 OpenClaim.holds_of_cond 7 Tryz.f7 rfl rfl rfl rfl rfl rfl rfl ⟨rfl,rfl,rfl,rfl,rfl⟩ rfl rfl rfl rfl rfl (by kernel_rfl) Tryz.func7 (by kernel_rfl)
  (of_decide_eq_true (by kernel_rfl)) (by unfold Func.isWrapper;first | (rw [if_pos (by decide +kernel)];kernel_rfl) | (rw [if_neg (by decide +kernel)];exact ⟨rfl,rfl⟩))
  (fun os started H enc _ F=>by rw [OpenClaim.pre_eq_preRow];exact a4D os started H enc F)
set_option maxRecDepth 20000 in
theorem a4P (f : FuncId) (fn : Func) (hf : Tryz.pinned.checked.prog.funcNamed "topiary/topiarylaw17.AutoMaps" = some f) (hfn : Tryz.pinned.checked.prog.funcs[f]? = some fn) :
 true=Tryz.pinned.checked.prog.looks []∧∀ (j:Nat) t,fn.params[j]?=some t→Tryz.pinned.checked.prog.wantsStandIn t=false:=by
 obtain rfl : f = 7 := Option.some.inj ((show Tryz.prog.funcNamed "topiary/topiarylaw17.AutoMaps" = some 7 by kernel_rfl).symm.trans hf) |>.symm
 obtain rfl:fn=Tryz.f7:=(Option.some.inj (Tryz.func7.symm.trans hfn)).symm;refine ⟨by kernel_rfl,fun j t ht=>?_⟩;rw [Tryz.params7] at ht;have h2:t=27:=by simpa using Array.mem_of_getElem? ht
 subst h2;exact (show Tryz.prog.wantsStandIn 27=false by kernel_rfl)
theorem autoMaps_card:Rows.AutoMapsCardSaid:=
 Claim7.holds_tied_plain_at .later [] _ _ _ _ a4Q (fun _ h=>by cases h) (by kernel_rfl) (fun _ h=>by cases h) autoMaps_row_tie rfl ⟨rfl,rfl⟩ (by kernel_rfl) rfl a4P (by kernel_rfl)
end Go.Proofs.YtjgedijclkoemaaGreatDoor
