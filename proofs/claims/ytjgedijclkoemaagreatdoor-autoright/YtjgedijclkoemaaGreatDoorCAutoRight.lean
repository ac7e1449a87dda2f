/- AutoRight: of any input the law answers true; the tied card: the tables of math/bits and internal/strconv are laid as the program's text lays them. -/
import Derived.Test.YtjgedijclkoemaaGreatDoorJ43
import Derived.Test.YtjgedijclkoemaaGreatDoorKAutoRight
namespace Go.Proofs.YtjgedijclkoemaaGreatDoor
open Go.ChangeShapes Go.WideShapes Go.ChangeAt Go.RowKit
open Go.ChangeMaps (open_string shut_string)
set_option maxRecDepth 100000 in
theorem a2E (H:Type) (enc:TypeId×Value→H) (W:World) (base:Nat) (args:Array Value) (ds gs:List (DataW H)) (before:List MemPlace)
 (hval0:∀ (j:Nat) t v,Tryz.f4.params[j]?=some t→args[j]?=some v→Value.okWide Tryz.prog W .any base t v)
 (hW:DataW.Whole enc Tryz.prog Tryz.f4.params.toList Rows.autoRightSpec.vars false W args.toList ds gs before)
 (hsz0:(DataW.weightsEach Tryz.prog (Tryz.f4.params.toList++Rows.autoRightSpec.plain.varTypes Tryz.prog) (ds++gs)).all (·≤reachBytes)=true) (hL:laidMetH Tryz.prog Rows.autoRightRow.laid W) :
 Calls Tryz.prog 4 args W fun e W'=>∃ v,e=.returned v∧Rows.autoRightSpec.post enc Tryz.prog Tryz.f4 false true false false W args v W':=by
 have hval:=hval0;have hsz:=hsz0;have hW':=hW;obtain ⟨p,q,hA0,hV,rfl,hfz,hnd⟩:=hW;have hA:DataW.TrodAll enc Tryz.prog W 0 (fun _=>true) true Tryz.f4.params.toList args.toList ds p:=hA0;rw [Tryz.params4] at hA hval hsz;obtain ⟨v0,v1,d0,d1,p0,p1,rfl,rfl,rfl,t0,t1⟩:=trodAll_two hA;obtain ⟨g0,rv0,nv0,lv0,pv0,rfl,hg0⟩:=a0S (hval 0 27 v0 rfl rfl) t0;obtain ⟨xa,xb,xc,rfl⟩:=b3n (hval 1 38 v1 rfl rfl) t1;obtain ⟨rfl,rfl⟩:=trodVars_none hV;clear hA0 hval0 hsz0;have hOK:=b2d hL;have hC:=a6H rv0 nv0 lv0 pv0 g0 xa xb xc W (a5z hOK) (c5a hOK) (a7a hOK) hg0;refine hC.mono fun e W' ⟨he,hb⟩=>?_
 subst he;exact ⟨_,rfl,a2r (by kernel_rfl) rfl (by kernel_rfl) rfl hW' hb⟩
set_option maxRecDepth 20000 in
theorem a6G (os:Os):laidMet Tryz.prog Rows.autoRightRow.laid ((B_ os).forCall (fun _ _=>0) ⟨#[],#[.agg #[.slice none 0 0,.slice none 0 0,.slice none 0 0,.slice none 0 0,.int .i64 0],.agg #[.int .i64 0,.int .i64 0,.int .i64 0]],[]⟩).memory:=
 laidMet_of_run' 8 (by kernel_rfl) (by kernel_rfl)
set_option maxRecDepth 20000 in
theorem a4A (os:Os) {H:Type} (enc:TypeId×Value→H):∃ places,DataW.whole enc Tryz.prog ((B_ os).forCall (fun _ _=>0) ⟨#[],#[.agg #[.slice none 0 0,.slice none 0 0,.slice none 0 0,.slice none 0 0,.int .i64 0],.agg #[.int .i64 0,.int .i64 0,.int .i64 0]],[]⟩).memory Tryz.f4.params.toList Rows.autoRightSpec.vars false (#[.agg #[.slice none 0 0,.slice none 0 0,.slice none 0 0,.slice none 0 0,.int .i64 0],.agg #[.int .i64 0,.int .i64 0,.int .i64 0]]:Array Value).toList 8=some ([.agg [.nil,.nil,.nil,.nil,.lit (.int .i64 0)],.agg [.lit (.int .i64 0),.lit (.int .i64 0),.lit (.int .i64 0)]],[],places):=
 ⟨[],by kernel_rfl⟩
set_option maxRecDepth 100000 in
theorem a3t (os:Os) (started:os.Started) (H:Type) (enc:TypeId×Value→H) (F:Stop.Interp) :
 ReturnsInHanded {} Tryz.checked os 4 .any ((OpenSpec.ofChange Rows.autoRightSpec).preRow enc Tryz.prog Tryz.f4 Rows.autoRightRow.domain false Rows.autoRightRow.laid) (((OpenSpec.ofChange Rows.autoRightSpec).at F).post enc Tryz.prog Tryz.f4 false true false false):=by
 obtain ⟨places,hx⟩:=a4A os enc;refine returnsInHanded_of_row (C:=Tryz.checked) (s:=OpenSpec.ofChange Rows.autoRightSpec) Tryz.own started (by kernel_rfl) Tryz.func4
  (witness_row_at (enc:=enc) (C:=Tryz.checked) false (B_ os) #[.agg #[.slice none 0 0,.slice none 0 0,.slice none 0 0,.slice none 0 0,.int .i64 0],.agg #[.int .i64 0,.int .i64 0,.int .i64 0]] rfl (by kernel_rfl) (by kernel_rfl) (by kernel_rfl)
   (OpenSpec.preRow_of_cond 8 hx (by kernel_rfl) (fun k hk=>by cases hk) (by kernel_rfl) (a6G os))) ?_
 intro W base args ds gs before hval hW _ _ h3 hL _ _;exact a2E H enc W base args ds gs before hval hW h3 hL
set_option maxRecDepth 20000 in
theorem a4C:Rows.AutoRightSaid:=
 OpenClaim.holds_of_cond 4 Tryz.f4 rfl rfl rfl rfl rfl rfl rfl ⟨rfl,rfl,rfl,rfl,rfl⟩ rfl rfl rfl rfl rfl (by kernel_rfl) Tryz.func4 (by kernel_rfl)
  (of_decide_eq_true (by kernel_rfl)) (by unfold Func.isWrapper;first | (rw [if_pos (by decide +kernel)];kernel_rfl) | (rw [if_neg (by decide +kernel)];exact ⟨rfl,rfl⟩))
  (fun os started H enc _ F=>by rw [OpenClaim.pre_eq_preRow];exact a3t os started H enc F)
set_option maxRecDepth 20000 in
theorem a4B (f : FuncId) (fn : Func) (hf : Tryz.pinned.checked.prog.funcNamed "topiary/topiarylaw17.AutoRight" = some f) (hfn : Tryz.pinned.checked.prog.funcs[f]? = some fn) :
 true=Tryz.pinned.checked.prog.looks []∧∀ (j:Nat) t,fn.params[j]?=some t→Tryz.pinned.checked.prog.wantsStandIn t=false:=by
 obtain rfl : f = 4 := Option.some.inj ((show Tryz.prog.funcNamed "topiary/topiarylaw17.AutoRight" = some 4 by kernel_rfl).symm.trans hf) |>.symm
 obtain rfl:fn=Tryz.f4:=(Option.some.inj (Tryz.func4.symm.trans hfn)).symm;refine ⟨by kernel_rfl,fun j t ht=>?_⟩;rw [Tryz.params4] at ht;have h2:t=27∨t=38:=by simpa using Array.mem_of_getElem? ht
 rcases h2 with rfl | rfl
 · exact (show Tryz.prog.wantsStandIn 27=false by kernel_rfl)
 · exact (show Tryz.prog.wantsStandIn 38=false by kernel_rfl)
theorem autoRight_card:Rows.AutoRightCardSaid:=
 Claim7.holds_tied_plain_at .later [] _ _ _ _ a4C (fun _ h=>by cases h) (by kernel_rfl) (fun _ h=>by cases h) autoRight_row_tie rfl ⟨rfl,rfl⟩ (by kernel_rfl) rfl a4B (by kernel_rfl)
end Go.Proofs.YtjgedijclkoemaaGreatDoor
