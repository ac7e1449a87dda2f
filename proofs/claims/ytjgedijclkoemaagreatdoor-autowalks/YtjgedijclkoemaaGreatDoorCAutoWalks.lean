/- AutoWalks: of any input the law answers true; the tied card: the tables of math/bits and internal/strconv are laid as the program's text lays them. -/
import Derived.Test.YtjgedijclkoemaaGreatDoorJ43
import Derived.Test.YtjgedijclkoemaaGreatDoorKAutoWalks
namespace Go.Proofs.YtjgedijclkoemaaGreatDoor
open Go.ChangeShapes Go.WideShapes Go.ChangeAt Go.RowKit
open Go.ChangeMaps (open_string shut_string)
set_option maxRecDepth 100000 in
theorem a2D (H:Type) (enc:TypeId×Value→H) (W:World) (base:Nat) (args:Array Value) (ds gs:List (DataW H)) (before:List MemPlace)
 (hval0:∀ (j:Nat) t v,Tryz.f5.params[j]?=some t→args[j]?=some v→Value.okWide Tryz.prog W .any base t v)
 (hW:DataW.Whole enc Tryz.prog Tryz.f5.params.toList Rows.autoWalksSpec.vars false W args.toList ds gs before)
 (hsz0:(DataW.weightsEach Tryz.prog (Tryz.f5.params.toList++Rows.autoWalksSpec.plain.varTypes Tryz.prog) (ds++gs)).all (·≤reachBytes)=true) (hL:laidMetH Tryz.prog Rows.autoWalksRow.laid W) :
 Calls Tryz.prog 5 args W fun e W'=>∃ v,e=.returned v∧Rows.autoWalksSpec.post enc Tryz.prog Tryz.f5 false true false false W args v W':=by
 have hval:=hval0;have hsz:=hsz0;have hW':=hW;obtain ⟨p,q,hA0,hV,rfl,hfz,hnd⟩:=hW;have hA:DataW.TrodAll enc Tryz.prog W 0 (fun _=>true) true Tryz.f5.params.toList args.toList ds p:=hA0;rw [Tryz.params5] at hA hval hsz;obtain ⟨v0,v1,v2,d0,d1,d2,p0,p1,p2,rfl,rfl,rfl,t0,t1,t2⟩:=trodAll_three hA;obtain ⟨g0,rv0,nv0,lv0,pv0,rfl,hg0⟩:=a0S (hval 0 27 v0 rfl rfl) t0;obtain ⟨z1,rfl,rfl,rfl,hz1⟩:=open_int Tryz.underlying3 (hval 1 3 v1 rfl rfl) t1;obtain ⟨l2,a2,c2,rfl,hN2,hl2,-⟩:=b3o (hval 2 41 v2 rfl rfl) t2;obtain ⟨rfl,rfl⟩:=trodVars_none hV;clear hA0 hval0 hsz0;have hOK:=b2d hL;have hC:=a6F rv0 nv0 lv0 pv0 _ g0 z1 l2 W (a5z hOK) c4Z (a7a hOK) hg0 hN2 (b1l hsz (j:=2) rfl rfl (b1m t2));refine hC.mono fun e W' ⟨he,hb⟩=>?_
 subst he;exact ⟨_,rfl,a2r (by kernel_rfl) rfl (by kernel_rfl) rfl hW' hb⟩
set_option maxRecDepth 20000 in
theorem a6E (os:Os):laidMet Tryz.prog Rows.autoWalksRow.laid ((B_ os).forCall (fun _ _=>0) ⟨#[],#[.agg #[.slice none 0 0,.slice none 0 0,.slice none 0 0,.slice none 0 0,.int .i64 0],.int .i64 0,.slice none 0 0],[]⟩).memory:=
 laidMet_of_run' 8 (by kernel_rfl) (by kernel_rfl)
set_option maxRecDepth 20000 in
theorem a4x (os:Os) {H:Type} (enc:TypeId×Value→H):∃ places,DataW.whole enc Tryz.prog ((B_ os).forCall (fun _ _=>0) ⟨#[],#[.agg #[.slice none 0 0,.slice none 0 0,.slice none 0 0,.slice none 0 0,.int .i64 0],.int .i64 0,.slice none 0 0],[]⟩).memory Tryz.f5.params.toList Rows.autoWalksSpec.vars false (#[.agg #[.slice none 0 0,.slice none 0 0,.slice none 0 0,.slice none 0 0,.int .i64 0],.int .i64 0,.slice none 0 0]:Array Value).toList 8=some ([.agg [.nil,.nil,.nil,.nil,.lit (.int .i64 0)],.lit (.int .i64 0),.nil],[],places):=
 ⟨[],by kernel_rfl⟩
set_option maxRecDepth 100000 in
theorem a3s (os:Os) (started:os.Started) (H:Type) (enc:TypeId×Value→H) (F:Stop.Interp) :
 ReturnsInHanded {} Tryz.checked os 5 .any ((OpenSpec.ofChange Rows.autoWalksSpec).preRow enc Tryz.prog Tryz.f5 Rows.autoWalksRow.domain false Rows.autoWalksRow.laid) (((OpenSpec.ofChange Rows.autoWalksSpec).at F).post enc Tryz.prog Tryz.f5 false true false false):=by
 obtain ⟨places,hx⟩:=a4x os enc;refine returnsInHanded_of_row (C:=Tryz.checked) (s:=OpenSpec.ofChange Rows.autoWalksSpec) Tryz.own started (by kernel_rfl) Tryz.func5
  (witness_row_at (enc:=enc) (C:=Tryz.checked) false (B_ os) #[.agg #[.slice none 0 0,.slice none 0 0,.slice none 0 0,.slice none 0 0,.int .i64 0],.int .i64 0,.slice none 0 0] rfl (by kernel_rfl) (by kernel_rfl) (by kernel_rfl)
   (OpenSpec.preRow_of_cond 8 hx (by kernel_rfl) (fun k hk=>by cases hk) (by kernel_rfl) (a6E os))) ?_
 intro W base args ds gs before hval hW _ _ h3 hL _ _;exact a2D H enc W base args ds gs before hval hW h3 hL
set_option maxRecDepth 20000 in
theorem a4z:Rows.AutoWalksSaid:=
 OpenClaim.holds_of_cond 5 Tryz.f5 rfl rfl rfl rfl rfl rfl rfl ⟨rfl,rfl,rfl,rfl,rfl⟩ rfl rfl rfl rfl rfl (by kernel_rfl) Tryz.func5 (by kernel_rfl)
  (of_decide_eq_true (by kernel_rfl)) (by unfold Func.isWrapper;first | (rw [if_pos (by decide +kernel)];kernel_rfl) | (rw [if_neg (by decide +kernel)];exact ⟨rfl,rfl⟩))
  (fun os started H enc _ F=>by rw [OpenClaim.pre_eq_preRow];exact a3s os started H enc F)
set_option maxRecDepth 20000 in
theorem a4y (f : FuncId) (fn : Func) (hf : Tryz.pinned.checked.prog.funcNamed "topiary/topiarylaw17.AutoWalks" = some f) (hfn : Tryz.pinned.checked.prog.funcs[f]? = some fn) :
 true=Tryz.pinned.checked.prog.looks []∧∀ (j:Nat) t,fn.params[j]?=some t→Tryz.pinned.checked.prog.wantsStandIn t=false:=by
 obtain rfl : f = 5 := Option.some.inj ((show Tryz.prog.funcNamed "topiary/topiarylaw17.AutoWalks" = some 5 by kernel_rfl).symm.trans hf) |>.symm
 obtain rfl:fn=Tryz.f5:=(Option.some.inj (Tryz.func5.symm.trans hfn)).symm;refine ⟨by kernel_rfl,fun j t ht=>?_⟩;rw [Tryz.params5] at ht;have h2:t=27∨t=3∨t=41:=by simpa using Array.mem_of_getElem? ht
 rcases h2 with rfl | rfl | rfl
 · exact (show Tryz.prog.wantsStandIn 27=false by kernel_rfl)
 · exact (show Tryz.prog.wantsStandIn 3=false by kernel_rfl)
 · exact (show Tryz.prog.wantsStandIn 41=false by kernel_rfl)
theorem autoWalks_card:Rows.AutoWalksCardSaid:=
 Claim7.holds_tied_plain_at .later [] _ _ _ _ a4z (fun _ h=>by cases h) (by kernel_rfl) (fun _ h=>by cases h) autoWalks_row_tie rfl ⟨rfl,rfl⟩ (by kernel_rfl) rfl a4y (by kernel_rfl)
end Go.Proofs.YtjgedijclkoemaaGreatDoor
