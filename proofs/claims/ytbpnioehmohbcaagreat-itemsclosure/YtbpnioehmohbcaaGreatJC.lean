/- ItemsClosure's walk. ItemsClosure: of any grammar and any items the law answers true: their closure is what the document says, it is its own closure, and the items stay as they were; no condition. -/
import Derived.Test.YtbpnioehmohbcaaGreatJ36
import Derived.Test.YtbpnioehmohbcaaGreatRows
import Derived.Test.YtbpnioehmohbcaaGreatJ1
import Derived.Test.YtbpnioehmohbcaaGreatJ43
namespace Go.Proofs.YtbpnioehmohbcaaGreat
open Go.RowKit Go.Maps Go.Sort
set_option maxRecDepth 100000 in
set_option maxHeartbeats 16000000 in
theorem itemsClosureWalk (HF:ItmOK) (HW:WkOK16) (rv nv lv pv av:Value) (g:Gm) (a:List It) (w:World) (h:GmV w rv nv lv pv g) (ha:Its w av a) (hal:a.length ≤ 9223372036854775807):Calls Tryz.prog 4 #[gmA rv nv lv pv g.start,av] w fun e w' => e = .returned (.bool true) ∧ Below w.heap.size w w':=by
 have hKp:=hid (fun u (hu:Below w.heap.size w u) => h.keep hu)
 have hAp:=hid (fun u (hu:Below w.heap.size w u) => ha.keep hu)
 have hB1:=al' w (.cells #[rv,nv,lv,pv,.int .i64 g.start] 27)
 have k1:=heap_new w (.cells #[rv,nv,lv,pv,.int .i64 g.start] 27)
 obtain ⟨W,hW⟩:∃ x,w.alloc (.cells #[rv,nv,lv,pv,.int .i64 g.start] 27) = x:=⟨_,rfl⟩
 rw [hW] at hB1 k1
 have hk1:=hid (fun u (hu:Below W.heap.size W u) => cells5m (hs_keep k1 hu))
 have hB:=hid hB1
 have GW:=hid (HW.wakes W)
 obtain ⟨aa,ac,rfl⟩:=ha.shape
 by_cases hf:Fits12 g
 · have GL:=hid (fun u (hu:Below w.heap.size w u) => longNo _ _ _ _ g u (hKp.out u hu) hf)
   by_cases hl:a.length ≤ 60
   · have GRa:=hid (fun u (hu:Below w.heap.size w u) => refRightI g rv nv lv pv (.slice aa a.length ac) a u (hKp.out u hu) hf.bnd hf.names (by omega) (hAp.out u hu))
     have hlz:(a.length:Int) ≤ 60:=by omega
     have hlz2:¬ (60:Int) < (a.length:Int):=by omega
     have GSa:=hid (fun u v v' (h1:Its u v a) (h2:Its u v' a) => refSameI v v' _ _ u (by omega) (by omega) h1 h2)
     rw [decide_eq_true rfl] at GSa
     by_cases hra:RgtI g a
     · rw [rgtB_yes hra] at GRa
       · have GC:=hid (fun u v (hu:Below w.heap.size w u) (hv:Its u v a) => HF.cloYes g rv nv lv pv v a u hf hra (hKp.out u hu) hv (by omega))
         have GK:=hid (fun u (hu:Below w.heap.size w u) => refClosure g rv nv lv pv (.slice aa a.length ac) a u (hKp.out u hu) hf.bnd hra (by omega) (hAp.out u hu))
         have l1:=cloL_len hra.us.snd a
         have GD:=hid (fun u v (hu:Below w.heap.size w u) (hv:Its u v (cloL g a)) => HF.cloYes g rv nv lv pv v (cloL g a) u hf (cloL_right hra) (hKp.out u hu) hv (by omega))
         rw [cloL_again hra] at GD
         have GSl:=hid (fun u v v' (h1:Its u v (cloL g a)) (h2:Its u v' (cloL g a)) => refSameI v v' _ _ u (by omega) (by omega) h1 h2)
         rw [decide_eq_true rfl] at GSl
         clear h hB1 k1 hf HF HW ha hKp hra
         generalize cloL g a = LA at *
         obtain ⟨al,hale⟩:∃ n,Hid (a.length = n):=⟨_,hid rfl⟩
         rw [hale.out] at hal hl hlz hlz2 hAp GRa GK ⊢
         generalize g.start = st at *
         go_enter Tryz.func4,Tryz.ntmps4
         go_wp2_with (first
          | (go_at_call 8;refine GW.out.mono ?_;rintro e w1 ⟨rfl,hc1⟩;have h1:=hid hc1;obtain ⟨x0,x1,x2,x3,x4⟩:=hk1.out w1 h1.out;clear hc1)
          | (go_at_call 9;refine (GL.out _ (bl_step hB.out h1.out)).mono ?_;rintro e w2 ⟨rfl,hc2⟩;have h2:=hid (bl_step h1.out hc2);clear hc2;clear x0 x1 x2 x3 x4;obtain ⟨x0,x1,x2,x3,x4⟩:=hk1.out w2 h2.out;have hal2:=al' w2 (.cells #[] 29);have hO2:Hid (OwnIt (w2.alloc (.cells #[] 29)) W.heap.size (.slice (some ⟨w2.heap.size,0,none⟩) 0 0) []):=hid (own_base (World.ownsRow_lit w2 #[] 0 (Nat.le_refl _) (by unfold maxLen;omega) rfl) h2.out.size);have hb2:=hid (bl_step h2.out hal2);have hA2:=hid (hAp.out _ (bl_step hB.out hb2.out));clear hal2)
          | (at_builtin;refine wp_appI _ rfl _ _ rfl W.heap.size [] a _ _ rfl rfl hO2.out hA2.out (by rw [hale.out];simp;omega) hb2.out.size ?_;intro v3 w3 hO3 hb3;obtain ⟨oa,oc,e3⟩:=(Its.of_row hO3).shape;rw [List.nil_append,hale.out] at e3;subst e3;have hO3:=hid (Its.of_row hO3);have h3:=hid (hb2.out.trans hb3);clear hb3;clear x0 x1 x2 x3 x4;obtain ⟨x0,x1,x2,x3,x4⟩:=hk1.out w3 h3.out)
          | (go_at_call 18;refine (GSl.out _ _ _ hY9.out hX9.out).mono ?_;rintro e w10 ⟨rfl,hc10⟩;have h10:=hid (bl_step h9.out hc10);clear hc10)
          | (go_at_call 18;refine (GSl.out _ _ _ hX7.out hO7.out).mono ?_;rintro e w8 ⟨rfl,hc8⟩;have hX8:=hid (hX7.out.keep hc8);have h8:=hid (bl_step h7.out hc8);clear hc8;clear x0 x1 x2 x3 x4;obtain ⟨x0,x1,x2,x3,x4⟩:=hk1.out w8 h8.out)
          | (go_at_call 18;refine (GSa.out _ _ _ hO4.out (hAp.out _ (bl_step hB.out h4.out))).mono ?_;rintro e w5 ⟨rfl,hc5⟩;have hX5:=hid (hX4.out.keep hc5);have h5:=hid (bl_step h4.out hc5);clear hc5;clear x0 x1 x2 x3 x4;obtain ⟨x0,x1,x2,x3,x4⟩:=hk1.out w5 h5.out)
          | (go_at_call 17;refine (GD.out _ _ (bl_step hB.out h8.out) hX8.out).mono ?_;rintro e w9 ⟨v9,rfl,hY9,-,hc9⟩;obtain ⟨qa,qc,e9⟩:=hY9.shape;subst e9;have hY9:=hid hY9;have hX9:=hid (hX8.out.keep hc9);have h9:=hid (bl_step h8.out hc9);clear hc9;clear x0 x1 x2 x3 x4;obtain ⟨x0,x1,x2,x3,x4⟩:=hk1.out w9 h9.out)
          | (go_at_call 17;refine (GC.out _ _ (bl_step hB.out h3.out) hO3.out).mono ?_;rintro e w4 ⟨v4,rfl,hX4,-,hc4⟩;obtain ⟨xa,xc,e4⟩:=hX4.shape;subst e4;have hX4:=hid hX4;have hO4:=hid (hO3.out.keep hc4);have h4:=hid (bl_step h3.out hc4);clear hc4;clear x0 x1 x2 x3 x4;obtain ⟨x0,x1,x2,x3,x4⟩:=hk1.out w4 h4.out)
          | (go_at_call 13;refine (GRa.out _ (bl_step hB.out h5.out)).mono ?_;rintro e w6 ⟨rfl,hc6⟩;have hX6:=hid (hX5.out.keep hc6);have h6:=hid (bl_step h5.out hc6);clear hc6;clear x0 x1 x2 x3 x4;obtain ⟨x0,x1,x2,x3,x4⟩:=hk1.out w6 h6.out)
          | (go_at_call 19;refine (GK.out _ (bl_step hB.out h6.out)).mono ?_;rintro e w7 ⟨v7,rfl,hO7,hc7⟩;obtain ⟨ra,rc,e7⟩:=(Its.of_row hO7).shape;subst e7;have hO7:=hid (Its.of_row hO7);have hX7:=hid (hX6.out.keep hc7);have h7:=hid (bl_step h6.out hc7);clear hc7;clear x0 x1 x2 x3 x4;obtain ⟨x0,x1,x2,x3,x4⟩:=hk1.out w7 h7.out))
         go_ret
         exact ⟨by simp,bl_step hB.out h10.out⟩
     · rw [rgtB_no hra] at GRa
       · have GC:=hid (fun u v (hu:Below w.heap.size w u) (hv:Its u v a) => HF.cloNo g rv nv lv pv v a u hf hra (hKp.out u hu) hv (by omega))
         clear h hB1 k1 hf HF HW ha hKp hra
         obtain ⟨al,hale⟩:∃ n,Hid (a.length = n):=⟨_,hid rfl⟩
         rw [hale.out] at hal hl hlz hlz2 hAp GRa ⊢
         generalize g.start = st at *
         go_enter Tryz.func4,Tryz.ntmps4
         go_wp2_with (first
          | (go_at_call 8;refine GW.out.mono ?_;rintro e w1 ⟨rfl,hc1⟩;have h1:=hid hc1;obtain ⟨x0,x1,x2,x3,x4⟩:=hk1.out w1 h1.out;clear hc1)
          | (go_at_call 9;refine (GL.out _ (bl_step hB.out h1.out)).mono ?_;rintro e w2 ⟨rfl,hc2⟩;have h2:=hid (bl_step h1.out hc2);clear hc2;clear x0 x1 x2 x3 x4;obtain ⟨x0,x1,x2,x3,x4⟩:=hk1.out w2 h2.out;have hal2:=al' w2 (.cells #[] 29);have hO2:Hid (OwnIt (w2.alloc (.cells #[] 29)) W.heap.size (.slice (some ⟨w2.heap.size,0,none⟩) 0 0) []):=hid (own_base (World.ownsRow_lit w2 #[] 0 (Nat.le_refl _) (by unfold maxLen;omega) rfl) h2.out.size);have hb2:=hid (bl_step h2.out hal2);have hA2:=hid (hAp.out _ (bl_step hB.out hb2.out));clear hal2)
          | (at_builtin;refine wp_appI _ rfl _ _ rfl W.heap.size [] a _ _ rfl rfl hO2.out hA2.out (by rw [hale.out];simp;omega) hb2.out.size ?_;intro v3 w3 hO3 hb3;obtain ⟨oa,oc,e3⟩:=(Its.of_row hO3).shape;rw [List.nil_append,hale.out] at e3;subst e3;have hO3:=hid (Its.of_row hO3);have h3:=hid (hb2.out.trans hb3);clear hb3;clear x0 x1 x2 x3 x4;obtain ⟨x0,x1,x2,x3,x4⟩:=hk1.out w3 h3.out)
          | (go_at_call 18;refine (GSa.out _ _ _ hO4.out (hAp.out _ (bl_step hB.out h4.out))).mono ?_;rintro e w5 ⟨rfl,hc5⟩;have hX5:=hid (hX4.out.keep hc5);have h5:=hid (bl_step h4.out hc5);clear hc5;clear x0 x1 x2 x3 x4;obtain ⟨x0,x1,x2,x3,x4⟩:=hk1.out w5 h5.out)
          | (go_at_call 17;refine (GC.out _ _ (bl_step hB.out h3.out) hO3.out).mono ?_;rintro e w4 ⟨v4,rfl,hX4,hc4⟩;obtain ⟨xa,xc,e4⟩:=hX4.shape;subst e4;have hX4:=hid hX4;have hO4:=hid (hO3.out.keep hc4);have h4:=hid (bl_step h3.out hc4);clear hc4;clear x0 x1 x2 x3 x4;obtain ⟨x0,x1,x2,x3,x4⟩:=hk1.out w4 h4.out)
          | (go_at_call 13;refine (GRa.out _ (bl_step hB.out h5.out)).mono ?_;rintro e w6 ⟨rfl,hc6⟩;have hX6:=hid (hX5.out.keep hc6);have h6:=hid (bl_step h5.out hc6);clear hc6;clear x0 x1 x2 x3 x4;obtain ⟨x0,x1,x2,x3,x4⟩:=hk1.out w6 h6.out))
         go_ret
         exact ⟨by simp,bl_step hB.out h6.out⟩
   · skip
     have hlz:¬ (a.length:Int) ≤ 60:=by omega
     have hlz2:(60:Int) < (a.length:Int):=by omega
     clear h hB1 k1 HF HW ha hKp hAp
     generalize a.length = al at *
     generalize g.start = st at *
     go_enter Tryz.func4,Tryz.ntmps4
     go_wp2_with (first
      | (go_at_call 8;refine GW.out.mono ?_;rintro e w1 ⟨rfl,hc1⟩;have h1:=hid hc1;obtain ⟨x0,x1,x2,x3,x4⟩:=hk1.out w1 h1.out;clear hc1)
      | (go_at_call 9;refine (GL.out _ (bl_step hB.out h1.out)).mono ?_;rintro e w2 ⟨rfl,hc2⟩;have h2:=hid (bl_step h1.out hc2);clear hc2;clear x0 x1 x2 x3 x4;obtain ⟨x0,x1,x2,x3,x4⟩:=hk1.out w2 h2.out))
     go_ret
     exact ⟨rfl,bl_step hB.out h2.out⟩
 · skip
   have GL:=hid (fun u (hu:Below w.heap.size w u) => longYes _ _ _ _ g u (hKp.out u hu) hf)
   clear h hB1 k1 HF HW ha hKp hAp
   generalize a.length = al at *
   generalize g.start = st at *
   go_enter Tryz.func4,Tryz.ntmps4
   go_wp2_with (first
    | (go_at_call 8;refine GW.out.mono ?_;rintro e w1 ⟨rfl,hc1⟩;have h1:=hid hc1;obtain ⟨x0,x1,x2,x3,x4⟩:=hk1.out w1 h1.out;clear hc1)
    | (go_at_call 9;refine (GL.out _ (bl_step hB.out h1.out)).mono ?_;rintro e w2 ⟨rfl,hc2⟩;have h2:=hid (bl_step h1.out hc2);clear hc2;clear x0 x1 x2 x3 x4;obtain ⟨x0,x1,x2,x3,x4⟩:=hk1.out w2 h2.out))
   go_ret
   exact ⟨rfl,bl_step hB.out h2.out⟩
end Go.Proofs.YtbpnioehmohbcaaGreat
namespace Go.Proofs.YtbpnioehmohbcaaGreat
open Go.ChangeShapes Go.WideShapes Go.ChangeAt Go.RowKit
open Go.ChangeMaps (open_string shut_string)
set_option maxRecDepth 100000 in
theorem itemsClosure_lifted (os:Os) (started:os.Started) (H:Type) (enc:TypeId × Value → H) :
 ReturnsInHanded {} Tryz.checked os 4 .any (Rows.itemsClosureSpec.pre6 enc Tryz.prog Tryz.f4 Rows.itemsClosureRow.domain false) (Rows.itemsClosureSpec.post enc Tryz.prog Tryz.f4 false true false false):=by
 refine returnsInHanded_of_change (C:=Tryz.checked) Tryz.own started (by kernel_rfl) Tryz.func4
  (ChangeSpec.witness6 (enc:=enc) (C:=Tryz.checked) false ⟨#[],#[.agg #[.slice none 0 0,.slice none 0 0,.slice none 0 0,.slice none 0 0,.int .i64 0],.slice none 0 0],[]⟩ 8 (by kernel_rfl) (by kernel_rfl) (by kernel_rfl) (by kernel_rfl)) ?_
 intro W base args ds gs before hval0 hW hcnd _
 have hval:∀ (j:Nat) t v,Tryz.f4.params[j]? = some t → args[j]? = some v → Value.okWide Tryz.prog W .any base t v:=hval0
 have hW':=hW
 obtain ⟨p,q,hA0,hV,rfl,hfz,hnd⟩:=hW
 have hA:DataW.TrodAll enc Tryz.prog W 0 (fun _ => true) true Tryz.f4.params.toList args.toList ds p:=hA0
 rw [Tryz.params4] at hA hval
 obtain ⟨v0,v1,d0,d1,p0,p1,rfl,rfl,rfl,h0,h1⟩:=trodAll_two hA
 obtain ⟨g,rv,nv,lv,pv,rfl,hg⟩:=open_gram (hval 0 27 v0 rfl rfl) h0
 obtain ⟨a,ha,hal⟩:=open_its h1 (hval 1 36 v1 rfl rfl)
 obtain ⟨rfl,rfl⟩:=trodVars_none hV
 clear hA0 hval0
 refine (itemsClosureWalk itmOK wkOK16 rv nv lv pv _ g a W hg ha hal).mono fun e W' ⟨he,hb⟩ => ?_
 subst he
 exact ⟨_,rfl,law_post (by kernel_rfl) rfl (by kernel_rfl) rfl hW' hb⟩
set_option maxRecDepth 20000 in
theorem itemsClosure_holds:Rows.ItemsClosureSaid:=
 OpenClaim.holds_of_wide 4 Tryz.f4 rfl rfl rfl rfl rfl rfl rfl ⟨rfl,rfl,rfl,rfl,rfl⟩ rfl rfl rfl rfl rfl (by kernel_rfl) Tryz.func4 (by kernel_rfl)
  (of_decide_eq_true (by kernel_rfl)) (by unfold Func.isWrapper;first | (rw [if_pos (by decide +kernel)];kernel_rfl) | (rw [if_neg (by decide +kernel)];exact ⟨rfl,rfl⟩))
  (fun os started H enc _ => itemsClosure_lifted os started H enc)
end Go.Proofs.YtbpnioehmohbcaaGreat
