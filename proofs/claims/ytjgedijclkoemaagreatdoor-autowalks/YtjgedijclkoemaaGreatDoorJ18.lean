/- What the five laws of layer 17 share, part 18: no statement of its own. -/
import Derived.Test.YtjgedijclkoemaaGreatDoorJ17
namespace Go.Proofs.YtjgedijclkoemaaGreatDoor
open Go.RowKit Go.Maps Go.Sort
def c1Y:Value→Nat
 | .slice _ n _=>n
 | _=>0
def c2U:Value→Nat
 | .bool true=>1
 | _=>0
theorem a7N {w:World} {B:Nat} {v:Value} {l:List It} (h:OwnIt w B v l):c1Y v=l.length:=by
 obtain ⟨a,c,rfl⟩:=(Its.of_row h).shape;rfl
set_option maxRecDepth 100000 in
set_option maxHeartbeats 16000000 in
theorem b1e (g:Gm) (rv nv lv pv v:Value) (l:List It) (w:World) (hV:GmV w rv nv lv pv g) (hb:BndG g) (hr:RgtI g l) (hl:l.length≤100000) (hI:Its w v l) :
 Calls Tryz.prog 51 #[gmA rv nv lv pv g.start,v] w fun e w'=>∃ v',e=.returned v'∧OwnIt w' w.heap.size v' (a3q g l)∧Below w.heap.size w w':=by
 have hg:=hr.us.snd;have GN:=hid (fun u (hu:Below w.heap.size w u) x hx=>a9I g _ _ _ _ x u (hV.keep hu) hb hx);have GO:=hid (fun u (hu:Below w.heap.size w u) v' l' (hl':l'.length≤1000000) (h:Its u v' l')=>b7O g _ _ _ _ v' l' u (hV.keep hu) hb hg hl' h);obtain ⟨pa,pc,rfl⟩:=hV.prods.shape;obtain ⟨va,vc,rfl⟩:=hI.shape;have hB1:=al' w (.cells #[rv,nv,lv,.slice pa g.prods.length pc,.int .i64 g.start] 27);have k1:=b_ w (.cells #[rv,nv,lv,.slice pa g.prods.length pc,.int .i64 g.start] 27);obtain ⟨W,hW⟩:∃ x,w.alloc (.cells #[rv,nv,lv,.slice pa g.prods.length pc,.int .i64 g.start] 27)=x:=⟨_,rfl⟩;rw [hW] at hB1 k1;have hk1:=hid (fun u (hu:Below W.heap.size W u)=>l_ (g_ k1 hu));have hB:=hid hB1
 have hKp:Hid (∀ u,Below w.heap.size w u→∀ k (hk:k<g.prods.length),∃ b o,pa=some ⟨b,o,none⟩∧u.cell? ⟨b,o+k * 3,none⟩=some (.int .i64 g.prods[k].left)):=hid (fun u hu k hk=>by
  obtain ⟨b,o,e,-,hx⟩:=(hV.keep hu).prods.at hk;obtain ⟨v,x0,x1,x2,hN⟩:=hx;exact ⟨b,o,e,x0⟩)
 have hpp:g.prods.length≤40:=hg.prods;have cS:=hid (CI.start g l);have cZ:=hid (fun out (h:CI g l out)=>CR.start h);have cG:=hid (fun out0 out (k:Nat) more (h:CR g l out0 k out more) (hk:k<g.prods.length) (hn:out.contains ((k:Int),(0:Int))=false) x (hx:x∈out) (e:a0k g x=g.prods[k].left)=>h.grow hk hn hx e);have cT:=hid (fun out0 out (k:Nat) more (h:CR g l out0 k out more) (hk:k<g.prods.length) (hc:out.contains ((k:Int),(0:Int))=true∨∀ x∈out,a0k g x≠g.prods[k].left)=>h.still hk hc);have cE:=hid (fun out0 out (h:CR g l out0 g.prods.length out false)=>h.done);have cL:=hid (fun out (h:CI g l out)=>h.len);have cI:=hid (fun out (h:CI g l out)=>h.items hr.all);have hI1:=hid (hI.keep hB1);have hO0:=hid (OwnIt.nil0 W W.heap.size);clear hV hb hg hB1 k1 hI hr;obtain ⟨pp,hp9⟩:∃ n,Hid (g.prods.length=n):=⟨_,hid rfl⟩;rw [hp9.out] at GN GO hk1 hpp hW cE ⊢;obtain ⟨ln,hln⟩:∃ n,Hid (l.length=n):=⟨_,hid rfl⟩;rw [hln.out] at hl hI1 ⊢;rw [hp9.out,hln.out] at cL;generalize g.start=st at *;go_enter Tryz.func51,Tryz.ntmps51
 go_wp2_with (at_builtin;refine a3R _ rfl _ _ rfl W.heap.size [] l _ _ rfl rfl hO0.out hI1.out (by rw [hln.out];simp;omega) (Nat.le_refl _) ?_;intro v1 w1 hO1 hb1;have hO1:=hid hO1;have hb1:=hid hb1)
 rw [List.nil_append] at hO1;clear hW hO0 hI1;go_loopw [5,6] (fun v m wr=>∃ (out:List It) (more:Bool),m=.bool more∧Hid (OwnIt wr W.heap.size v out)∧Hid (CI g l out)∧Hid (more=false→ofI g out=a3q g l)∧Hid (Below W.heap.size W wr)) (fun v m _=>2 * (ln+pp - c1Y v)+c2U m)
 case atStart=>exact ⟨l,true,rfl,hO1,cS,hid (fun h=>by cases h),hb1⟩
 case round =>
  clear hO1 hb1 cS;obtain ⟨out,more,rfl,hO,hC,hF,hbl⟩:=hrel;cases more with
  | false =>
   have hlo:=cL.out out hC.out;have G:=hid (GO.out wr (a_ hB.out hbl.out) _ out (by omega) (Its.of_row hO.out));obtain ⟨y0,y1,y2,y3,y4⟩:=hk1.out wr hbl.out;rw [hF.out rfl] at G;clear hO;go_wp2_with (go_at_call 53;refine G.out.mono ?_;clear G;rintro e w5 ⟨v5,rfl,hO5,hc5⟩;have hO5:=hid hO5;have hc5:=hid hc5)
   go_ret;exact ⟨_,rfl,a0o hO5.out (a_ hB.out hbl.out).size,a_ hB.out (a_ hbl.out hc5.out)⟩
  | true =>
   clear hF;have hR0:=hid (cZ.out out hC.out);have hlen0:=hid (a7N hO.out);have hlo0:=hid (cL.out out hC.out);go_wp2;go_loopw [5,6,7] (fun v m p u=>∃ (k:Nat) (o2:List It) (m2:Bool),k≤pp∧p=.int .i64 (k:Int)∧m=.bool m2∧Hid (OwnIt u W.heap.size v o2)∧Hid (CR g l out k o2 m2)∧Hid (Below W.heap.size W u)) (fun _ _ p _=>pp - (intOf p).toNat)
   case atStart=>exact ⟨0,out,false,Nat.zero_le _,rfl,rfl,hO,hR0,hbl⟩
   case round =>
    clear hO hbl hR0;obtain ⟨k,o2,m2,hk,rfl,rfl,hO,hR,hbl⟩:=hrel;obtain ⟨y0,y1,y2,y3,y4⟩:=hk1.out _ hbl.out;by_cases hlt:k<pp
    · have hltz:(k:Int)<(pp:Int):=by omega
      have hkl:k<g.prods.length:=by rw [hp9.out];exact hlt
      obtain ⟨wo,hwo⟩:∃ x,x=wr:=⟨_,rfl⟩;subst hwo;obtain ⟨oa,oc,rfl⟩:=(Its.of_row hO.out).shape;have hlo2:=hid (cL.out o2 hR.out.ci);have hal:=al' wo (.cells #[.int .i64 (k:Int),.int .i64 0] 49);have kx:=hid (b_ wo (.cells #[.int .i64 (k:Int),.int .i64 0] 49));have hO1:=hid (j_ hO.out hal);have hb1:=hid (a_ hbl.out hal);obtain ⟨ol,hol⟩:∃ n,Hid (o2.length=n):=⟨_,hid rfl⟩;have hol9:ol≤200000:=by rw [← hol.out];have:=hlo2.out;omega
      have GH:=hid (b2M _ o2 ((k:Int),0) (wo.alloc (.cells #[.int .i64 (k:Int),.int .i64 0] 49)) (by rw [hol.out];omega) (Its.of_row hO1.out));rw [hol.out] at GH ⊢;clear hal;cases hc:o2.contains ((k:Int),0) with
      | true =>
       rw [hc] at GH;have hT:=hid (cT.out _ _ _ _ hR.out hkl (.inl hc));clear hc kx hO hbl hR;go_wp2_with (go_at_call 75;refine GH.out.mono ?_;clear GH;rintro e w4 ⟨rfl,hc4⟩;have hO4:=hid (j_ hO1.out hc4);have hb4:=hid (a_ hb1.out hc4);clear hc4 hO1 hb1)
       go_roundw
       case rel=>exact ⟨k+1,o2,m2,by omega,by go_num,rfl,by rw [← hol.out];exact hO4,hT,hb4⟩
       case measure=>simp [intOf];omega
      | false =>
       rw [hc] at GH;have hcH:=hid hc;clear hc hO hbl;go_wp2_with (go_at_call 75;refine GH.out.mono ?_;clear GH;rintro e w4 ⟨rfl,hc4⟩;have hO4:=hid (j_ hO1.out hc4);have hb4:=hid (a_ hb1.out hc4);have kx4:=hid (g_ kx.out hc4);clear hc4 hO1 hb1 y0 y1 y2 y3 y4)
       clear kx;have b40:=hid (Below.refl w4.heap.size w4);go_loopw [5,6,9] (fun v5 m6 i u=>∃ ii:Nat,v5=.slice oa ol oc∧m6=.bool m2∧ii≤ol∧i=.int .i64 (ii:Int)∧Hid (∀ j,j<ii→∀ hj:j<o2.length,a0k g o2[j]≠g.prods[k].left)∧Hid (Below w4.heap.size w4 u)) (fun _ _ i _=>ol - (intOf i).toNat)
       case atStart=>exact ⟨0,rfl,rfl,Nat.zero_le _,rfl,hid (fun j hj=>absurd hj (Nat.not_lt_zero _)),b40⟩
       case round =>
        clear b40;obtain ⟨ii,rfl,rfl,hi,rfl,hN,hbu⟩:=hrel;have hb5:=hid (a_ hb4.out hbu.out);have hO5:=hid (j_ hO4.out hbu.out);by_cases hlt2:ii<ol
        · have hltz2:(ii:Int)<(ol:Int):=by omega
          have hil:ii<o2.length:=by rw [hol.out];exact hlt2
          obtain ⟨pb,po,pe,zp⟩:=hKp.out wr (a_ hB.out hb5.out) k hkl;subst pe;have hat:=Its.of_row hO5.out;rw [hol.out] at hat;obtain ⟨b,o,e,-,z0,z1⟩:=Lst.at hat hil;subst e;obtain ⟨y0,y1,y2,y3,y4⟩:=hk1.out _ hb5.out;have hx:=cI.out o2 hR.out.ci _ (List.getElem_mem hil);have cA:Hid (∀ d os,Calls Tryz.prog 52 #[gmA rv nv lv (.slice (some ⟨pb,po,none⟩) pp pc) st,itV o2[ii]] (grow (redrawn wr d) os) fun e w''=>e=.returned (.int .i64 (a0k g o2[ii]))∧∃ p:Regrown,w''=grow (redrawn wr p.d) p.os):=hid (fun d os=>Calls.regrown_of (GN.out _ (a_ hB.out (a_ hb5.out (below_regrown wr d os))) _ hx));have z0:=cell_regrown z0;have z1:=cell_regrown z1;have zp:=cell_regrown zp;have y0:=cell_regrown y0;have y1:=cell_regrown y1;have y2:=cell_regrown y2;have y3:=cell_regrown y3;have y4:=cell_regrown y4;have hyes:=hid (fun h=>cG.out _ _ _ _ hR.out hkl hcH.out _ (List.getElem_mem hil) h);clear hat hx;by_cases hd:a0k g o2[ii]=g.prods[k].left
          · have hq:(a0k g o2[ii] == g.prods[k].left)=true:=beq_iff_eq.2 hd
            have hT:=hid (hyes.out hd);clear hyes hd hN;generalize a0k g o2[ii]=nx at *;generalize g.prods[k].left=lf at *;go_wp2_with fail
            refine wp_region_quiet_below (by kernel_rfl) (by kernel_rfl) ?_
            repeat (first | go_big_quiet_step (exact cA.out _ _) | quiet_step (exact cA.out _ _))
            refine wpQuiet_nil ?_;intro _ hw';obtain ⟨⟨dq,osq⟩,hw''⟩:=hw';subst hw'';have hb6:=hid (a_ hb5.out (below_regrown wr dq osq));have hO6:=hid (j_ hO5.out (below_regrown wr dq osq));have kx6:=hid (g_ kx4.out (a_ hbu.out (below_regrown wr dq osq)));generalize grow (redrawn wr dq) osq=w6 at *;obtain ⟨f0,f1⟩:=w_ kx6.out;have hal:=al' w6 (.cells #[.int .i64 (k:Int),.int .i64 0] 49);have hOa:Hid (OwnIt (w6.alloc (.cells #[.int .i64 (k:Int),.int .i64 0] 49)) W.heap.size (.slice (some ⟨b,o,none⟩) ol oc) o2):=hid (by rw [← hol.out];exact j_ hO6.out hal);have hDa:=hid (Its.lit1 w6 (k:Int) 0);have hBa:=hid (a_ hb6.out hal);clear z0 z1 zp y0 y1 y2 y3 y4 hal hq cA hO5 hO6 kx6 hb5 hO4 hbu;go_wp2_with (at_builtin;refine a3R _ rfl _ _ rfl W.heap.size o2 [((k:Int),0)] _ _ rfl rfl hOa.out hDa.out (by rw [hol.out];simp;omega) hBa.out.size ?_;intro v9 w9 hO9 hb9;have hO9:=hid hO9;have hb9:=hid (hBa.out.trans hb9))
            go_roundw
            case rel=>exact ⟨k+1,_,true,by omega,by go_num,rfl,hO9,hT,hb9⟩
            case measure=>simp [intOf];omega
          · have hq:(a0k g o2[ii] == g.prods[k].left)=false:=beq_eq_false_iff_ne.2 hd
            have hN9:Hid (∀ j,j<ii+1→∀ hj:j<o2.length,a0k g o2[j]≠g.prods[k].left):=hid (fun j hj1 hj=>by
             rcases Nat.lt_or_ge j ii with h | h
             · exact hN.out j h hj
             · obtain rfl:j=ii:=by omega
               exact hd)
            clear hyes hd hN;generalize a0k g o2[ii]=nx at *;obtain ⟨lf,hlf⟩:∃ x,Hid (g.prods[k].left=x):=⟨_,hid rfl⟩;rw [hlf.out] at hq zp;go_wp2_with fail
            refine wp_region_quiet_below (by kernel_rfl) (by kernel_rfl) ?_
            repeat (first | go_big_quiet_step (exact cA.out _ _) | quiet_step (exact cA.out _ _))
            refine wpQuiet_nil ?_;intro _ hw';obtain ⟨⟨dq,osq⟩,hw''⟩:=hw';subst hw'';have hb6:=hid (a_ hbu.out (below_regrown wr dq osq));generalize grow (redrawn wr dq) osq=w6 at *;clear z0 z1 zp y0 y1 y2 y3 y4 hq cA hO5 hb5;go_wp2;go_roundw
            case rel=>exact ⟨ii+1,rfl,rfl,by omega,by go_num,hN9,hb6⟩
            case measure=>simp [intOf];omega
        · have hltz2:¬ (ii:Int)<(ol:Int):=by omega
          obtain rfl:ii=ol:=by omega
          have hT:=hid (cT.out _ _ _ _ hR.out hkl (.inr fun x hx=>by
           obtain ⟨j,hj,rfl⟩:=List.getElem_of_mem hx;exact hN.out j (by rw [← hol.out];exact hj) hj))
          go_wp2;go_roundw
          case rel=>exact ⟨k+1,o2,m2,by omega,by go_num,rfl,by rw [← hol.out];exact hO5,hT,hb5⟩
          case measure=>simp [intOf];omega
    · have hltz:¬ (k:Int)<(pp:Int):=by omega
      obtain rfl:k=pp:=by omega
      have hl2:=hid (a7N hO.out);have hlo2:=hid (cL.out o2 hR.out.ci);have hF2:Hid (m2=false→ofI g o2=a3q g l):=hid (fun h=>by subst h;exact cE.out _ _ hR.out)
      have hms:Hid (2 * (ln+k - o2.length)+c2U (.bool m2)<2 * (ln+k - out.length)+1):=hid (by
       cases m2 with
       | true=>have:=hR.out.yes rfl;have:=hlo2.out;show _+1<_;omega
       | false=>rw [(hR.out.no rfl).1];show _+0<_;omega)
      go_wp2;go_roundw
      case rel=>exact ⟨o2,m2,rfl,hO,hid hR.out.ci,hF2,hbl⟩
      case measure=>have:=hms.out;rw [hl2.out,hlen0.out];exact this
structure RestI (R:Prop):Prop where
 out:R
theorem b4z {R G:Prop} (h:RestI R→G) (pf:R):G:=h ⟨pf⟩
set_option maxRecDepth 20000 in
theorem b2p {ops:Array Oper} {o:Oper} {a:Act} {w:World} {K:Act→World→Prop} {Q:Exit→Act→World→Prop} {E:Prop} (hgd:o.guard=none) (s x:Operand) (t:TypeId)
 (ho:o.op=.call { callee:=.builtin .append,args:=#[s,x],argTypes:=#[t,t] }) (v vx:Value) (hs:a.eval s=v) (hx:a.eval x=vx) {v':Value} {w':World}
 (hr:(Builtin.append_ #[t,t] o.type #[v,vx]).run Tryz.prog w=.ok v' w') (h:K (a.put o.dst v') w'):if Region.wanted o (yielded ops a.tmps)=true then Oper.wp Tryz.prog o a w K Q else E:=by
 have hw:Region.wanted o (yielded ops a.tmps)=true:=by simp [Region.wanted,hgd]
 rw [if_pos hw];unfold Oper.wp;simp [execOp,ho,resolve,invoke,builtin,hs,hx,hr,Result.andThen]
 exact h
theorem a0Q {P:Program} {ops:Array Oper} {o:Oper} {a:Act} {w:World} {K:Act→World→Prop} {Q:Exit→Act→World→Prop} {E:Prop} (hw:Region.wanted o (yielded ops a.tmps)=true) (f:FuncId) (args:Array Value)
 (hrun:(execOp a.eval o).run P w=.ok (.enter f args) w) {R:Ending→World→Prop} (hc:Calls P f args w R) (h:∀ e w',R e w'→∃ v,e=.returned v∧K (a.put o.dst v) w') :
 if Region.wanted o (yielded ops a.tmps)=true then Oper.wp P o a w K Q else E:=by
 rw [if_pos hw];unfold Oper.wp;rw [hrun,Oper.upon_enter];refine hc.mono fun e w' hr=>?_
 obtain ⟨v,rfl,hk⟩:=h e w' hr;exact hk
set_option maxRecDepth 20000 in
theorem b2y {B:Nat} {l:List It} {v:Value} {x y:Int} {u:World} (hO:OwnIt u B v l) (hl:l.length≤1000000) (hB:B≤u.heap.size) :
 ∃ g c w',(Builtin.append_ #[40,40] 40 #[v,.slice (some ⟨u.heap.size,0,none⟩) 1 1]).run Tryz.prog ((u.alloc (.cells #[.int .i64 x,.int .i64 y] 49)).drew)=.ok (.slice (some ⟨g,0,none⟩) (l.length+1) c) w'∧OwnIt w' B (.slice (some ⟨g,0,none⟩) (l.length+1) c) (l++[(x,y)])∧Below B u w':=by
 obtain ⟨i0,hi,hz0,hz1,hz2⟩:=info_parts b0j;have hal:=al' u (.cells #[.int .i64 x,.int .i64 y] 49);have hd:Below u.heap.size u ((u.alloc (.cells #[.int .i64 x,.int .i64 y] 49)).drew):=hal.drew;have hO1:=j_ hO hd;have k1:((u.alloc (.cells #[.int .i64 x,.int .i64 y] 49)).drew).heap[u.heap.size]?=some (.cells #[.int .i64 x,.int .i64 y] 49):=b_ u (.cells #[.int .i64 x,.int .i64 y] 49);obtain ⟨v',w',hr,hO',hg,hnil⟩:=run_append_own (P:=Tryz.prog) ((u.alloc (.cells #[.int .i64 x,.int .i64 y] 49)).drew) B 40 40 49 i0 (.agg #[.int .i64 0,.int .i64 0]) 2 16 Tryz.underlying40 hi hz0 hz1 hz2 rfl (by decide) _ _ _ hO1 ⟨u.heap.size,0,none⟩ 1 1 [.int .i64 x,.int .i64 y] rfl (World.news_of_block k1) (by simp [Value.oneCell']) (by unfold maxLen;omega) (by omega) (Nat.le_trans hB hd.size)
 have hO2:OwnIt w' B v' (l++[(x,y)]):=by
  unfold OwnIt;rw [a1e,List.length_append];exact hO'
 obtain ⟨a,c,e⟩:=(Its.of_row hO2).shape;rw [List.length_append,List.length_singleton] at e;rcases hO2.2 with ⟨e0,h0⟩ | ⟨g,cap,cur,e1,_⟩
 · rw [List.length_append,List.length_singleton] at h0;omega
 · rw [e1] at hO2 hr
   rw [List.length_append,List.length_singleton] at hO2 hr;exact ⟨g,cap,w',hr,hO2,(hd.mono hB).grown hg (Nat.le_trans hB hd.size) (fun k hk=>(hO1.lt k hk).1)⟩
theorem b6u {g:Gm} {l:List It} {sym:Int} {k:Nat} (hk:k<l.length):mvL g (l.take (k+1)) sym=mvL g (l.take k) sym++(if 0<sym∧a0k g l[k]=sym then [(l[k].1,l[k].2+1)] else []):=by
 unfold mvL;rw [List.take_succ_eq_append_getElem hk,List.filter_append,List.map_append];congr 1
 by_cases h:0<sym∧a0k g l[k]=sym
 · rw [if_pos h,List.filter_cons_of_pos (by rw [Bool.and_eq_true,decide_eq_true_eq,decide_eq_true_eq];exact h)]
   rfl
 · rw [if_neg h,List.filter_cons_of_neg (by rw [Bool.and_eq_true,decide_eq_true_eq,decide_eq_true_eq];exact h)]
   rfl
theorem b9A (g:Gm) (l:List It) (sym:Int):(mvL g l sym).length≤l.length:=by
 unfold mvL;rw [List.length_map];exact List.length_filter_le _ _
set_option maxRecDepth 100000 in
set_option maxHeartbeats 16000000 in
theorem b8X (g:Gm) (rv nv lv pv v:Value) (l:List It) (sym:Int) (w:World) (hV:GmV w rv nv lv pv g) (hb:BndG g) (hr:RgtI g l) (hl:l.length≤100000) (hI:Its w v l) :
 Calls Tryz.prog 28 #[gmA rv nv lv pv g.start,v,.int .i64 sym] w fun e w'=>∃ v',e=.returned v'∧OwnIt w' w.heap.size v' (I_ g l sym)∧Below w.heap.size w w':=by
 have hg:=hr.us.snd;have GN:=hid (fun u (hu:Below w.heap.size w u) x hx=>a9I g _ _ _ _ x u (hV.keep hu) hb hx);have GO:=hid (fun u (hu:Below w.heap.size w u) v' l' (hl':l'.length≤1000000) (h:Its u v' l')=>b7O g _ _ _ _ v' l' u (hV.keep hu) hb hg hl' h);have GC:=hid (fun u (hu:Below w.heap.size w u)=>b1e g _ _ _ _ v l u (hV.keep hu) hb hr hl (hI.keep hu));have hB1:=al' w (.cells #[rv,nv,lv,pv,.int .i64 g.start] 27);have k1:=b_ w (.cells #[rv,nv,lv,pv,.int .i64 g.start] 27);obtain ⟨W,hW⟩:∃ x,w.alloc (.cells #[rv,nv,lv,pv,.int .i64 g.start] 27)=x:=⟨_,rfl⟩;rw [hW] at hB1 k1;have hk1:=hid (fun u (hu:Below W.heap.size W u)=>l_ (g_ k1 hu));have hB:=hid hB1;obtain ⟨y0,y1,y2,y3,y4⟩:=hk1.out W (Below.refl _ W);have GC:=hid (GC.out W hB1);have hfin:=hid (a9P hr.all sym);have hln:=hid (b0C hg l);have hal:=hid (fun x (hx:x∈a3q g l)=>a0f hr.all ((a1h hr.all).1 hx))
 have hdt:=hid (fun x (hx:x∈a3q g l)=>by
  have h1:=T_.1 (a0f hr.all ((a1h hr.all).1 hx));have h2:=a0X hg h1.2.1;exact (⟨h1.2.2.1,by have:=h1.2.2.2;omega⟩:0≤x.2∧x.2≤8))
 clear hV hb hg hB1 k1 hI hr;generalize a3q g l=C at *;have hst:=hid (fun k (hk:k<C.length)=>b6u (g:=g) (sym:=sym) hk);have hml:=hid (fun k=>Nat.le_trans (b9A g (C.take k) sym) (by rw [List.length_take];have:=hln.out;omega:(C.take k).length≤369));have h00:Hid (mvL g (C.take 0) sym=[]):=hid rfl;have hend:Hid (mvL g (C.take C.length) sym=mvL g C sym):=hid (by rw [List.take_length]);rw [← hfin.out];clear hfin;obtain ⟨cl,hcl⟩:∃ n,Hid (C.length=n):=⟨_,hid rfl⟩;have hln9:cl≤369:=by rw [← hcl.out];exact hln.out
 generalize g.start=st at *;go_enter Tryz.func28,Tryz.ntmps28
 go_wp2_with (go_at_call 51;refine GC.out.mono ?_;clear GC;rintro e w3 ⟨v3,rfl,hO3,hc3⟩;obtain ⟨ca,cc,rfl⟩:=(Its.of_row hO3).shape;have hc3:=hid hc3;have hO3:=hid hO3)
 clear hW y0 y1 y2 y3 y4;have hO0:Hid (OwnIt w3 W.heap.size (.slice none 0 0) (mvL g (C.take 0) sym)):=hid (World.ownsRow_nil _ _ _ _);have b30:=hid (Below.refl w3.heap.size w3);have hIC:=hid (Its.of_row hO3.out);rw [hcl.out] at hIC ⊢;clear hO3;go_loopw [7,9] (fun v i wr=>∃ k:Nat,k≤cl∧i=.int .i64 (k:Int)∧Hid (OwnIt wr w3.heap.size v (mvL g (C.take k) sym))∧Hid (Below w3.heap.size w3 wr)) (fun _ i _=>cl - (intOf i).toNat)
 case atStart=>exact ⟨0,Nat.zero_le _,rfl,hid (World.ownsRow_nil _ _ _ _),b30⟩
 case round =>
  clear hO0 b30;obtain ⟨k,hk,rfl,hO,hbl⟩:=hrel;have hb5:=hid (a_ hc3.out hbl.out);obtain ⟨y0,y1,y2,y3,y4⟩:=hk1.out wr hb5.out;by_cases hlt:k<cl
  · have hltz:(k:Int)<(cl:Int):=by omega
    have hkl:k<C.length:=by rw [hcl.out];exact hlt
    have hstk:=hid (hst.out k hkl);by_cases hs0:0<sym
    · have hat:=hIC.out.keep hbl.out
      obtain ⟨b,o,e,-,z0,z1⟩:=Lst.at hat hkl;subst e;obtain ⟨hd0,hd8⟩:=hdt.out _ (List.getElem_mem hkl);have hx:=hal.out _ (List.getElem_mem hkl);have cA:Hid (∀ d os,Calls Tryz.prog 52 #[gmA rv nv lv pv st,.agg #[.int .i64 C[k].1,.int .i64 C[k].2]] (grow (redrawn wr d) os) fun e w''=>e=.returned (.int .i64 (a0k g C[k]))∧∃ p:Regrown,w''=grow (redrawn wr p.d) p.os):=hid (fun d os=>Calls.regrown_of (GN.out _ (a_ hB.out (a_ hb5.out (below_regrown wr d os))) _ hx));have r0:=cell_regrown z0;have r1:=cell_regrown z1;have y0:=cell_regrown y0;have y1:=cell_regrown y1;have y2:=cell_regrown y2;have y3:=cell_regrown y3;have y4:=cell_regrown y4;have hsd:=decide_eq_true hs0;clear hat hx;by_cases hd:a0k g C[k]=sym
      · have hq:(a0k g C[k] == sym)=true:=beq_iff_eq.2 hd
        have hS:=hstk.out;rw [if_pos ⟨hs0,hd⟩] at hS;have hS:=hid hS;have hm:=hml.out k;clear hd hstk;generalize a0k g C[k]=nx at *;generalize C[k].1=x1 at *;generalize C[k].2=x2 at *;go_wp2_with fail
        refine wp_region_quiet_below (by kernel_rfl) (by kernel_rfl) ?_
        repeat (first | go_big_quiet_step (exact cA.out _ _) | quiet_step (exact cA.out _ _))
        refine wpQuiet_nil ?_;intro _ hw';obtain ⟨⟨dq,osq⟩,hw''⟩:=hw';subst hw'';have hb6:=hid (a_ hbl.out (below_regrown wr dq osq));have hO6:=hid (j_ hO.out (below_regrown wr dq osq));have z0:=d_ (below_regrown wr dq osq) z0;have z1:=d_ (below_regrown wr dq osq) z1;generalize grow (redrawn wr dq) osq=w6 at *;have hwr:IntKind.i64.wrap (x2+1)=x2+1:=IntWalk.i64_in _ (by omega);have hwH:=hid hwr;obtain ⟨g9,c9,w9,hrun,hO9,hb9⟩:=b2y (x:=x1) (y:=IntKind.i64.wrap (x2+1)) hO6.out (by omega) hb6.out.size;have hO9:=hid hO9;have hb9:=hid (hb6.out.trans hb9);rw [hwr] at hO9;generalize (mvL g (C.take k) sym).length=ml at *;clear r0 r1 y0 y1 y2 y3 y4 hq cA hO hbl hb5 hwr hd0 hd8;go_wp2_with fail
        apply b4z
        case h =>
         intro rest;go_region_law (refine b2p (by rfl) (.tmp 31) (.tmp 44) 40 (by rfl) _ _ (by rfl) (by rfl) hrun ?_)
         all_goals exact rest.out
        case pf =>
         go_wp2;go_roundw
         case rel=>exact ⟨k+1,by omega,by go_num,hid (by rw [hS.out];exact hO9.out),hb9⟩
         case measure=>simp [intOf];omega
      · have hq:(a0k g C[k] == sym)=false:=beq_eq_false_iff_ne.2 hd
        have hS:=hstk.out;rw [if_neg (fun h=>hd h.2),List.append_nil] at hS;have hS:=hid hS;clear hd hstk;generalize a0k g C[k]=nx at *;generalize C[k].1=x1 at *;generalize C[k].2=x2 at *;go_wp2_with fail
        refine wp_region_quiet_below (by kernel_rfl) (by kernel_rfl) ?_
        repeat (first | go_big_quiet_step (exact cA.out _ _) | quiet_step (exact cA.out _ _))
        refine wpQuiet_nil ?_;intro _ hw';obtain ⟨⟨dq,osq⟩,hw''⟩:=hw';subst hw'';have hb6:=hid (a_ hbl.out (below_regrown wr dq osq));have hO6:=hid (j_ hO.out (below_regrown wr dq osq));generalize grow (redrawn wr dq) osq=w6 at *;clear r0 r1 z0 z1 y0 y1 y2 y3 y4 hq cA hO hbl;go_wp2;go_roundw
        case rel=>exact ⟨k+1,by omega,by go_num,hid (by rw [hS.out];exact hO6.out),hb6⟩
        case measure=>simp [intOf];omega
    · have hS:=hstk.out
      rw [if_neg (fun h=>hs0 h.1),List.append_nil] at hS;have hS:=hid hS;have hsd:=decide_eq_false hs0;have y0:=cell_regrown y0;have y1:=cell_regrown y1;have y2:=cell_regrown y2;have y3:=cell_regrown y3;have y4:=cell_regrown y4;clear hstk;go_wp2_with fail
      refine wp_region_quiet_below (by kernel_rfl) (by kernel_rfl) ?_
      repeat (first | go_big_quiet_step (fail) | quiet_step (fail))
      refine wpQuiet_nil ?_;intro _ hw';obtain ⟨⟨dq,osq⟩,hw''⟩:=hw';subst hw'';have hb6:=hid (a_ hbl.out (below_regrown wr dq osq));have hO6:=hid (j_ hO.out (below_regrown wr dq osq));generalize grow (redrawn wr dq) osq=w6 at *;clear y0 y1 y2 y3 y4 hO hbl;go_wp2;go_roundw
      case rel=>exact ⟨k+1,by omega,by go_num,hid (by rw [hS.out];exact hO6.out),hb6⟩
      case measure=>simp [intOf];omega
  · have hltz:¬ (k:Int)<(cl:Int):=by omega
    obtain rfl:k=cl:=by omega
    have hO9:=hid hO.out;rw [← hcl.out,hend.out] at hO9;have hm:=hml.out k;rw [← hcl.out,hend.out] at hm;have G:=hid (GO.out wr (a_ hB.out hb5.out) _ (mvL g C sym) (by omega) (Its.of_row hO9.out));clear hO hO9;go_wp2_with (go_at_call 53;refine G.out.mono ?_;clear G;rintro e w5 ⟨v5,rfl,hO5,hc5⟩;have hO5:=hid hO5;have hc5:=hid hc5)
    go_ret;exact ⟨_,rfl,a0o hO5.out (a_ hB.out hb5.out).size,a_ hB.out (a_ hb5.out hc5.out)⟩
end Go.Proofs.YtjgedijclkoemaaGreatDoor
