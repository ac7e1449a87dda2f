/- What the five laws of layer 17 share, part 37: no statement of its own. -/
import Derived.Test.YtjgedijclkoemaaGreatDoorJ36
namespace Go.Proofs.YtjgedijclkoemaaGreatDoor
open Go.RowKit Go.Maps
abbrev gmZ:Value:=gmA (.slice none 0 0) (.slice none 0 0) (.slice none 0 0) (.slice none 0 0) 0
set_option maxRecDepth 20000 in
set_option maxHeartbeats 8000000 in
theorem c1E (s:Txt) (w:World) (hs:s.length≤1000000) (h0:(a0w s).2.2≠0) :
 Calls Tryz.prog 22 #[.string (e_ s)] w fun e w'=>e=.returned (.tuple #[gmZ,.int .i64 ((a0w s).2.1:Int),.int .i64 (a0w s).2.2])∧Below w.heap.size w w':=by
 have hal0:=al' w gm0;have hR0:=b_ w gm0;obtain ⟨W,hW⟩:∃ y,w.alloc gm0=y:=⟨_,rfl⟩;rw [hW] at hal0 hR0;have G:=hid (c3k s W (by omega));have hfin:Hid (∀ u v l,WdM W u v l→u.heap[w.heap.size]?=some gm0∧Below w.heap.size w u):=hid (fun u v l hM=>⟨g_ hR0 hM.low,a_ hal0 hM.low⟩);have h0z:((a0w s).2.2 != 0)=true:=bne_iff_ne.2 h0;generalize (a0w s).1=l at *;generalize (a0w s).2.1=ap at *;generalize (a0w s).2.2=er at *;clear hal0 hR0 h0;go_enter Tryz.func22,Tryz.ntmps22
 go_wp2_with (go_at_call 38;refine G.out.mono ?_;clear G;rintro e u ⟨v,rfl,hM⟩;obtain ⟨hR1,hB1⟩:=hfin.out u v l hM;clear hfin hM;obtain ⟨⟨q0,q1⟩,⟨q2,q3⟩,⟨q4,q5⟩,⟨q6,q7⟩,⟨q8,q9⟩,q10⟩:=b9b hR1 (.slice none 0 0) (.slice none 0 0) (.slice none 0 0) (.slice none 0 0) (.int .i64 0);obtain ⟨y0,y1,y2,y3,y4⟩:=l_ q10;have hB1:=hid (x_ (x_ (x_ (x_ (x_ hB1 _ 0 (.slice none 0 0) (Nat.le_refl _)) _ 1 (.slice none 0 0) (Nat.le_refl _)) _ 2 (.slice none 0 0) (Nat.le_refl _)) _ 3 (.slice none 0 0) (Nat.le_refl _)) _ 4 (.int .i64 0) (Nat.le_refl _));clear q10 hR1)
 refine bodyPost_ret (v:=.tuple #[gmZ,.int .i64 (ap:Int),.int .i64 er]) (by simp [results,Tryz.results22,go_sem,y0,y1,y2,y3,y4]) rfl ⟨rfl,?_⟩;exact hB1.out
set_option maxRecDepth 20000 in
set_option maxHeartbeats 16000000 in
theorem b5F {B rb:Nat} {T:Nat→Nat} {w:World} {X:RX} {st:RS} (h:RdV B T w rb X st) (ho:StOk st) (h8:st.nonts.length=0) :
 Calls Tryz.prog 40 #[r_ rb] w fun r w'=>r=.returned (.tuple #[])∧∃ lv,RdR B T w rb X st st.settle lv w':=by
 have h9:=hid h8;clear h8;obtain ⟨pa,pc,hpv⟩:=p_ h.prods.1;obtain ⟨na,nc,hnv⟩:=p_ h.nonts.1;obtain ⟨la,lc,hlv⟩:=p_ h.later.1;obtain ⟨ra,rc,hrv⟩:=p_ h.rules.1;have hl1:=ho.l1;have hl2:=ho.l2;have hl3:=ho.l3;have htl:=b2a st;have GT:Hid (Calls Tryz.prog 45 #[gmA (.slice ra st.rules.length rc) (.slice na st.nonts.length nc) (.slice none 0 0) (.slice pa st.prods.length pc) 0] w fun e w'=>e=.returned (.int .i64 (st.trm:Int))∧Below w.heap.size w w'):=hid (b2c _ _ _ _ 0 st.rules w (by rw [← hrv];exact RdW.ruls h) (by omega))
 have HM:Hid (∀ u,Below w.heap.size w u→∃ w1,(Instr.makeSlice 24 (.int .i64 ((st.trm:Int)+1)) (.int .i64 ((st.trm:Int)+1))).run Tryz.prog u=.ok (.slice (some ⟨u.heap.size,0,none⟩) (st.trm+1) (st.trm+1)) w1∧w1.cell? ⟨rb,3,none⟩=some (.slice none 0 0)∧w1.frozen? ⟨rb,3,none⟩=false∧(w1.setCell ⟨rb,3,none⟩ (.slice (some ⟨u.heap.size,0,none⟩) (st.trm+1) (st.trm+1))).cell? ⟨rb,4,none⟩=some (.slice pa st.prods.length pc)∧∃ T' rs,RdW B T' (w1.setCell ⟨rb,3,none⟩ (.slice (some ⟨u.heap.size,0,none⟩) (st.trm+1) (st.trm+1))) rb X st (fsK st (st.trm+1) st.trm 0) (.slice (some ⟨u.heap.size,0,none⟩) (st.trm+1) (st.trm+1)) rs none∧Chg T T' w (w1.setCell ⟨rb,3,none⟩ (.slice (some ⟨u.heap.size,0,none⟩) (st.trm+1) (st.trm+1)))):=hid (fun u hu=>by
  obtain ⟨w1,hrun,k1,k2,T',h2,c2⟩:=(h.keep hu).toW (N:=st.trm+1) (by omega);refine ⟨w1,hrun,k1,k2,by rw [← hpv];exact c_ h2.blk rfl,T',_,by rw [b0o];exact h2,(Chg.of_below hu).trans c2⟩)
 obtain ⟨x0,x1,x2,x3,x4,x5,-⟩:=c0N h.blk;rw [hrv] at x1;rw [hnv] at x2;rw [hpv] at x4;have hX4:=hid hpv;have hX2:=hid hnv;have hX15:=hid hlv;have hoH:=hid ho;obtain ⟨R,hR⟩:∃ R,Hid (a2j st.fnd (st.later.drop 0) st.fs=R):=⟨_,hid rfl⟩;have hst:st.settle=R:=by rw [← hR.out];rfl
 rw [hst];clear hst h ho hpv hnv hlv hrv;generalize hTm:st.trm=tm at *;go_enter Tryz.func40,Tryz.ntmps40
 go_wp2_with (go_at_call 45;refine GT.out.mono ?_;clear GT;rintro e u ⟨rfl,hu⟩;obtain ⟨w1,hrun,k1,k2,k3,T0,rs0,h0,c0⟩:=HM.out u hu;clear HM hu;have h0:=hid h0;have c0:=hid c0)
 clear x0 x1 x2 x3 x4 x5 hrun k1 k2 k3;generalize w1.setCell ⟨rb,3,none⟩ (.slice (some ⟨u.heap.size,0,none⟩) (tm+1) (tm+1))=V0 at *;generalize hlvE:Value.slice (some ⟨u.heap.size,0,none⟩) (tm+1) (tm+1)=lv at h0;clear hlvE;have hTmH:=hid hTm;clear hTm;obtain ⟨np,hnp⟩:∃ n,Hid (st.prods.length=n):=⟨_,hid rfl⟩;obtain ⟨nn,hnn⟩:∃ n,Hid (st.nonts.length=n):=⟨_,hid rfl⟩;obtain ⟨nl,hnl⟩:∃ n,Hid (st.later.length=n):=⟨_,hid rfl⟩;rw [hnp.out] at hX4 hl2 ⊢;rw [hnn.out] at hX2 h9 ⊢;have h9K:=h9;clear h9;rw [hnl.out] at hX15 hl3;go_loopw [25] (fun x wr=>∃ (k:Nat) (T1:Nat→Nat) (rs:List Value),k≤np∧x=.int .i64 (k:Int)∧Hid (RdW B T1 wr rb X st (fsK st (tm+1) tm k) lv rs none)∧Hid (Chg T T1 w wr)) (fun x _=>np - (intOf x).toNat)
 case atStart=>exact ⟨0,T0,rs0,Nat.zero_le _,rfl,h0,c0⟩
 case round =>
  obtain ⟨k,T1,rs,hk,rfl,hr,hc⟩:=hrel;clear h0 c0;by_cases hlt:k<np
  · have hltz:(k:Int)<(np:Int):=by omega
    have hkl:k<st.prods.length:=by rw [hnp.out];exact hlt
    have hkf:k<(fsK st (tm+1) tm k).prods.length:=by rw [a2U];exact hkl
    obtain ⟨g,cap,hg,-,p0,-,-,pf,-⟩:=hr.out.prodAt hkf;rw [a2U,hnp.out,hX4.out] at hg;injection hg with hg1 _ hg3;subst hg1
    have p0':wr.cell? ⟨g,k * 3,none⟩=some (.int .i64 (st.prods[k]:Int)):=by
     rw [p0];have e2:(fsK st (tm+1) tm k).prods[k]?=some ⟨(st.prods[k]:Int),[],0⟩:=a6n tm st.prods k hkl;rw [List.getElem?_eq_getElem hkf] at e2;injection e2 with e2;rw [e2]
    have pf0:=pf (k * 3);obtain ⟨h2,c2⟩:=hr.out.setLeft (cap:=pc) hkf (by rw [a2U,hnp.out];exact hX4.out) ((st.prods[k]:Int)+(tm:Int));rw [b0p st (tm+1) tm k hkl] at h2;have h2:=hid h2;have c2:=hid (hc.out.trans c2);have c4:wr.cell? ⟨rb,4,none⟩=some (.slice (some ⟨g,0,none⟩) np pc):=by rw [← hX4.out];exact c_ hr.out.blk rfl
    have hpk:Hid (st.prods[k]=st.prods[k]):=hid rfl;obtain ⟨pk,hpk⟩:∃ y,st.prods[k]=y:=⟨_,rfl⟩;rw [hpk] at p0' h2 c2;have hpb:(pk:Int)≤1000000:=by have:=hoH.out.q _ (List.getElem_mem hkl);rw [hpk] at this;omega
    clear hr hc p0 pf hkf;go_wp2;go_roundw
    case rel=>exact ⟨k+1,T1,rs,by omega,by go_num,h2,c2⟩
    case measure=>simp [intOf];omega
  · have hltz:¬ (k:Int)<(np:Int):=by omega
    obtain rfl:k=np:=by omega
    have hr':=hr.out;rw [← hTmH.out,← hnp.out] at hr';obtain ⟨s1,s2⟩:=b7L hr' hc.out rfl;rw [hnn.out] at s1 s2;rw [hTmH.out] at s2;have c2:wr.cell? ⟨rb,2,none⟩=some (.slice na nn nc):=by rw [← hX2.out];exact c_ hr.out.blk rfl
    have htz:(tm:Int)≤90000:=by omega
    have h9:=h9K.out;have hnz:¬ (0:Int)<(nn:Int):=by omega
    have hQ:=hid (s1 h9);clear s1 s2 hr';obtain ⟨VV,hVV⟩:∃ y,wr=y:=⟨_,rfl⟩;subst hVV;clear hr hc;obtain ⟨T2,rs2,mp2,hr2,hc2⟩:=hQ.out;clear hQ;have c15:wr.cell? ⟨rb,15,none⟩=some (.slice la nl lc):=by rw [← hX15.out];exact c_ hr2.blk rfl
    have hr2:=hid hr2;have hc2:=hid hc2;have h9H:=hid h9;clear h9;go_wp2_with fail
    clear c15 c2;go_loopw [60] (fun x wr=>∃ (i:Nat) (f:FS) (T1:Nat→Nat) (rs:List Value) (mp:Option Nat),i≤nl∧x=.int .i64 (i:Int)∧Hid (RdW B T1 wr rb X st f lv rs mp)∧Hid (Chg T T1 w wr)∧Hid (a2j st.fnd (st.later.drop i) f=R)∧Hid (FOk st i f)) (fun x _=>nl - (intOf x).toNat)
    case atStart=>exact ⟨0,st.fs,T2,rs2,mp2,Nat.zero_le _,rfl,hr2,hc2,hR,hid (c2k st)⟩
    case round =>
     obtain ⟨i,f,T1,rs,mp,hi,rfl,hr,hc,hL,hf⟩:=hrel;clear hr2 hc2 hR;have c17:wr.cell? ⟨rb,17,none⟩=some (.int .i64 f.err):=c_ hr.out.blk rfl;by_cases hlt:i<nl
     · have hltz:(i:Int)<(nl:Int):=by omega
       have hil:i<st.later.length:=by rw [hnl.out];exact hlt
       obtain ⟨g,cap,hg,hj',q0,q1,hsv⟩:=hr.out.laterAt hil;rw [hnl.out,hX15.out] at hg;injection hg with hg1 _ hg3;subst hg3;subst hg1;obtain ⟨fn,cp,hfv⟩:=a7f hsv;by_cases h0:f.err=0
       · obtain ⟨hj2,K,caps,hv,G⟩:=b2u hr.out hc.out hoH.out hf.out hil h0
         rw [hv] at q1 G hsv;have hKK:=c1e hsv;have e9:=hL.out;rw [a7h hil h0] at e9;have e9:=hid e9;have hf':=hid ((hf.out.step st.fnd st.later[i]).fail st.later[i].w.2.1 (a0c st.fnd st.later[i] f).2);have hal:=al' wr (.cells #[.int .i64 (st.later[i].w.2.1:Int),.func (.func K) #[] caps] 131);have d17:=d_ hal c17;obtain ⟨b0,b1⟩:(wr.alloc (.cells #[.int .i64 (st.later[i].w.2.1:Int),.func (.func K) #[] caps] 131)).cell? ⟨wr.heap.size,0,none⟩=some (.int .i64 (st.later[i].w.2.1:Int))∧(wr.alloc (.cells #[.int .i64 (st.later[i].w.2.1:Int),.func (.func K) #[] caps] 131)).cell? ⟨wr.heap.size,1,none⟩=some (.func (.func K) #[] caps):=⟨c_ (b_ wr _) rfl,c_ (b_ wr _) rfl⟩;obtain ⟨W1,hW1⟩:∃ y,wr.alloc (.cells #[.int .i64 (st.later[i].w.2.1:Int),.func (.func K) #[] caps] 131)=y:=⟨_,rfl⟩;rw [hW1] at d17 b0 b1 G;have G:=hid G;rw [h0] at c17 d17;have hfv:=hid hfv;have hv:=hid hv;clear hr hc hL hf hal hsv h0 c17;generalize (a0c st.fnd st.later[i] f).1.fail st.later[i].w.2.1 (a0c st.fnd st.later[i] f).2=f9 at *;generalize (a0c st.fnd st.later[i] f).2=er at *;generalize st.later[i].w.2.1=ap at *;by_cases her:er=0
         · have herz:(er != 0)=false:=by rw [bne_eq_false_iff_eq];exact her
           have herH:=hid her;clear her;rcases hKK with ⟨rfl,cp1,cp2,rfl⟩ | ⟨rfl,cp1,cp2,cp3,rfl⟩ | ⟨rfl,cp1,rfl⟩ | ⟨rfl,cp1,cp2,rfl⟩ | ⟨rfl,cp1,cp2,cp3,rfl⟩ | ⟨rfl,cp1,cp2,cp3,rfl⟩
           all_goals
            go_wp2_with ((first | go_at_call 169 | go_at_call 172 | go_at_call 131 | go_at_call 132 | go_at_call 196 | go_at_call 197);refine G.out.mono ?_;clear G;rintro e u4 ⟨rfl,o0,g1,-⟩;obtain ⟨T4,rs4,mp4,hr4,hc4⟩:=g1 herH.out;clear g1;have hr4:=hid hr4;have hc4:=hid hc4)
            go_roundw
            case rel=>(first | exact ⟨i+1,f9,T4,rs4,mp4,by omega,by go_num,hr4,hc4,e9,hf'⟩ | ((repeat (apply Exists.intro));(refine And.intro ?_ rfl);exact ⟨i+1,f9,T4,rs4,mp4,by omega,by go_num,hr4,hc4,e9,hf'⟩))
            case measure=>(first | (simp [intOf];omega) | (simp [intOf]) | simp)
         · have herz:(er != 0)=true:=bne_iff_ne.2 her
           have herH:=hid her;clear her;rcases hKK with ⟨rfl,cp1,cp2,rfl⟩ | ⟨rfl,cp1,cp2,cp3,rfl⟩ | ⟨rfl,cp1,rfl⟩ | ⟨rfl,cp1,cp2,rfl⟩ | ⟨rfl,cp1,cp2,cp3,rfl⟩ | ⟨rfl,cp1,cp2,cp3,rfl⟩
           all_goals
            go_wp2_with (first
             | (go_at_call 66;refine g2.out.mono ?_;clear g2;rintro e u5 ⟨rfl,T4,rs4,mp4,hr4,hc4⟩;have hr4:=hid hr4;have hc4:=hid hc4)
             | ((first | go_at_call 169 | go_at_call 172 | go_at_call 131 | go_at_call 132 | go_at_call 196 | go_at_call 197);refine G.out.mono ?_;clear G;rintro e u4 ⟨rfl,o0,-,g2⟩;have g2:=hid (g2 herH.out)))
            go_roundw
            case rel=>(first | exact ⟨i+1,f9,T4,rs4,mp4,by omega,by go_num,hr4,hc4,e9,hf'⟩ | ((repeat (apply Exists.intro));(refine And.intro ?_ rfl);exact ⟨i+1,f9,T4,rs4,mp4,by omega,by go_num,hr4,hc4,e9,hf'⟩))
            case measure=>(first | (simp [intOf];omega) | (simp [intOf]) | simp)
       · have e9:=hL.out
         rw [a9A h0] at e9;subst e9;rw [hfv] at q1;have hal:=al' wr (.cells #[.int .i64 (st.later[i].w.2.1:Int),.func fn #[] cp] 131);have d17:=d_ hal c17;have hQ2:Hid (RdR B T w rb X st f lv (wr.alloc (.cells #[.int .i64 (st.later[i].w.2.1:Int),.func fn #[] cp] 131))):=hid ⟨T1,rs,mp,hr.out.keep hal,hc.out.trans (Chg.of_below hal)⟩;have h0z:(f.err != 0)=true:=bne_iff_ne.2 h0;clear hr hc hL hf hal hsv h0 hfv;generalize st.later[i].w.2.1=ap at *;generalize f.err=er at *;go_wp2
         first | go_end0 | (simp only [Exit.inBlock,Exit.then];refine bodyPost_ret (results_none rfl _ _ _) rfl ?_) | refine bodyPost_ret (results_none rfl _ _ _) rfl ?_
         exact ⟨rfl,lv,hQ2.out⟩
     · have hltz:¬ (i:Int)<(nl:Int):=by omega
       obtain rfl:i=nl:=by omega
       have e9:=hL.out;rw [← hnl.out,List.drop_length] at e9;have e9:f=R:=e9;subst e9;have hQ2:Hid (RdR B T w rb X st f lv wr):=hid ⟨T1,rs,mp,hr.out,hc.out⟩;clear hr hc hL hf c17;go_wp2;go_end0
       exact ⟨rfl,lv,hQ2.out⟩
set_option maxRecDepth 20000 in
set_option maxHeartbeats 16000000 in
theorem b5E {B rb:Nat} {T:Nat→Nat} {w:World} {X:RX} {st:RS} (h:RdV B T w rb X st) (ho:StOk st) (h8:0<st.nonts.length) :
 Calls Tryz.prog 40 #[r_ rb] w fun r w'=>r=.returned (.tuple #[])∧∃ lv,RdR B T w rb X st st.settle lv w':=by
 have h9:=hid h8;clear h8;obtain ⟨pa,pc,hpv⟩:=p_ h.prods.1;obtain ⟨na,nc,hnv⟩:=p_ h.nonts.1;obtain ⟨la,lc,hlv⟩:=p_ h.later.1;obtain ⟨ra,rc,hrv⟩:=p_ h.rules.1;have hl1:=ho.l1;have hl2:=ho.l2;have hl3:=ho.l3;have htl:=b2a st;have GT:Hid (Calls Tryz.prog 45 #[gmA (.slice ra st.rules.length rc) (.slice na st.nonts.length nc) (.slice none 0 0) (.slice pa st.prods.length pc) 0] w fun e w'=>e=.returned (.int .i64 (st.trm:Int))∧Below w.heap.size w w'):=hid (b2c _ _ _ _ 0 st.rules w (by rw [← hrv];exact RdW.ruls h) (by omega))
 have HM:Hid (∀ u,Below w.heap.size w u→∃ w1,(Instr.makeSlice 24 (.int .i64 ((st.trm:Int)+1)) (.int .i64 ((st.trm:Int)+1))).run Tryz.prog u=.ok (.slice (some ⟨u.heap.size,0,none⟩) (st.trm+1) (st.trm+1)) w1∧w1.cell? ⟨rb,3,none⟩=some (.slice none 0 0)∧w1.frozen? ⟨rb,3,none⟩=false∧(w1.setCell ⟨rb,3,none⟩ (.slice (some ⟨u.heap.size,0,none⟩) (st.trm+1) (st.trm+1))).cell? ⟨rb,4,none⟩=some (.slice pa st.prods.length pc)∧∃ T' rs,RdW B T' (w1.setCell ⟨rb,3,none⟩ (.slice (some ⟨u.heap.size,0,none⟩) (st.trm+1) (st.trm+1))) rb X st (fsK st (st.trm+1) st.trm 0) (.slice (some ⟨u.heap.size,0,none⟩) (st.trm+1) (st.trm+1)) rs none∧Chg T T' w (w1.setCell ⟨rb,3,none⟩ (.slice (some ⟨u.heap.size,0,none⟩) (st.trm+1) (st.trm+1)))):=hid (fun u hu=>by
  obtain ⟨w1,hrun,k1,k2,T',h2,c2⟩:=(h.keep hu).toW (N:=st.trm+1) (by omega);refine ⟨w1,hrun,k1,k2,by rw [← hpv];exact c_ h2.blk rfl,T',_,by rw [b0o];exact h2,(Chg.of_below hu).trans c2⟩)
 obtain ⟨x0,x1,x2,x3,x4,x5,-⟩:=c0N h.blk;rw [hrv] at x1;rw [hnv] at x2;rw [hpv] at x4;have hX4:=hid hpv;have hX2:=hid hnv;have hX15:=hid hlv;have hoH:=hid ho;obtain ⟨R,hR⟩:∃ R,Hid (a2j st.fnd (st.later.drop 0) st.fs=R):=⟨_,hid rfl⟩;have hst:st.settle=R:=by rw [← hR.out];rfl
 rw [hst];clear hst h ho hpv hnv hlv hrv;generalize hTm:st.trm=tm at *;go_enter Tryz.func40,Tryz.ntmps40
 go_wp2_with (go_at_call 45;refine GT.out.mono ?_;clear GT;rintro e u ⟨rfl,hu⟩;obtain ⟨w1,hrun,k1,k2,k3,T0,rs0,h0,c0⟩:=HM.out u hu;clear HM hu;have h0:=hid h0;have c0:=hid c0)
 clear x0 x1 x2 x3 x4 x5 hrun k1 k2 k3;generalize w1.setCell ⟨rb,3,none⟩ (.slice (some ⟨u.heap.size,0,none⟩) (tm+1) (tm+1))=V0 at *;generalize hlvE:Value.slice (some ⟨u.heap.size,0,none⟩) (tm+1) (tm+1)=lv at h0;clear hlvE;have hTmH:=hid hTm;clear hTm;obtain ⟨np,hnp⟩:∃ n,Hid (st.prods.length=n):=⟨_,hid rfl⟩;obtain ⟨nn,hnn⟩:∃ n,Hid (st.nonts.length=n):=⟨_,hid rfl⟩;obtain ⟨nl,hnl⟩:∃ n,Hid (st.later.length=n):=⟨_,hid rfl⟩;rw [hnp.out] at hX4 hl2 ⊢;rw [hnn.out] at hX2 h9 ⊢;have h9K:=h9;clear h9;rw [hnl.out] at hX15 hl3;go_loopw [25] (fun x wr=>∃ (k:Nat) (T1:Nat→Nat) (rs:List Value),k≤np∧x=.int .i64 (k:Int)∧Hid (RdW B T1 wr rb X st (fsK st (tm+1) tm k) lv rs none)∧Hid (Chg T T1 w wr)) (fun x _=>np - (intOf x).toNat)
 case atStart=>exact ⟨0,T0,rs0,Nat.zero_le _,rfl,h0,c0⟩
 case round =>
  obtain ⟨k,T1,rs,hk,rfl,hr,hc⟩:=hrel;clear h0 c0;by_cases hlt:k<np
  · have hltz:(k:Int)<(np:Int):=by omega
    have hkl:k<st.prods.length:=by rw [hnp.out];exact hlt
    have hkf:k<(fsK st (tm+1) tm k).prods.length:=by rw [a2U];exact hkl
    obtain ⟨g,cap,hg,-,p0,-,-,pf,-⟩:=hr.out.prodAt hkf;rw [a2U,hnp.out,hX4.out] at hg;injection hg with hg1 _ hg3;subst hg1
    have p0':wr.cell? ⟨g,k * 3,none⟩=some (.int .i64 (st.prods[k]:Int)):=by
     rw [p0];have e2:(fsK st (tm+1) tm k).prods[k]?=some ⟨(st.prods[k]:Int),[],0⟩:=a6n tm st.prods k hkl;rw [List.getElem?_eq_getElem hkf] at e2;injection e2 with e2;rw [e2]
    have pf0:=pf (k * 3);obtain ⟨h2,c2⟩:=hr.out.setLeft (cap:=pc) hkf (by rw [a2U,hnp.out];exact hX4.out) ((st.prods[k]:Int)+(tm:Int));rw [b0p st (tm+1) tm k hkl] at h2;have h2:=hid h2;have c2:=hid (hc.out.trans c2);have c4:wr.cell? ⟨rb,4,none⟩=some (.slice (some ⟨g,0,none⟩) np pc):=by rw [← hX4.out];exact c_ hr.out.blk rfl
    have hpk:Hid (st.prods[k]=st.prods[k]):=hid rfl;obtain ⟨pk,hpk⟩:∃ y,st.prods[k]=y:=⟨_,rfl⟩;rw [hpk] at p0' h2 c2;have hpb:(pk:Int)≤1000000:=by have:=hoH.out.q _ (List.getElem_mem hkl);rw [hpk] at this;omega
    clear hr hc p0 pf hkf;go_wp2;go_roundw
    case rel=>exact ⟨k+1,T1,rs,by omega,by go_num,h2,c2⟩
    case measure=>simp [intOf];omega
  · have hltz:¬ (k:Int)<(np:Int):=by omega
    obtain rfl:k=np:=by omega
    have hr':=hr.out;rw [← hTmH.out,← hnp.out] at hr';obtain ⟨s1,s2⟩:=b7L hr' hc.out rfl;rw [hnn.out] at s1 s2;rw [hTmH.out] at s2;have c2:wr.cell? ⟨rb,2,none⟩=some (.slice na nn nc):=by rw [← hX2.out];exact c_ hr.out.blk rfl
    have htz:(tm:Int)≤90000:=by omega
    have h9:=h9K.out;have hnz:(0:Int)<(nn:Int):=by omega
    obtain ⟨t5,t6,hQ⟩:=s2 h9;have hQ:=hid hQ;clear s1 s2 hr';obtain ⟨VV,hVV⟩:∃ y,wr.setCell ⟨rb,5,none⟩ (.int .i64 ((tm:Int)+1))=y:=⟨_,rfl⟩;rw [hVV] at hQ;clear hr hc;obtain ⟨T2,rs2,mp2,hr2,hc2⟩:=hQ.out;clear hQ;have c15:VV.cell? ⟨rb,15,none⟩=some (.slice la nl lc):=by rw [← hX15.out];exact c_ hr2.blk rfl
    have hr2:=hid hr2;have hc2:=hid hc2;go_wp2_with fail
    clear c15 c2 t5 t6 hVV;go_loopw [60] (fun x wr=>∃ (i:Nat) (f:FS) (T1:Nat→Nat) (rs:List Value) (mp:Option Nat),i≤nl∧x=.int .i64 (i:Int)∧Hid (RdW B T1 wr rb X st f lv rs mp)∧Hid (Chg T T1 w wr)∧Hid (a2j st.fnd (st.later.drop i) f=R)∧Hid (FOk st i f)) (fun x _=>nl - (intOf x).toNat)
    case atStart=>exact ⟨0,st.fs,T2,rs2,mp2,Nat.zero_le _,rfl,hr2,hc2,hR,hid (c2k st)⟩
    case round =>
     obtain ⟨i,f,T1,rs,mp,hi,rfl,hr,hc,hL,hf⟩:=hrel;clear hr2 hc2 hR;have c17:wr.cell? ⟨rb,17,none⟩=some (.int .i64 f.err):=c_ hr.out.blk rfl;by_cases hlt:i<nl
     · have hltz:(i:Int)<(nl:Int):=by omega
       have hil:i<st.later.length:=by rw [hnl.out];exact hlt
       obtain ⟨g,cap,hg,hj',q0,q1,hsv⟩:=hr.out.laterAt hil;rw [hnl.out,hX15.out] at hg;injection hg with hg1 _ hg3;subst hg3;subst hg1;obtain ⟨fn,cp,hfv⟩:=a7f hsv;by_cases h0:f.err=0
       · obtain ⟨hj2,K,caps,hv,G⟩:=b2u hr.out hc.out hoH.out hf.out hil h0
         rw [hv] at q1 G hsv;have hKK:=c1e hsv;have e9:=hL.out;rw [a7h hil h0] at e9;have e9:=hid e9;have hf':=hid ((hf.out.step st.fnd st.later[i]).fail st.later[i].w.2.1 (a0c st.fnd st.later[i] f).2);have hal:=al' wr (.cells #[.int .i64 (st.later[i].w.2.1:Int),.func (.func K) #[] caps] 131);have d17:=d_ hal c17;obtain ⟨b0,b1⟩:(wr.alloc (.cells #[.int .i64 (st.later[i].w.2.1:Int),.func (.func K) #[] caps] 131)).cell? ⟨wr.heap.size,0,none⟩=some (.int .i64 (st.later[i].w.2.1:Int))∧(wr.alloc (.cells #[.int .i64 (st.later[i].w.2.1:Int),.func (.func K) #[] caps] 131)).cell? ⟨wr.heap.size,1,none⟩=some (.func (.func K) #[] caps):=⟨c_ (b_ wr _) rfl,c_ (b_ wr _) rfl⟩;obtain ⟨W1,hW1⟩:∃ y,wr.alloc (.cells #[.int .i64 (st.later[i].w.2.1:Int),.func (.func K) #[] caps] 131)=y:=⟨_,rfl⟩;rw [hW1] at d17 b0 b1 G;have G:=hid G;rw [h0] at c17 d17;have hfv:=hid hfv;have hv:=hid hv;clear hr hc hL hf hal hsv h0 c17;generalize (a0c st.fnd st.later[i] f).1.fail st.later[i].w.2.1 (a0c st.fnd st.later[i] f).2=f9 at *;generalize (a0c st.fnd st.later[i] f).2=er at *;generalize st.later[i].w.2.1=ap at *;by_cases her:er=0
         · have herz:(er != 0)=false:=by rw [bne_eq_false_iff_eq];exact her
           have herH:=hid her;clear her;rcases hKK with ⟨rfl,cp1,cp2,rfl⟩ | ⟨rfl,cp1,cp2,cp3,rfl⟩ | ⟨rfl,cp1,rfl⟩ | ⟨rfl,cp1,cp2,rfl⟩ | ⟨rfl,cp1,cp2,cp3,rfl⟩ | ⟨rfl,cp1,cp2,cp3,rfl⟩
           all_goals
            go_wp2_with ((first | go_at_call 169 | go_at_call 172 | go_at_call 131 | go_at_call 132 | go_at_call 196 | go_at_call 197);refine G.out.mono ?_;clear G;rintro e u4 ⟨rfl,o0,g1,-⟩;obtain ⟨T4,rs4,mp4,hr4,hc4⟩:=g1 herH.out;clear g1;have hr4:=hid hr4;have hc4:=hid hc4)
            go_roundw
            case rel=>(first | exact ⟨i+1,f9,T4,rs4,mp4,by omega,by go_num,hr4,hc4,e9,hf'⟩ | ((repeat (apply Exists.intro));(refine And.intro ?_ rfl);exact ⟨i+1,f9,T4,rs4,mp4,by omega,by go_num,hr4,hc4,e9,hf'⟩))
            case measure=>(first | (simp [intOf];omega) | (simp [intOf]) | simp)
         · have herz:(er != 0)=true:=bne_iff_ne.2 her
           have herH:=hid her;clear her;rcases hKK with ⟨rfl,cp1,cp2,rfl⟩ | ⟨rfl,cp1,cp2,cp3,rfl⟩ | ⟨rfl,cp1,rfl⟩ | ⟨rfl,cp1,cp2,rfl⟩ | ⟨rfl,cp1,cp2,cp3,rfl⟩ | ⟨rfl,cp1,cp2,cp3,rfl⟩
           all_goals
            go_wp2_with (first
             | (go_at_call 66;refine g2.out.mono ?_;clear g2;rintro e u5 ⟨rfl,T4,rs4,mp4,hr4,hc4⟩;have hr4:=hid hr4;have hc4:=hid hc4)
             | ((first | go_at_call 169 | go_at_call 172 | go_at_call 131 | go_at_call 132 | go_at_call 196 | go_at_call 197);refine G.out.mono ?_;clear G;rintro e u4 ⟨rfl,o0,-,g2⟩;have g2:=hid (g2 herH.out)))
            go_roundw
            case rel=>(first | exact ⟨i+1,f9,T4,rs4,mp4,by omega,by go_num,hr4,hc4,e9,hf'⟩ | ((repeat (apply Exists.intro));(refine And.intro ?_ rfl);exact ⟨i+1,f9,T4,rs4,mp4,by omega,by go_num,hr4,hc4,e9,hf'⟩))
            case measure=>(first | (simp [intOf];omega) | (simp [intOf]) | simp)
       · have e9:=hL.out
         rw [a9A h0] at e9;subst e9;rw [hfv] at q1;have hal:=al' wr (.cells #[.int .i64 (st.later[i].w.2.1:Int),.func fn #[] cp] 131);have d17:=d_ hal c17;have hQ2:Hid (RdR B T w rb X st f lv (wr.alloc (.cells #[.int .i64 (st.later[i].w.2.1:Int),.func fn #[] cp] 131))):=hid ⟨T1,rs,mp,hr.out.keep hal,hc.out.trans (Chg.of_below hal)⟩;have h0z:(f.err != 0)=true:=bne_iff_ne.2 h0;clear hr hc hL hf hal hsv h0 hfv;generalize st.later[i].w.2.1=ap at *;generalize f.err=er at *;go_wp2
         first | go_end0 | (simp only [Exit.inBlock,Exit.then];refine bodyPost_ret (results_none rfl _ _ _) rfl ?_) | refine bodyPost_ret (results_none rfl _ _ _) rfl ?_
         exact ⟨rfl,lv,hQ2.out⟩
     · have hltz:¬ (i:Int)<(nl:Int):=by omega
       obtain rfl:i=nl:=by omega
       have e9:=hL.out;rw [← hnl.out,List.drop_length] at e9;have e9:f=R:=e9;subst e9;have hQ2:Hid (RdR B T w rb X st f lv wr):=hid ⟨T1,rs,mp,hr.out,hc.out⟩;clear hr hc hL hf c17;go_wp2;go_end0
       exact ⟨rfl,lv,hQ2.out⟩
set_option maxRecDepth 20000 in
theorem b8N {B rb:Nat} {T:Nat→Nat} {w:World} {X:RX} {st:RS} (h:RdV B T w rb X st) (ho:StOk st) :
 Calls Tryz.prog 40 #[r_ rb] w fun r w'=>r=.returned (.tuple #[])∧∃ lv,RdR B T w rb X st st.settle lv w':=by
 rcases Nat.eq_zero_or_pos st.nonts.length with h9 | h9
 · exact b5F h ho h9
 · exact b5E h ho h9
def PaF (s:Txt) (w:World) (rb:Nat) (V:World):Prop:=∃ T X lv rs mp,RdW w.heap.size T V rb X (rdS s) (rdS s).settle lv rs mp∧Chg (fun _=>0) T w V∧T w.heap.size=77∧V.heap[w.heap.size]?=some gm0
set_option maxRecDepth 20000 in
theorem c1D (s:Txt) (w:World) (_hs:s.length≤1000000) (h0:(a0w s).2.2=0) (ho:StOk (rdS s)) {rb:Nat} {W:World} {T:Nat→Nat} {X:RX} (hr:RdV w.heap.size T W rb X (RS.init (wsE s))) (hc:Chg (fun _=>0) T w W) (hT:T w.heap.size=77) (hR:W.heap[w.heap.size]?=some gm0) :
 Calls Tryz.prog 39 #[r_ rb] W fun r u=>r=.returned (.tuple #[])∧Calls Tryz.prog 40 #[r_ rb] u fun r V=>r=.returned (.tuple #[])∧PaF s w rb V:=by
 have hlen:=a5C s h0
 have hp:(RS.init (wsE s)).pot≤80000:=by
  rw [b0i];unfold wsE;rw [List.length_append,List.length_singleton];omega
 have hlt:=u_ hR;refine (c1X hr hp).mono ?_;rintro r u ⟨e,T1,X1,hr1,hc1⟩;have hT1:T1 w.heap.size=77:=(hc1.tag _ hlt).trans hT;have hR1:u.heap[w.heap.size]?=some gm0:=hc1.kept.blk hR (fun e=>e.2 hT);refine ⟨e,(b8N (st:=rdS s) hr1 ho).mono ?_⟩;rintro r V ⟨e2,lv,T2,rs,mp,hr2,hc2⟩;have hlt1:=u_ hR1;exact ⟨e2,T2,X1,lv,rs,mp,hr2,(hc.trans hc1).trans hc2,(hc2.tag _ hlt1).trans hT1,hc2.kept.blk hR1 (fun e=>e.2 hT1)⟩
theorem PaF.out {s:Txt} {w V:World} {rb:Nat} (h:PaF s w rb V):∃ ra rc na nc la lc pa pc T X rs mp,(V.heap[w.heap.size]?=some gm0∧V.cell? ⟨rb,1,none⟩=some (.slice ra (rdS s).rules.length rc)∧V.cell? ⟨rb,2,none⟩=some (.slice na (rdS s).nonts.length nc)∧V.cell? ⟨rb,3,none⟩=some (.slice la (rdS s).settle.levels.length lc)∧V.cell? ⟨rb,4,none⟩=some (.slice pa (rdS s).settle.prods.length pc)∧V.cell? ⟨rb,5,none⟩=some (.int .i64 (rdS s).settle.start)∧V.cell? ⟨rb,16,none⟩=some (.int .i64 ((rdS s).settle.pl:Int))∧V.cell? ⟨rb,17,none⟩=some (.int .i64 (rdS s).settle.err)) ∧
 X.rv=.slice ra (rdS s).rules.length rc∧X.nv=.slice na (rdS s).nonts.length nc∧X.pv=.slice pa (rdS s).settle.prods.length pc∧RdW w.heap.size T V rb X (rdS s) (rdS s).settle (.slice la (rdS s).settle.levels.length lc) rs mp∧Chg (fun _=>0) T w V∧T w.heap.size=77:=by
 obtain ⟨T,X,lv,rs,mp,hr,hc,hT,hR⟩:=h;obtain ⟨ra,rc,h1⟩:=p_ hr.rules.1;obtain ⟨na,nc,h2⟩:=p_ hr.nonts.1;obtain ⟨la,lc,h3⟩:=p_ hr.levels.1;obtain ⟨pa,pc,h4⟩:=p_ hr.prods.1;subst h3;exact ⟨ra,rc,na,nc,la,lc,pa,pc,T,X,rs,mp,⟨hR,by rw [← h1];exact c_ hr.blk rfl,by rw [← h2];exact c_ hr.blk rfl,c_ hr.blk rfl,by rw [← h4];exact c_ hr.blk rfl,c_ hr.blk rfl,c_ hr.blk rfl,c_ hr.blk rfl⟩,h1,h2,h4,hr,hc,hT⟩
end Go.Proofs.YtjgedijclkoemaaGreatDoor
