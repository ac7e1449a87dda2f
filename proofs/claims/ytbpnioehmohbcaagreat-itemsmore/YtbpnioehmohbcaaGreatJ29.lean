/- gram.Parse: what lies ahead of the reader, and behind it. The grammar that the reader holds. gram.Parse. gram.Parse. -/
import Derived.Test.YtbpnioehmohbcaaGreatJ27
import Derived.Test.YtbpnioehmohbcaaGreatJ28
import Derived.Test.YtbpnioehmohbcaaGreatJ24
namespace Go.Proofs.YtbpnioehmohbcaaGreat
open Go.RowKit Go.Maps
theorem wrdR_len (T:Txt):∀ (f a:Nat) (l:List Wd),(wrdR T f a l).1.length ≤ l.length + f
 | 0,a,l => Nat.le_refl _
 | f + 1,a,l => by
  rw [wrdR]
  split
  · show l.length ≤ _;omega
  · split
    · show ([]:List Wd).length ≤ _;simp
    · refine Nat.le_trans (wrdR_len T f _ _) ?_
      rw [List.length_append,List.length_singleton]
      omega
theorem wrdA_len (s:Txt) (h:(wrdA s).2.2 = 0):(wrdA s).1.length ≤ 4000:=by
 unfold wrdA at h ⊢
 split at h
 · cases h
 · rename_i h4
   rw [if_neg h4]
   have:=wrdR_len s s.length (skL false s) []
   simp at this
   omega
abbrev gm0:Obj:=.cells #[.slice none 0 0,.slice none 0 0,.slice none 0 0,.slice none 0 0,.int .i64 0] 27
def X0 (v:Value):RX:=⟨v,.slice none 0 0,.slice none 0 0,.slice none 0 0,.slice none 0 0,.slice none 0 0,.slice none 0 0,.slice none 0 0,[],[]⟩
theorem RdV.begin {w u:World} {g cap R:Nat} {ws:List Wd} (hb:w.heap.size ≤ R) (hR:R < u.heap.size) (hO:u.ownsRow w.heap.size 63 3 (.slice (some ⟨g,0,none⟩) ws.length cap) ws.length (ws.flatMap wdV)) (hg:g ≠ R) (hk:Below w.heap.size w u) (he:Endd ws) :
 RdV w.heap.size (tagT (tagT (fun _ => 0) R 77) u.heap.size 99) (u.alloc (rdO (X0 (.slice (some ⟨g,0,none⟩) ws.length cap)) 0 0 0 0)) u.heap.size (X0 (.slice (some ⟨g,0,none⟩) ws.length cap)) (RS.init ws) ∧ Chg (fun _ => 0) (tagT (tagT (fun _ => 0) R 77) u.heap.size 99) w (u.alloc (rdO (X0 (.slice (some ⟨g,0,none⟩) ws.length cap)) 0 0 0 0)):=by
 have hal:=al' u (rdO (X0 (.slice (some ⟨g,0,none⟩) ws.length cap)) 0 0 0 0)
 have hz:(u.alloc (rdO (X0 (.slice (some ⟨g,0,none⟩) ws.length cap)) 0 0 0 0)).heap.size = u.heap.size + 1:=World.size_alloc ..
 have hgl:=(hO.lt g rfl).2
 have hws:=hk.size
 have hnil:∀ (i:Nat) (te:TypeId) (sz:Nat),OwnI (u.alloc (rdO (X0 (.slice (some ⟨g,0,none⟩) ws.length cap)) 0 0 0 0)) w.heap.size (tagT (tagT (fun _ => 0) R 77) u.heap.size 99) i te sz (.slice none 0 0) 0 []:=fun i te sz => ⟨World.ownsRow_nil _ _ _ _,fun b e => by cases e⟩
 have ht0:∀ b,b ≠ u.heap.size → b ≠ R → tagT (tagT (fun _ => 0) R 77) u.heap.size 99 b = 0:=fun b h1 h2 => by
  show (if b = u.heap.size then 99 else if b = R then 77 else 0) = 0
  rw [if_neg h1,if_neg h2]
 refine ⟨⟨heap_new u _,if_pos rfl,fun b hn => ?_,by omega,?_,he,hnil _ _ _,rfl,fun x hx => (by cases hx),hnil _ _ _,hnil _ _ _,hnil _ _ _,hnil _ _ _,hnil _ _ _,hnil _ _ _,rfl,fun x hx => (by cases hx)⟩,Kept.of_below (bl_step hk hal),fun b hb9 => ht0 b (by omega) (by omega)⟩
 · by_cases h1:b = u.heap.size
   · omega
   · by_cases h2:b = R
     · omega
     · exact absurd (ht0 b h1 h2) hn
 · obtain ⟨a,c,e,hc,-,hat⟩:=own_at (sz:=3) (cs:=wdV) (fun _ => rfl) (by decide) (own_below hO hal)
   injection e with e1 _ e3
   subst e1 e3
   refine ⟨g,0,cap,rfl,hc,ht0 g (by omega) hg,by omega,fun j hj => ?_⟩
   obtain ⟨b,o,e4,h1,h2⟩:=hat j hj
   injection e4 with e4
   injection e4 with e4 e5 _
   subst e4 e5
   exact ⟨h2 0 (by decide),h2 1 (by decide),h2 2 (by decide)⟩
theorem init_pot (ws:List Wd):(RS.init ws).pot = 4 * ws.length:=by unfold RS.init RS.pot RS.lens;simp
theorem wsE_end (s:Txt):Endd (wsE s):=⟨(wrdA s).1,s.length,rfl⟩
end Go.Proofs.YtbpnioehmohbcaaGreat
namespace Go.Proofs.YtbpnioehmohbcaaGreat
open Go.RowKit Go.Maps
theorem RdW.gm {B rb:Nat} {T:Nat → Nat} {w:World} {X:RX} {st:RS} {f:FS} {lv:Value} {rs:List Value} {mp:Option Nat} (h:RdW B T w rb X st f lv rs mp) (he:st.err = 0):GmV w X.rv X.nv lv X.pv ⟨st.rules,st.nonts,f.levels,f.prods,f.start⟩:=by
 refine ⟨?_,txt_own h.nonts.1,lev_own h.levels.1,?_⟩
 · have hl:=h.rlen
   have hz:(st.rules.zip X.rl).length = st.rules.length:=by rw [List.length_zip,hl,Nat.min_self]
   have hO:=h.rules.1
   rw [← hz] at hO
   obtain ⟨a,cap,e,hc,hn,hat⟩:=own_at (sz:=3) (cs:=fun x:Rl × Value => rlV x.1 x.2) (fun _ => rfl) (by decide) hO
   refine ⟨a,cap,by rw [e,hz],by rw [← hz];exact hc,hn,fun j hj => ?_⟩
   have hj2:j < (st.rules.zip X.rl).length:=by rw [hz];exact hj
   obtain ⟨b,o,e1,h1,h2⟩:=hat j hj2
   have hm:=List.getElem_mem hj2
   have hR:=(h.rre _ hm).2 he
   rw [List.getElem_zip] at h2 hR
   exact ⟨b,o,e1,h1,X.rl[j]'(by rw [hl];exact hj),h2 0 (by decide),h2 1 (by decide),h2 2 (by decide),hR.1⟩
 · have hl:=h.rslen
   have hz:(f.prods.zip rs).length = f.prods.length:=by rw [List.length_zip,hl,Nat.min_self]
   have hO:=h.prods.1
   rw [← hz] at hO
   obtain ⟨a,cap,e,hc,hn,hat⟩:=own_at (sz:=3) (cs:=fun x:Pd × Value => prV x.1 x.2) (fun _ => rfl) (by decide) hO
   refine ⟨a,cap,by rw [e,hz],by rw [← hz];exact hc,hn,fun j hj => ?_⟩
   have hj2:j < (f.prods.zip rs).length:=by rw [hz];exact hj
   obtain ⟨b,o,e1,h1,h2⟩:=hat j hj2
   rw [List.getElem_zip] at h2
   have hjr:j < rs.length:=by rw [hl];exact hj
   exact ⟨b,o,e1,h1,rs[j],h2 0 (by decide),h2 1 (by decide),h2 2 (by decide),nums_own (h.rights j hjr hj).1⟩
end Go.Proofs.YtbpnioehmohbcaaGreat
namespace Go.Proofs.YtbpnioehmohbcaaGreat
open Go.RowKit Go.Maps
set_option maxRecDepth 20000 in
theorem parseA (s:Txt) (w:World) (_hs:s.length ≤ 1000000) (h0:(wrdA s).2.2 = 0) :
 ∀ u v,WdM (w.alloc gm0) u v (wrdA s).1 → ∃ A C u6,(Builtin.append_ #[59,59] 59 #[v,.slice (some ⟨u.heap.size,0,none⟩) 1 1]).run Tryz.prog (u.alloc (.cells #[.int .i64 0,.int .i64 (s.length:Int),.string ⟨#[]⟩] 63)) = .ok (.slice A (wsE s).length C) u6 ∧
  ∃ T X,RdV w.heap.size T (u6.alloc (rdO (X0 (.slice A (wsE s).length C)) 0 0 0 0)) u6.heap.size X (RS.init (wsE s)) ∧ Chg (fun _ => 0) T w (u6.alloc (rdO (X0 (.slice A (wsE s).length C)) 0 0 0 0)) ∧ T w.heap.size = 77 ∧ (u6.alloc (rdO (X0 (.slice A (wsE s).length C)) 0 0 0 0)).heap[w.heap.size]? = some gm0:=fun u v hW => by
 obtain ⟨i0,hi0,za,zb,zc⟩:=info_parts Tryz.infoWd
 have hal0:=al' w gm0
 have hz0:(w.alloc gm0).heap.size = w.heap.size + 1:=World.size_alloc ..
 have hlow:=hW.low
 have hOI:OwnI u (w.alloc gm0).heap.size (fun _ => 0) 0 63 3 v (wrdA s).1.length ((wrdA s).1.flatMap wdV):=⟨hW.own,fun _ _ => rfl⟩
 have hlen:=wrdA_len s h0
 obtain ⟨A,C,u6,hrun,hO,hk,-,-⟩:=own_appI (tS:=59) (ty:=59) Tryz.underlying59 hi0 za zb zc rfl (by decide) hOI #[.int .i64 0,.int .i64 (s.length:Int),.string ⟨#[]⟩] rfl (fun x hx => by simp at hx;rcases hx with rfl | rfl | rfl <;> rfl) (by omega) (by decide) hlow.size (fun _ _ => rfl)
 have el:(wsE s).length = (wrdA s).1.length + 1:=by unfold wsE;rw [List.length_append];rfl
 have ef:(wsE s).flatMap wdV = (wrdA s).1.flatMap wdV ++ [.int .i64 0,.int .i64 (s.length:Int),.string ⟨#[]⟩]:=by unfold wsE;rw [List.flatMap_append,List.flatMap_singleton];rfl
 rw [← el] at hrun hO
 have hO1:u6.ownsRow (w.alloc gm0).heap.size 63 3 (.slice A (wsE s).length C) (wsE s).length ((wsE s).flatMap wdV):=by rw [ef];exact hO.1
 refine ⟨A,C,u6,hrun,?_⟩
 rcases hO1.2 with ⟨h1,h2⟩ | ⟨g,cap,cur,h1,h2,h3,-⟩
 · omega
 · injection h1 with h1 _ h5
   subst h1 h5
   have hkB:Below (w.alloc gm0).heap.size (w.alloc gm0) u6:=hlow.trans (hk.below (fun k e => (hW.own.lt k e).1) hlow.size)
   have hBw:Below w.heap.size w u6:=bl_step hal0 hkB
   have hgR:u6.heap[w.heap.size]? = some gm0:=(hkB.block _ (by omega)).trans (heap_new w gm0)
   obtain ⟨hR,hC⟩:=RdV.begin (R:=w.heap.size) (Nat.le_refl _) (blk_lt hgR) (own_low hO1 (by omega)) (by omega) hBw (wsE_end s)
   have hlt:=blk_lt hgR
   refine ⟨_,_,hR,hC,?_,hs_keep hgR (al' u6 _)⟩
   show (if w.heap.size = u6.heap.size then 99 else if w.heap.size = w.heap.size then 77 else 0) = 77
   rw [if_neg (by omega),if_pos rfl]
end Go.Proofs.YtbpnioehmohbcaaGreat
namespace Go.Proofs.YtbpnioehmohbcaaGreat
open Go.RowKit Go.Maps
abbrev gmZ:Value:=gmA (.slice none 0 0) (.slice none 0 0) (.slice none 0 0) (.slice none 0 0) 0
set_option maxRecDepth 20000 in
set_option maxHeartbeats 8000000 in
theorem parseB (s:Txt) (w:World) (hs:s.length ≤ 1000000) (h0:(wrdA s).2.2 ≠ 0) :
 Calls Tryz.prog 24 #[.string (strT s)] w fun e w' => e = .returned (.tuple #[gmZ,.int .i64 ((wrdA s).2.1:Int),.int .i64 (wrdA s).2.2]) ∧ Below w.heap.size w w':=by
 have hal0:=al' w gm0
 have hR0:=heap_new w gm0
 obtain ⟨W,hW⟩:∃ y,w.alloc gm0 = y:=⟨_,rfl⟩
 rw [hW] at hal0 hR0
 have G:=hid (allC s W (by omega))
 have hfin:Hid (∀ u v l,WdM W u v l → u.heap[w.heap.size]? = some gm0 ∧ Below w.heap.size w u):=hid (fun u v l hM => ⟨hs_keep hR0 hM.low,bl_step hal0 hM.low⟩)
 have h0z:((wrdA s).2.2 != 0) = true:=bne_iff_ne.2 h0
 generalize (wrdA s).1 = l at *
 generalize (wrdA s).2.1 = ap at *
 generalize (wrdA s).2.2 = er at *
 clear hal0 hR0 h0
 go_enter Tryz.func24,Tryz.ntmps24
 go_wp2_with (go_at_call 35;refine G.out.mono ?_;clear G;rintro e u ⟨v,rfl,hM⟩;obtain ⟨hR1,hB1⟩:=hfin.out u v l hM;clear hfin hM;obtain ⟨⟨q0,q1⟩,⟨q2,q3⟩,⟨q4,q5⟩,⟨q6,q7⟩,⟨q8,q9⟩,q10⟩:=putT5 hR1 (.slice none 0 0) (.slice none 0 0) (.slice none 0 0) (.slice none 0 0) (.int .i64 0);obtain ⟨y0,y1,y2,y3,y4⟩:=cells5m q10;have hB1:=hid (bl_set (bl_set (bl_set (bl_set (bl_set hB1 _ 0 (.slice none 0 0) (Nat.le_refl _)) _ 1 (.slice none 0 0) (Nat.le_refl _)) _ 2 (.slice none 0 0) (Nat.le_refl _)) _ 3 (.slice none 0 0) (Nat.le_refl _)) _ 4 (.int .i64 0) (Nat.le_refl _));clear q10 hR1)
 refine bodyPost_ret (v:=.tuple #[gmZ,.int .i64 (ap:Int),.int .i64 er]) (by simp [results,Tryz.results24,go_sem,y0,y1,y2,y3,y4]) rfl ⟨rfl,?_⟩
 exact hB1.out
end Go.Proofs.YtbpnioehmohbcaaGreat
