/- What the five laws of layer 17 share, part 8: no statement of its own. -/
import Derived.Test.YtjgedijclkoemaaGreatDoorJ7
import Derived.Deep.AppendLies
import Derived.Deep.RegionLaw
namespace Go.Proofs.YtjgedijclkoemaaGreatDoor
open Go.RowKit
def Rd (w:World) (rb:Nat) (s q:Txt) (l:List Cel):Prop:=∃ v,At w rb v s q∧b0S w rb v l∧∀ c∈l,FitC c
theorem a7t {w:World} {B rb k:Nat} {v:Value} {l:List Cel} {cs:Array Value} (h:b0S w B v l) (hb:w.heap[rb]?=some (.cells cs 241 (0,0))) (hk:v.ownBlock=some k):k≠rb:=by
 rcases h.2 with ⟨rfl,_⟩ | ⟨g,cap,cur,rfl,_,h3,_⟩
 · cases hk
 · simp [Value.ownBlock] at hk
   subst hk;intro e;subst e;rw [hb] at h3;injection h3 with h3;injection h3 with _ h3;exact absurd h3 (by decide)
theorem Rd.keep {w w':World} {rb:Nat} {s q:Txt} {l:List Cel} (h:Rd w rb s q l) (hb:Below w.heap.size w w'):Rd w' rb s q l:=by
 obtain ⟨v,h1,h2,h3⟩:=h;exact ⟨v,h1.keep hb,j_ h2 hb,h3⟩
theorem At.blk {w:World} {rb:Nat} {v:Value} {s q:Txt} (h:At w rb v s q):∃ k:Nat,w.heap[rb]?=some (.cells #[.string (e_ s),.int .i64 (k:Int),v] 241 (0,0)):=by
 obtain ⟨pre,_,hb⟩:=h;exact ⟨_,hb⟩
theorem a4j {w w':World} {rb:Nat} {v:Value} {s q:Txt} {l:List Cel} (h:At w rb v s q) (ho:b0S w rb v l) (hk:Kept (f_ rb) w w'):b0S w' rb v l:=by
 obtain ⟨k,hb⟩:=h.blk;exact y_ ho fun j hj=>hk.block j (ho.lt j hj).2 (a7t ho hb hj)
theorem a6q {w w':World} {rb:Nat} (hrb:rb<w.heap.size) (hk:Kept (f_ rb) w w'):Below rb w w':=hk.below (fun k e=>Nat.le_of_eq (show rb=k from (show k=rb from e).symm)) (Nat.le_of_lt hrb)
abbrev b1I (op:Int) (S:W4):Array Value:=#[.int .i64 op,.int .u64 (S.a:Int),.int .u64 (S.b:Int),.int .u64 (S.c:Int),.int .u64 (S.d:Int)]
theorem b0F (op:Int) (S:W4):∀ u∈(b1I op S).toList,u.oneCell'=true:=fun u hu=>by
 simp at hu
 rcases hu with rfl | rfl | rfl | rfl | rfl <;> rfl
theorem b2Q {w u w':World} {rb g cap k:Nat} {v:Value} {s q:Txt} {l:List Cel} {op:Int} {S:W4} (hAt:At w rb v s q) (hO:b0S w rb v l) (hF:∀ c∈l,FitC c) (hc:FitC ⟨op,S⟩) (hu:Below w.heap.size w u)
 (hO':w'.ownsRow rb 204 5 (.slice (some ⟨g,0,none⟩) (l.length+1) cap) (l.length+1) (a2u l++(b1I op S).toList)) (hg:u.grownBy w' v.ownBlock) (hat:v.ownBlock=some g∨g=k) (hk:w.heap.size≤k) :
 Rd (w'.setCell ⟨rb,2,none⟩ (.slice (some ⟨g,0,none⟩) (l.length+1) cap)) rb s q (l++[⟨op,S⟩])∧Below rb w (w'.setCell ⟨rb,2,none⟩ (.slice (some ⟨g,0,none⟩) (l.length+1) cap)):=by
 obtain ⟨j,hb⟩:=hAt.blk;have hrb:=u_ hb
 have hgr:g≠rb:=by
  rcases hat with h | h
  · exact a7t hO hb h
  · omega
 have hbw:∀ cs,w.heap[rb]?=some cs→w'.heap[rb]?=some cs:=fun cs h=>(hg.block rb (Nat.lt_of_lt_of_le hrb hu.size) (fun e=>a7t hO hb e.symm rfl)).trans ((hu.block rb hrb).trans h)
 refine ⟨⟨.slice (some ⟨g,0,none⟩) (l.length+1) cap,?_,?_,?_⟩,?_⟩
 · obtain ⟨pre,hp,hb'⟩:=hAt
   refine ⟨pre,hp,?_⟩;rw [heap_setCell (o:=2) (hbw _ hb')];simp
 · unfold b0S
   have e:a2u (l++[⟨op,S⟩])=a2u l++(b1I op S).toList:=by rw [b4a];rfl
   rw [e,List.length_append];refine y_ hO' fun i hi=>?_
   simp [Value.ownBlock] at hi
   subst hi;exact Below.heap_setCell _ _ _ _ hgr
 · intro c hcm
   rcases List.mem_append.1 hcm with h | h
   · exact hF c h
   · simp at h;subst h;exact hc
 · refine x_ ?_ rb 2 _ (Nat.le_refl _)
   have h1:Below rb w u:=hu.mono (Nat.le_of_lt hrb);exact h1.grown hg (Nat.le_trans (Nat.le_of_lt hrb) hu.size) (fun i hi=>(hO.lt i hi).1)
set_option maxRecDepth 20000 in
set_option maxHeartbeats 2000000 in
theorem c0O {w:World} {rb:Nat} {s q:Txt} {l:List Cel} (h:Rd w rb s q l) (hl:l.length≤100000) (op:Int) (h0:-9223372036854775808≤op) (h1:op≤9223372036854775807) :
 Calls Tryz.prog 221 #[.pointer (some ⟨rb,0,none⟩),.int .i64 op] w fun e w'=>e=.returned (.tuple #[])∧Rd w' rb s q (l++[⟨op,n_⟩])∧Below rb w w':=by
 obtain ⟨v,hAt,hO,hF⟩:=h;obtain ⟨i0,hi,hz0,hz1,hz2⟩:=info_parts Tryz.info204;obtain ⟨k,hb⟩:=hAt.blk;have hrb:=u_ hb;obtain ⟨c0,c1,c2,c3,c4⟩:=rd3 hb;have hO1:=hid (j_ hO (al' w (.cells (b1I op n_) 204)));have hN:=hid (World.news_of_block (b_ w (.cells (b1I op n_) 204)));have hal:=hid (al' w (.cells (b1I op n_) 204))
 have hgo:Hid (∀ g cap w',w'.ownsRow rb 204 5 (.slice (some ⟨g,0,none⟩) (l.length+1) cap) (l.length+1) (a2u l++(b1I op n_).toList)→(w.alloc (.cells (b1I op n_) 204)).grownBy w' v.ownBlock→(v.ownBlock=some g∨g=w.heap.size+1) →
  (w'.cell? ⟨rb,2,none⟩=some v∧w'.frozen? ⟨rb,2,none⟩=false)∧Rd (w'.setCell ⟨rb,2,none⟩ (.slice (some ⟨g,0,none⟩) (l.length+1) cap)) rb s q (l++[⟨op,n_⟩])∧Below rb w (w'.setCell ⟨rb,2,none⟩ (.slice (some ⟨g,0,none⟩) (l.length+1) cap))):=hid (fun g cap w' h1' h2' h3'=>by
  refine ⟨?_,b2Q hAt hO hF ⟨h0,h1,a0j⟩ (al' w _) h1' h2' h3' (Nat.le_succ _)⟩;have hbw:w'.heap[rb]?=_:=(h2'.block rb (by simp;omega) (fun e=>a7t hO hb e.symm rfl)).trans ((hal.out.block rb hrb).trans hb);exact ⟨c_ hbw rfl,i_ hbw 2⟩)
 clear hAt hO hF hb;go_enter Tryz.func221,Tryz.ntmps221
 go_wp2_with (at_builtin;refine wpList_append_lies _ (by rfl) _ _ _ (by rfl) rb 204 i0 (.agg #[.int .i64 0,.int .u64 0,.int .u64 0,.int .u64 0,.int .u64 0]) 5 40 Tryz.underlying60 hi hz0 hz1 hz2 rfl (by decide) v l.length (a2u l) (by rfl) hO1.out ⟨w.heap.size,0,none⟩ 1 1 (b1I op n_).toList (by rfl) (by rfl) hN.out (b0F op n_) (by omega) (by (unfold maxLen);omega) (by omega) (by simp;omega) (w.heap.size+1) (by simp) ?_;intro g cap w1 hown1 hgrow hat hlt;obtain ⟨⟨d2,d4⟩,hend⟩:=hgo.out g cap w1 hown1 hgrow hat;have hend:=hid hend)
 first | go_end0 | skip
 exact ⟨rfl,hend.out⟩
set_option maxRecDepth 20000 in
set_option maxHeartbeats 2000000 in
theorem a8E {w:World} {rb:Nat} {s q:Txt} {l:List Cel} (h:Rd w rb s q l) (hl:l.length≤100000) (a0 a1 a2 a3:Nat) (hS:Fit4 ⟨a0,a1,a2,a3⟩) :
 Calls Tryz.prog 250 #[.pointer (some ⟨rb,0,none⟩),a5E ⟨a0,a1,a2,a3⟩] w fun e w'=>e=.returned (.tuple #[])∧Rd w' rb s q (l++[⟨1,⟨a0,a1,a2,a3⟩⟩])∧Below rb w w':=by
 obtain ⟨v,hAt,hO,hF⟩:=h;obtain ⟨i0,hi,hz0,hz1,hz2⟩:=info_parts Tryz.info204;obtain ⟨k,hb⟩:=hAt.blk;have hrb:=u_ hb;have hD1:=hid (al' w (.cells #[.int .u64 (a0:Int),.int .u64 (a1:Int),.int .u64 (a2:Int),.int .u64 (a3:Int)] 202)).drew;have hO1:=hid (fun u (hu:Below w.heap.size w u)=>j_ hO hu);have hN:=hid (World.news_of_block (w:=((w.alloc (.cells #[.int .u64 (a0:Int),.int .u64 (a1:Int),.int .u64 (a2:Int),.int .u64 (a3:Int)] 202)).drew.alloc (.cells (b1I 1 ⟨a0,a1,a2,a3⟩) 204))) (a0P w (.cells #[.int .u64 (a0:Int),.int .u64 (a1:Int),.int .u64 (a2:Int),.int .u64 (a3:Int)] 202) (.cells (b1I 1 ⟨a0,a1,a2,a3⟩) 204)).2)
 have hgo:Hid (∀ u k g cap w',Below w.heap.size w u→w.heap.size≤k→w'.ownsRow rb 204 5 (.slice (some ⟨g,0,none⟩) (l.length+1) cap) (l.length+1) (a2u l++(b1I 1 ⟨a0,a1,a2,a3⟩).toList)→u.grownBy w' v.ownBlock→(v.ownBlock=some g∨g=k) →
  (w'.cell? ⟨rb,2,none⟩=some v∧w'.frozen? ⟨rb,2,none⟩=false)∧Rd (w'.setCell ⟨rb,2,none⟩ (.slice (some ⟨g,0,none⟩) (l.length+1) cap)) rb s q (l++[⟨1,⟨a0,a1,a2,a3⟩⟩])∧Below rb w (w'.setCell ⟨rb,2,none⟩ (.slice (some ⟨g,0,none⟩) (l.length+1) cap))):=hid (fun u k g cap w' hu hk h1' h2' h3'=>by
  refine ⟨?_,b2Q hAt hO hF ⟨show (-9223372036854775808:Int)≤1 by decide,show (1:Int)≤9223372036854775807 by decide,hS⟩ hu h1' h2' h3' hk⟩;have hbw:w'.heap[rb]?=_:=(h2'.block rb (Nat.lt_of_lt_of_le hrb hu.size) (fun e=>a7t hO hb e.symm rfl)).trans ((hu.block rb hrb).trans hb);exact ⟨c_ hbw rfl,i_ hbw 2⟩)
 have hb1:=(hD1.out.block rb hrb).trans hb;obtain ⟨c0,c1,c2,c3,c4⟩:=rd3 hb1;have bS:Blk (w.alloc (.cells #[.int .u64 (a0:Int),.int .u64 (a1:Int),.int .u64 (a2:Int),.int .u64 (a3:Int)] 202)).drew w.heap.size ⟨a0,a1,a2,a3⟩:=b_ w _;obtain ⟨s0,s1,s2,s3,s4,s5,s6,s7⟩:=bS.cells;obtain ⟨e0,e1,e2,e3,e4⟩:=rd3 hb;clear hAt hO hF hb hb1 bS;go_enter Tryz.func250,Tryz.ntmps250
 go_wp2_with fail
 go_region_law ((first
  | (refine step_append_lies _ (by rfl) (.tmp 8) (.tmp 11) 60 (by rfl) rb 204 i0 (.agg #[.int .i64 0,.int .u64 0,.int .u64 0,.int .u64 0,.int .u64 0]) 5 40 Tryz.underlying60 hi hz0 hz1 hz2 rfl (by decide) v l.length (a2u l) (by rfl) (hO1.out _ (a_ hD1.out (al' _ _))) ⟨w.heap.size+1,0,none⟩ 1 1 (b1I 1 ⟨a0,a1,a2,a3⟩).toList (by rfl) (by rfl) hN.out (b0F _ _) (by omega) (by (unfold maxLen);omega) (by omega) (by simp;omega) (w.heap.size+2) (by simp) ?_;intro g cap w1 hown1 hgrow hat hlt;obtain ⟨⟨d2,d4⟩,hend⟩:=hgo.out _ _ g cap w1 (a_ hD1.out (al' _ _)) (by omega) hown1 hgrow hat;have hend:=hid hend)
  | fail))
 all_goals
  first | go_end0 | skip
  exact ⟨rfl,hend.out⟩
end Go.Proofs.YtjgedijclkoemaaGreatDoor
