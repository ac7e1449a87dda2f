/- The reader: a cell is put down. The reader: an atom, where rows of shorter texts are read. The reader: atoms, pieces. The reader: pieces, rows. -/
import Derived.Test.YtbpnioehmohbcaaGreatJ7
import Derived.Deep.AppendLies
import Derived.Deep.RegionLaw
namespace Go.Proofs.YtbpnioehmohbcaaGreat
open Go.RowKit
def Rd (w:World) (rb:Nat) (s q:Txt) (l:List Cel):Prop:=∃ v,At w rb v s q ∧ OwnC w rb v l ∧ ∀ c ∈ l,FitC c
theorem own_ne {w:World} {B rb k:Nat} {v:Value} {l:List Cel} {cs:Array Value} (h:OwnC w B v l) (hb:w.heap[rb]? = some (.cells cs 168 (0,0))) (hk:v.ownBlock = some k):k ≠ rb:=by
 rcases h.2 with ⟨rfl,_⟩ | ⟨g,cap,cur,rfl,_,h3,_⟩
 · cases hk
 · simp [Value.ownBlock] at hk
   subst hk
   intro e
   subst e
   rw [hb] at h3
   injection h3 with h3
   injection h3 with _ h3
   exact absurd h3 (by decide)
theorem Rd.keep {w w':World} {rb:Nat} {s q:Txt} {l:List Cel} (h:Rd w rb s q l) (hb:Below w.heap.size w w'):Rd w' rb s q l:=by
 obtain ⟨v,h1,h2,h3⟩:=h
 exact ⟨v,h1.keep hb,own_below h2 hb,h3⟩
theorem At.blk {w:World} {rb:Nat} {v:Value} {s q:Txt} (h:At w rb v s q):∃ k:Nat,w.heap[rb]? = some (.cells #[.string (strT s),.int .i64 (k:Int),v] 168 (0,0)):=by
 obtain ⟨pre,_,hb⟩:=h
 exact ⟨_,hb⟩
theorem own_keptR {w w':World} {rb:Nat} {v:Value} {s q:Txt} {l:List Cel} (h:At w rb v s q) (ho:OwnC w rb v l) (hk:Kept (oneBlk rb) w w'):OwnC w' rb v l:=by
 obtain ⟨k,hb⟩:=h.blk
 exact own_keep ho fun j hj => hk.block j (ho.lt j hj).2 (own_ne ho hb hj)
theorem kept_low {w w':World} {rb:Nat} (hrb:rb < w.heap.size) (hk:Kept (oneBlk rb) w w'):Below rb w w':=hk.below (fun k e => Nat.le_of_eq (show rb = k from (show k = rb from e).symm)) (Nat.le_of_lt hrb)
abbrev cel5 (op:Int) (S:W4):Array Value:=#[.int .i64 op,.int .u64 (S.a:Int),.int .u64 (S.b:Int),.int .u64 (S.c:Int),.int .u64 (S.d:Int)]
theorem cel5_one (op:Int) (S:W4):∀ u ∈ (cel5 op S).toList,u.oneCell' = true:=fun u hu => by
 simp at hu
 rcases hu with rfl | rfl | rfl | rfl | rfl <;> rfl
theorem put_end {w u w':World} {rb g cap k:Nat} {v:Value} {s q:Txt} {l:List Cel} {op:Int} {S:W4} (hAt:At w rb v s q) (hO:OwnC w rb v l) (hF:∀ c ∈ l,FitC c) (hc:FitC ⟨op,S⟩) (hu:Below w.heap.size w u)
 (hO':w'.ownsRow rb 132 5 (.slice (some ⟨g,0,none⟩) (l.length + 1) cap) (l.length + 1) (flatC l ++ (cel5 op S).toList)) (hg:u.grownBy w' v.ownBlock) (hat:v.ownBlock = some g ∨ g = k) (hk:w.heap.size ≤ k) :
 Rd (w'.setCell ⟨rb,2,none⟩ (.slice (some ⟨g,0,none⟩) (l.length + 1) cap)) rb s q (l ++ [⟨op,S⟩]) ∧ Below rb w (w'.setCell ⟨rb,2,none⟩ (.slice (some ⟨g,0,none⟩) (l.length + 1) cap)):=by
 obtain ⟨j,hb⟩:=hAt.blk
 have hrb:=blk_lt hb
 have hgr:g ≠ rb:=by
  rcases hat with h | h
  · exact own_ne hO hb h
  · omega
 have hbw:∀ cs,w.heap[rb]? = some cs → w'.heap[rb]? = some cs:=fun cs h => (hg.block rb (Nat.lt_of_lt_of_le hrb hu.size) (fun e => own_ne hO hb e.symm rfl)).trans ((hu.block rb hrb).trans h)
 refine ⟨⟨.slice (some ⟨g,0,none⟩) (l.length + 1) cap,?_,?_,?_⟩,?_⟩
 · obtain ⟨pre,hp,hb'⟩:=hAt
   refine ⟨pre,hp,?_⟩
   rw [heap_setCell (o:=2) (hbw _ hb')]
   simp
 · unfold OwnC
   have e:flatC (l ++ [⟨op,S⟩]) = flatC l ++ (cel5 op S).toList:=by rw [flatC_app];rfl
   rw [e,List.length_append]
   refine own_keep hO' fun i hi => ?_
   simp [Value.ownBlock] at hi
   subst hi
   exact Below.heap_setCell _ _ _ _ hgr
 · intro c hcm
   rcases List.mem_append.1 hcm with h | h
   · exact hF c h
   · simp at h;subst h;exact hc
 · refine bl_set ?_ rb 2 _ (Nat.le_refl _)
   have h1:Below rb w u:=hu.mono (Nat.le_of_lt hrb)
   exact h1.grown hg (Nat.le_trans (Nat.le_of_lt hrb) hu.size) (fun i hi => (hO.lt i hi).1)
set_option maxRecDepth 20000 in
set_option maxHeartbeats 2000000 in
theorem putC {w:World} {rb:Nat} {s q:Txt} {l:List Cel} (h:Rd w rb s q l) (hl:l.length ≤ 100000) (op:Int) (h0:-9223372036854775808 ≤ op) (h1:op ≤ 9223372036854775807) :
 Calls Tryz.prog 152 #[.pointer (some ⟨rb,0,none⟩),.int .i64 op] w fun e w' => e = .returned (.tuple #[]) ∧ Rd w' rb s q (l ++ [⟨op,noneB⟩]) ∧ Below rb w w':=by
 obtain ⟨v,hAt,hO,hF⟩:=h
 obtain ⟨i0,hi,hz0,hz1,hz2⟩:=info_parts Tryz.info132
 obtain ⟨k,hb⟩:=hAt.blk
 have hrb:=blk_lt hb
 obtain ⟨c0,c1,c2,c3,c4⟩:=rd3 hb
 have hO1:=hid (own_below hO (al' w (.cells (cel5 op noneB) 132)))
 have hN:=hid (World.news_of_block (heap_new w (.cells (cel5 op noneB) 132)))
 have hal:=hid (al' w (.cells (cel5 op noneB) 132))
 have hgo:Hid (∀ g cap w',w'.ownsRow rb 132 5 (.slice (some ⟨g,0,none⟩) (l.length + 1) cap) (l.length + 1) (flatC l ++ (cel5 op noneB).toList) → (w.alloc (.cells (cel5 op noneB) 132)).grownBy w' v.ownBlock → (v.ownBlock = some g ∨ g = w.heap.size + 1) →
  (w'.cell? ⟨rb,2,none⟩ = some v ∧ w'.frozen? ⟨rb,2,none⟩ = false) ∧ Rd (w'.setCell ⟨rb,2,none⟩ (.slice (some ⟨g,0,none⟩) (l.length + 1) cap)) rb s q (l ++ [⟨op,noneB⟩]) ∧ Below rb w (w'.setCell ⟨rb,2,none⟩ (.slice (some ⟨g,0,none⟩) (l.length + 1) cap))):=hid (fun g cap w' h1' h2' h3' => by
  refine ⟨?_,put_end hAt hO hF ⟨h0,h1,noneB_fit⟩ (al' w _) h1' h2' h3' (Nat.le_succ _)⟩
  have hbw:w'.heap[rb]? = _:=(h2'.block rb (by simp;omega) (fun e => own_ne hO hb e.symm rfl)).trans ((hal.out.block rb hrb).trans hb)
  exact ⟨blk_cell hbw rfl,blk_frozen hbw 2⟩)
 clear hAt hO hF hb
 go_enter Tryz.func152,Tryz.ntmps152
 go_wp2_with (at_builtin;refine wpList_append_lies _ (by rfl) _ _ _ (by rfl) rb 132 i0 (.agg #[.int .i64 0,.int .u64 0,.int .u64 0,.int .u64 0,.int .u64 0]) 5 40 Tryz.underlying48 hi hz0 hz1 hz2 rfl (by decide) v l.length (flatC l) (by rfl) hO1.out ⟨w.heap.size,0,none⟩ 1 1 (cel5 op noneB).toList (by rfl) (by rfl) hN.out (cel5_one op noneB) (by omega) (by (unfold maxLen);omega) (by omega) (by simp;omega) (w.heap.size + 1) (by simp) ?_;intro g cap w1 hown1 hgrow hat hlt;obtain ⟨⟨d2,d4⟩,hend⟩:=hgo.out g cap w1 hown1 hgrow hat;have hend:=hid hend)
 first | go_end0 | skip
 exact ⟨rfl,hend.out⟩
set_option maxRecDepth 20000 in
set_option maxHeartbeats 2000000 in
theorem putSetC {w:World} {rb:Nat} {s q:Txt} {l:List Cel} (h:Rd w rb s q l) (hl:l.length ≤ 100000) (a0 a1 a2 a3:Nat) (hS:Fit4 ⟨a0,a1,a2,a3⟩) :
 Calls Tryz.prog 177 #[.pointer (some ⟨rb,0,none⟩),valB ⟨a0,a1,a2,a3⟩] w fun e w' => e = .returned (.tuple #[]) ∧ Rd w' rb s q (l ++ [⟨1,⟨a0,a1,a2,a3⟩⟩]) ∧ Below rb w w':=by
 obtain ⟨v,hAt,hO,hF⟩:=h
 obtain ⟨i0,hi,hz0,hz1,hz2⟩:=info_parts Tryz.info132
 obtain ⟨k,hb⟩:=hAt.blk
 have hrb:=blk_lt hb
 have hD1:=hid (al' w (.cells #[.int .u64 (a0:Int),.int .u64 (a1:Int),.int .u64 (a2:Int),.int .u64 (a3:Int)] 130)).drew
 have hO1:=hid (fun u (hu:Below w.heap.size w u) => own_below hO hu)
 have hN:=hid (World.news_of_block (w:=((w.alloc (.cells #[.int .u64 (a0:Int),.int .u64 (a1:Int),.int .u64 (a2:Int),.int .u64 (a3:Int)] 130)).drew.alloc (.cells (cel5 1 ⟨a0,a1,a2,a3⟩) 132))) (two_blocks w (.cells #[.int .u64 (a0:Int),.int .u64 (a1:Int),.int .u64 (a2:Int),.int .u64 (a3:Int)] 130) (.cells (cel5 1 ⟨a0,a1,a2,a3⟩) 132)).2)
 have hgo:Hid (∀ u k g cap w',Below w.heap.size w u → w.heap.size ≤ k → w'.ownsRow rb 132 5 (.slice (some ⟨g,0,none⟩) (l.length + 1) cap) (l.length + 1) (flatC l ++ (cel5 1 ⟨a0,a1,a2,a3⟩).toList) → u.grownBy w' v.ownBlock → (v.ownBlock = some g ∨ g = k) →
  (w'.cell? ⟨rb,2,none⟩ = some v ∧ w'.frozen? ⟨rb,2,none⟩ = false) ∧ Rd (w'.setCell ⟨rb,2,none⟩ (.slice (some ⟨g,0,none⟩) (l.length + 1) cap)) rb s q (l ++ [⟨1,⟨a0,a1,a2,a3⟩⟩]) ∧ Below rb w (w'.setCell ⟨rb,2,none⟩ (.slice (some ⟨g,0,none⟩) (l.length + 1) cap))):=hid (fun u k g cap w' hu hk h1' h2' h3' => by
  refine ⟨?_,put_end hAt hO hF ⟨show (-9223372036854775808:Int) ≤ 1 by decide,show (1:Int) ≤ 9223372036854775807 by decide,hS⟩ hu h1' h2' h3' hk⟩
  have hbw:w'.heap[rb]? = _:=(h2'.block rb (Nat.lt_of_lt_of_le hrb hu.size) (fun e => own_ne hO hb e.symm rfl)).trans ((hu.block rb hrb).trans hb)
  exact ⟨blk_cell hbw rfl,blk_frozen hbw 2⟩)
 have hb1:=(hD1.out.block rb hrb).trans hb
 obtain ⟨c0,c1,c2,c3,c4⟩:=rd3 hb1
 have bS:Blk (w.alloc (.cells #[.int .u64 (a0:Int),.int .u64 (a1:Int),.int .u64 (a2:Int),.int .u64 (a3:Int)] 130)).drew w.heap.size ⟨a0,a1,a2,a3⟩:=heap_new w _
 obtain ⟨s0,s1,s2,s3,s4,s5,s6,s7⟩:=bS.cells
 obtain ⟨e0,e1,e2,e3,e4⟩:=rd3 hb
 clear hAt hO hF hb hb1 bS
 go_enter Tryz.func177,Tryz.ntmps177
 go_wp2_with fail
 go_region_law ((first
  | (refine step_append_lies _ (by rfl) (.tmp 8) (.tmp 11) 48 (by rfl) rb 132 i0 (.agg #[.int .i64 0,.int .u64 0,.int .u64 0,.int .u64 0,.int .u64 0]) 5 40 Tryz.underlying48 hi hz0 hz1 hz2 rfl (by decide) v l.length (flatC l) (by rfl) (hO1.out _ (bl_step hD1.out (al' _ _))) ⟨w.heap.size + 1,0,none⟩ 1 1 (cel5 1 ⟨a0,a1,a2,a3⟩).toList (by rfl) (by rfl) hN.out (cel5_one _ _) (by omega) (by (unfold maxLen);omega) (by omega) (by simp;omega) (w.heap.size + 2) (by simp) ?_;intro g cap w1 hown1 hgrow hat hlt;obtain ⟨⟨d2,d4⟩,hend⟩:=hgo.out _ _ g cap w1 (bl_step hD1.out (al' _ _)) (by omega) hown1 hgrow hat;have hend:=hid hend)
  | fail))
 all_goals
  first | go_end0 | skip
  exact ⟨rfl,hend.out⟩
end Go.Proofs.YtbpnioehmohbcaaGreat
namespace Go.Proofs.YtbpnioehmohbcaaGreat
open Go.RowKit
theorem Rd.lt {w:World} {rb:Nat} {s q:Txt} {l:List Cel} (h:Rd w rb s q l):rb < w.heap.size:=by
 obtain ⟨v,h,_,_⟩:=h
 obtain ⟨k,hb⟩:=h.blk
 exact blk_lt hb
theorem Rd.suf {w:World} {rb:Nat} {s q:Txt} {l:List Cel} (h:Rd w rb s q l):∃ pre,s = pre ++ q:=by
 obtain ⟨v,⟨pre,hp,_⟩,_,_⟩:=h
 exact ⟨pre,hp⟩
theorem Rd.place {w:World} {rb:Nat} {s q:Txt} {l:List Cel} (h:Rd w rb s q l):w.cell? ⟨rb,1,none⟩ = some (.int .i64 (plc s q)):=by
 obtain ⟨v,h,_,_⟩:=h
 exact h.place
theorem Rd.left {w:World} {rb:Nat} {s q:Txt} {l:List Cel} (h:Rd w rb s q l):plcN w rb s.length = q.length:=by
 obtain ⟨v,h,_,_⟩:=h
 exact h.left
theorem low {w w':World} {rb:Nat} (hrb:rb < w.heap.size) (hb:Below w.heap.size w w'):Below rb w w':=hb.mono (Nat.le_of_lt hrb)
set_option maxRecDepth 20000 in
theorem takeN {w:World} {rb:Nat} {s q:Txt} {l:List Cel} (h:Rd w rb s q l) (hs:s.length ≤ 200) (c:UInt8) (hc:(q.head? == some c) = false) :
 Calls Tryz.prog 151 #[.pointer (some ⟨rb,0,none⟩),.int .u8 (c.toNat:Int)] w fun e w' => e = .returned (.bool false) ∧ Rd w' rb s q l ∧ Below rb w w':=by
 have hlt:=h.lt
 have h':=h
 obtain ⟨v,h1,h2,h3⟩:=h
 exact (takeNo h1 hs c hc).mono fun e w' hh => ⟨hh.1,h'.keep hh.2,low hlt hh.2⟩
set_option maxRecDepth 20000 in
theorem takeY {w:World} {rb:Nat} {s r:Txt} {c:UInt8} {l:List Cel} (h:Rd w rb s (c :: r) l) (hs:s.length ≤ 200) :
 Calls Tryz.prog 151 #[.pointer (some ⟨rb,0,none⟩),.int .u8 (c.toNat:Int)] w fun e w' => e = .returned (.bool true) ∧ Rd w' rb s r l ∧ Below rb w w':=by
 have hlt:=h.lt
 obtain ⟨v,h1,h2,h3⟩:=h
 exact (takeYes h1 hs).mono fun e w' hh => ⟨hh.1,⟨v,hh.2.1,own_keptR h1 h2 hh.2.2,h3⟩,kept_low hlt hh.2.2⟩
def Red (res:Option (Rx × Txt)) (w:World) (rb:Nat) (s:Txt) (l:List Cel) (M:Nat):Ending → World → Prop:=fun e w' =>
 (match res with
  | some (t,q) => e = .returned (.tuple #[]) ∧ Rd w' rb s q (l ++ post t) ∧ (l ++ post t).length + 1 + 2 * q.length ≤ M
  | none => ∃ n,e = faultE n ∧ (s = [40,97] → n = 2)) ∧ Below rb w w'
theorem Red.yes {t:Rx} {q:Txt} {w w':World} {rb:Nat} {s:Txt} {l:List Cel} {M:Nat} {e:Ending} (h:Red (some (t,q)) w rb s l M e w'):e = .returned (.tuple #[]) ∧ Rd w' rb s q (l ++ post t) ∧ (l ++ post t).length + 1 + 2 * q.length ≤ M ∧ Below rb w w':=⟨h.1.1,h.1.2.1,h.1.2.2,h.2⟩
set_option maxRecDepth 20000 in
theorem Red.no {w w':World} {rb:Nat} {s:Txt} {l:List Cel} {M:Nat} {e:Ending} (h:Red none w rb s l M e w'):(∃ n,e = faultE n ∧ (s = [40,97] → n = 2)) ∧ Below rb w w':=h
def RowsOK (n:Nat):Prop:=∀ (w:World) (rb:Nat) (s q:Txt) (l:List Cel) (M:Nat),Rd w rb s q l → s.length ≤ 200 → q.length < n → l.length + 2 * q.length ≤ M → M ≤ 1000 →
 Calls Tryz.prog 145 #[.pointer (some ⟨rb,0,none⟩)] w (Red (rowsP q) w rb s l M)
theorem suf2 {pre q:Txt} (h:([40,97]:Txt) = pre ++ q):q = [40,97] ∨ q = [97] ∨ q = []:=by
 match pre,h with
 | [],h => exact Or.inl h.symm
 | [a],h => injection h with _ h;exact Or.inr (Or.inl h.symm)
 | [a,b],h => injection h with _ h;injection h with _ h;exact Or.inr (Or.inr h.symm)
 | a :: b :: c :: r,h => injection h with _ h;injection h with _ h;cases h
def groupP (r:Txt):Option (Rx × Txt):=
 if r.head? == some 41 then some (.eps,r.tail) else
 match rowsP r with
 | some (t,q) => if q.head? == some 41 then some (t,q.tail) else none
 | none => none
theorem head_is {q:Txt} {c:UInt8} (h:q.head? = some c):∃ r,q = c :: r:=by
 cases q with
 | nil => cases h
 | cons d t => injection h with h;subst h;exact ⟨t,rfl⟩
set_option maxRecDepth 20000 in
set_option maxHeartbeats 2000000 in
theorem groupC {n:Nat} (H:RowsOK n) {w:World} {rb:Nat} {s r:Txt} {l:List Cel} {M:Nat} (h:Rd w rb s r l) (hs:s.length ≤ 200) (hn:r.length < n) (hM:l.length + 2 * r.length + 2 ≤ M) (hM1:M ≤ 1000) (hfst:s = [40,97] → r = [97]) :
 Calls Tryz.prog 176 #[.pointer (some ⟨rb,0,none⟩)] w (Red (groupP r) w rb s l M):=by
 by_cases h41:r.head? = some 41
 · obtain ⟨r',rfl⟩:=head_is h41
   have G1:=hid (takeY h hs)
   rw [show ((41:UInt8).toNat:Int) = 41 from rfl] at G1
   have G2:=hid (fun u (hu:Rd u rb s r' l) => putC hu (by simp at hM;omega) 2 (by decide) (by decide))
   rw [show groupP (41 :: r') = some (.eps,r') from rfl]
   clear h h41
   go_enter Tryz.func176,Tryz.ntmps176
   go_wp2_with (first
    | (go_at_call 151;refine G1.out.mono ?_;rintro e w1 ⟨rfl,hr1,hb1⟩;have hr1:=hid hr1)
    | (go_at_call 152;refine (G2.out _ hr1.out).mono ?_;rintro e w2 ⟨rfl,hr2,hb2⟩;have hr2:=hid hr2))
   first | go_end0 | refine bodyPost_ret (results_none rfl _ _ _) rfl ?_
   refine ⟨⟨rfl,hr2.out,?_⟩,hb1.trans hb2⟩
   simp at hM ⊢
   simp [post]
   omega
 · have hno:(r.head? == some 41) = false:=by simpa using h41
   have G1:=hid (takeN h hs 41 hno)
   rw [show ((41:UInt8).toNat:Int) = 41 from rfl] at G1
   have G2:=hid (fun u (hu:Rd u rb s r l) => H u rb s r l (M - 2) hu hs hn (by omega) (by omega))
   have eg:groupP r = match rowsP r with
    | some (t,q) => if q.head? == some 41 then some (t,q.tail) else none
    | none => none:=by unfold groupP;rw [hno];rfl
   rw [eg]
   cases e1:rowsP r with
   | none =>
    rw [e1] at G2
    show Calls _ _ _ _ (Red none w rb s l M)
    clear h h41 hno eg e1
    go_enter Tryz.func176,Tryz.ntmps176
    go_wp2_with (first
     | (go_at_call 151;refine G1.out.mono ?_;rintro e w1 ⟨rfl,hr1,hb1⟩;have hr1:=hid hr1)
     | (go_at_call 145;refine (G2.out _ hr1.out).mono ?_;intro e w2 hw2;obtain ⟨⟨n2,he2,hn2⟩,hb2⟩:=hw2.no;subst he2))
    exact ⟨rfl,⟨_,rfl,hn2⟩,hb1.trans hb2⟩
   | some x =>
    obtain ⟨t,q⟩:=x
    rw [e1] at G2
    show Calls _ _ _ _ (Red (if q.head? == some 41 then some (t,q.tail) else none) w rb s l M)
    by_cases h2:q.head? = some 41
    · obtain ⟨q',rfl⟩:=head_is h2
      have G3:=hid (fun u (hu:Rd u rb s (41 :: q') (l ++ post t)) => takeY hu hs)
      rw [show ((41:UInt8).toNat:Int) = 41 from rfl] at G3
      show Calls _ _ _ _ (Red (some (t,q')) w rb s l M)
      clear h h41 hno eg e1 h2
      go_enter Tryz.func176,Tryz.ntmps176
      go_wp2_with (first
       | (go_at_call 151;refine (G3.out _ hr2.out).mono ?_;rintro e w3 ⟨rfl,hr3,hb3⟩;have hr3:=hid hr3)
       | (go_at_call 151;refine G1.out.mono ?_;rintro e w1 ⟨rfl,hr1,hb1⟩;have hr1:=hid hr1)
       | (go_at_call 145;refine (G2.out _ hr1.out).mono ?_;intro e w2 hw2;obtain ⟨he2,hr2,hm2,hb2⟩:=hw2.yes;subst he2;have hr2:=hid hr2;have hm2:=hid hm2))
      first | go_end0 | refine bodyPost_ret (results_none rfl _ _ _) rfl ?_
      refine ⟨⟨rfl,hr3.out,?_⟩,(hb1.trans hb2).trans hb3⟩
      have:=hm2.out
      simp at this ⊢
      omega
    · have hno2:(q.head? == some 41) = false:=by simpa using h2
      have G3:=hid (fun u (hu:Rd u rb s q (l ++ post t)) => takeN hu hs 41 hno2)
      rw [show ((41:UInt8).toNat:Int) = 41 from rfl] at G3
      rw [hno2]
      have hpl:s = [40,97] → plc s q = 2:=fun he => by
       have:=hfst he
       subst this
       rw [show rowsP [97] = some (.set (spanB 97 97),[]) from rfl] at e1
       injection e1 with e1
       injection e1 with _ e1
       subst e1
       subst he
       rfl
      show Calls _ _ _ _ (Red none w rb s l M)
      clear h h41 hno eg e1 h2
      have HP:=hid (fun u (hu:Rd u rb s q (l ++ post t)) => hu.place)
      generalize plc s q = p at HP hpl
      go_enter Tryz.func176,Tryz.ntmps176
      go_wp2_with (first
       | (go_at_call 151;refine (G3.out _ hr2.out).mono ?_;rintro e w3 ⟨rfl,hr3,hb3⟩;have hp3:=HP.out _ hr3)
       | (go_at_call 151;refine G1.out.mono ?_;rintro e w1 ⟨rfl,hr1,hb1⟩;have hr1:=hid hr1)
       | (go_at_call 145;refine (G2.out _ hr1.out).mono ?_;intro e w2 hw2;obtain ⟨he2,hr2,hm2,hb2⟩:=hw2.yes;subst he2;have hr2:=hid hr2;have hm2:=hid hm2))
      exact ⟨rfl,⟨_,rfl,hpl⟩,(hb1.trans hb2).trans hb3⟩
end Go.Proofs.YtbpnioehmohbcaaGreat
namespace Go.Proofs.YtbpnioehmohbcaaGreat
open Go.RowKit
theorem read_fit:∀ (n:Nat) (first:Bool) (acc:W4) (s:Txt) (S:W4) (q:Txt),Fit4 acc → itemsF n first acc s = some (S,q) → Fit4 S
 | 0,_,_,_,_,_,_,h => by simp [itemsF] at h
 | n + 1,first,acc,s,S,q,hf,h => by
  rw [items_item] at h
  split at h
  · injection h with h;injection h with h _;subst h;exact hf
  split at h
  · cases h
  · exact read_fit n false _ _ S q (or_fit _ _) h
theorem readC_fit {n:Nat} {q r:Txt} {S:W4} (h:classF n q = some (S,r)):Fit4 S:=by
 rw [classF_fin] at h
 generalize (q.head? == some 94) = oth at h
 cases e:itemsF n true noneB (if oth = true then q.tail else q) with
 | none => rw [e] at h;cases h
 | some x =>
  obtain ⟨S',r'⟩:=x
  have hf:=read_fit _ _ _ _ _ _ noneB_fit e
  have hT:Fit4 (if oth = true then notB S' else S'):=by
   split
   · exact not_fit _
   · exact hf
  rw [e] at h
  simp only [finC] at h
  generalize (if oth = true then notB S' else S') = T at h hT
  by_cases hz:T = noneB
  · rw [if_pos hz] at h;cases h
  · rw [if_neg hz] at h;injection h with h;injection h with h _;subst h;exact hT
set_option maxRecDepth 20000 in
theorem toldR {w:World} {rb:Nat} {s q:Txt} {l:List Cel} (h:Rd w rb s q l) (hs:s.length ≤ 200) :
 Calls Tryz.prog 181 #[.pointer (some ⟨rb,0,none⟩),.string atomS] w fun e w' => (match signF leftA q with | some (b,r) => e = .returned (.int .u8 (b:Int)) ∧ Rd w' rb s r l | none => e = faultE (plc s q)) ∧ Below rb w w':=by
 have hlt:=h.lt
 obtain ⟨v,h1,h2,h3⟩:=h
 refine (toldC h1 hs atomS leftA tells_atom).mono fun e w' hh => ?_
 obtain ⟨hh1,hk⟩:=hh
 refine ⟨?_,kept_low hlt hk⟩
 cases e1:signF leftA q with
 | none => rw [e1] at hh1;exact hh1
 | some x => rw [e1] at hh1;exact ⟨hh1.1,v,hh1.2,own_keptR h1 h2 hk,h3⟩
set_option maxRecDepth 20000 in
theorem classR {w:World} {rb:Nat} {s q:Txt} {l:List Cel} (h:Rd w rb s q l) (hs:s.length ≤ 200) (p:Int) :
 Calls Tryz.prog 178 #[.pointer (some ⟨rb,0,none⟩),.int .i64 p] w fun e w' => (match classF (q.length + 1) q with | some (S,r) => e = .returned (valB S) ∧ Rd w' rb s r l | none => ∃ n,e = faultE n) ∧ Below rb w w':=by
 have hlt:=h.lt
 obtain ⟨v,h1,h2,h3⟩:=h
 refine (classC h1 hs p).mono fun e w' hh => ?_
 obtain ⟨hh1,hk⟩:=hh
 refine ⟨?_,kept_low hlt hk⟩
 cases e1:classF (q.length + 1) q with
 | none => rw [e1] at hh1;exact hh1
 | some x => rw [e1] at hh1;exact ⟨hh1.1,v,hh1.2,own_keptR h1 h2 hk,h3⟩
set_option maxRecDepth 20000 in
set_option maxHeartbeats 4000000 in
theorem atomC {n:Nat} (H:RowsOK n) {w:World} {rb:Nat} {s q:Txt} {l:List Cel} {M:Nat} (h:Rd w rb s q l) (hs:s.length ≤ 200) (hn:q.length ≤ n) (hM:l.length + 2 * q.length ≤ M) (hM1:M ≤ 1000) :
 Calls Tryz.prog 168 #[.pointer (some ⟨rb,0,none⟩)] w (Red (atomP q) w rb s l M):=by
 have hpl:=h.place
 obtain ⟨pre,hpre⟩:=h.suf
 have hlt:=h.lt
 by_cases c1:q.head? = some 40
 · obtain ⟨r,rfl⟩:=head_is c1
   have G1:=hid (takeY h hs)
   rw [show ((40:UInt8).toNat:Int) = 40 from rfl] at G1
   have hfst:s = [40,97] → r = [97]:=fun he => by
    rcases suf2 (he ▸ hpre) with h' | h' | h'
    · injection h' with _ h'
    · injection h' with h' _;exact absurd h' (by decide)
    · cases h'
   have G2:=hid (fun u (hu:Rd u rb s r l) => groupC H hu hs (by simp at hn;omega) (M:=M) (by simp at hM;omega) hM1 hfst)
   rw [show atomP (40 :: r) = groupP r by rw [atomP_eq,if_pos rfl];rfl]
   clear h c1 hfst hpre
   generalize plc s (40 :: r) = p at hpl
   cases e1:groupP r with
   | none =>
    rw [e1] at G2
    clear e1
    go_enter Tryz.func168,Tryz.ntmps168
    go_wp2_with (first
     | (go_at_call 151;refine G1.out.mono ?_;rintro e w1 ⟨rfl,hr1,hb1⟩;have hr1:=hid hr1)
     | (go_at_call 176;refine (G2.out _ hr1.out).mono ?_;intro e w2 hw2;obtain ⟨⟨n2,he2,hn2⟩,hb2⟩:=hw2.no;subst he2))
    exact ⟨rfl,⟨_,rfl,hn2⟩,hb1.trans hb2⟩
   | some x =>
    obtain ⟨t,q'⟩:=x
    rw [e1] at G2
    clear e1
    go_enter Tryz.func168,Tryz.ntmps168
    go_wp2_with (first
     | (go_at_call 151;refine G1.out.mono ?_;rintro e w1 ⟨rfl,hr1,hb1⟩;have hr1:=hid hr1)
     | (go_at_call 176;refine (G2.out _ hr1.out).mono ?_;intro e w2 hw2;obtain ⟨he2,hr2,hm2,hb2⟩:=hw2.yes;subst he2;have hr2:=hid hr2;have hm2:=hid hm2))
    first | go_end0 | refine bodyPost_ret (results_none rfl _ _ _) rfl ?_
    exact ⟨⟨rfl,hr2.out,hm2.out⟩,hb1.trans hb2⟩
 have n1:(q.head? == some 40) = false:=by simpa using c1
 have N1:=hid (fun u (hu:Rd u rb s q l) => takeN hu hs 40 n1)
 rw [show ((40:UInt8).toNat:Int) = 40 from rfl] at N1
 by_cases c2:q.head? = some 91
 · obtain ⟨r,rfl⟩:=head_is c2
   have hno:s = [40,97] → False:=fun he => by
    rcases suf2 (he ▸ hpre) with h' | h' | h'
    · injection h' with h' _;exact absurd h' (by decide)
    · injection h' with h' _;exact absurd h' (by decide)
    · cases h'
   have G1:=hid (fun u (hu:Rd u rb s (91 :: r) l) => takeY hu hs)
   rw [show ((91:UInt8).toNat:Int) = 91 from rfl] at G1
   have ea:atomP (91 :: r) = match classF (r.length + 1) r with
    | some (S,q) => some (.set S,q)
    | none => none:=by rw [atomP_eq,if_neg (by decide),if_neg (by decide),if_pos rfl];rfl
   rw [ea]
   generalize plc s (91 :: r) = p at hpl
   have G2:=hid (fun u (hu:Rd u rb s r l) => classR hu hs p)
   have h0:=hid h
   clear h c1 c2 n1 hpre ea
   cases e1:classF (r.length + 1) r with
   | none =>
    rw [e1] at G2
    clear e1
    show Calls _ _ _ _ (Red none w rb s l M)
    go_enter Tryz.func168,Tryz.ntmps168
    go_wp2_with (first
     | (go_at_call_of 151 (Value.int .u8 40);refine (N1.out _ h0.out).mono ?_;rintro e w1 ⟨rfl,hr1,hb1⟩;have hr1:=hid hr1)
     | (go_at_call_of 151 (Value.int .u8 91);refine (G1.out _ hr1.out).mono ?_;rintro e w2 ⟨rfl,hr2,hb2⟩;have hr2:=hid hr2)
     | (go_at_call 178;refine (G2.out _ hr2.out).mono ?_;rintro e w3 ⟨⟨n3,he3⟩,hb3⟩;subst he3))
    exact ⟨rfl,⟨_,rfl,fun he => (hno he).elim⟩,(hb1.trans hb2).trans hb3⟩
   | some x =>
    obtain ⟨⟨a0,a1,a2,a3⟩,q'⟩:=x
    have hf:=readC_fit e1
    have hq':=class_le e1
    rw [e1] at G2
    have G3:=hid (fun u (hu:Rd u rb s q' l) => putSetC hu (by omega) a0 a1 a2 a3 hf)
    clear e1
    show Calls _ _ _ _ (Red (some (.set ⟨a0,a1,a2,a3⟩,q')) w rb s l M)
    go_enter Tryz.func168,Tryz.ntmps168
    go_wp2_with (first
     | (go_at_call_of 151 (Value.int .u8 40);refine (N1.out _ h0.out).mono ?_;rintro e w1 ⟨rfl,hr1,hb1⟩;have hr1:=hid hr1)
     | (go_at_call_of 151 (Value.int .u8 91);refine (G1.out _ hr1.out).mono ?_;rintro e w2 ⟨rfl,hr2,hb2⟩;have hr2:=hid hr2)
     | (go_at_call 178;refine (G2.out _ hr2.out).mono ?_;rintro e w3 ⟨⟨he3,hr3⟩,hb3⟩;subst he3;have hr3:=hid hr3)
     | (go_at_call 177;refine (G3.out _ hr3.out).mono ?_;rintro e w4 ⟨rfl,hr4,hb4⟩;have hr4:=hid hr4))
    first | go_end0 | refine bodyPost_ret (results_none rfl _ _ _) rfl ?_
    refine ⟨⟨rfl,hr4.out,?_⟩,((hb1.trans hb2).trans hb3).trans hb4⟩
    simp at hM ⊢
    simp [post]
    omega
 have n2:(q.head? == some 91) = false:=by simpa using c2
 have N2:=hid (fun u (hu:Rd u rb s q l) => takeN hu hs 91 n2)
 rw [show ((91:UInt8).toNat:Int) = 91 from rfl] at N2
 by_cases c3:q.head? = some 46
 · obtain ⟨r,rfl⟩:=head_is c3
   have G1:=hid (fun u (hu:Rd u rb s (46 :: r) l) => takeY hu hs)
   rw [show ((46:UInt8).toNat:Int) = 46 from rfl] at G1
   have ea:atomP (46 :: r) = some (.set (notB (spanB 10 10)),r):=by rw [atomP_eq,if_neg (by decide),if_pos rfl]
   rw [ea]
   generalize plc s (46 :: r) = p at hpl
   have G2:=hid pointC
   have hf:=not_fit (spanB 10 10)
   generalize notB (spanB 10 10) = T at G2 hf ⊢
   obtain ⟨a0,a1,a2,a3⟩:=T
   have G3:=hid (fun u (hu:Rd u rb s r l) => putSetC hu (by omega) a0 a1 a2 a3 hf)
   have h0:=hid h
   clear h c1 c2 c3 n1 n2 hpre ea
   go_enter Tryz.func168,Tryz.ntmps168
   go_wp2_with (first
    | (go_at_call_of 151 (Value.int .u8 40);refine (N1.out _ h0.out).mono ?_;rintro e w1 ⟨rfl,hr1,hb1⟩;have hr1:=hid hr1)
    | (go_at_call_of 151 (Value.int .u8 91);refine (N2.out _ hr1.out).mono ?_;rintro e w2 ⟨rfl,hr2,hb2⟩;have hr2:=hid hr2)
    | (go_at_call_of 151 (Value.int .u8 46);refine (G1.out _ hr2.out).mono ?_;rintro e w3 ⟨rfl,hr3,hb3⟩;have hlt3:=hr3.lt;have hr3:=hid hr3)
    | (go_at_call 179;refine (G2.out _).mono ?_;rintro e w4 ⟨rfl,hb4⟩;have hr4:=hid (hr3.out.keep hb4);have hb4':=low hlt3 hb4)
    | (go_at_call 177;refine (G3.out _ hr4.out).mono ?_;rintro e w5 ⟨rfl,hr5,hb5⟩;have hr5:=hid hr5))
   first | go_end0 | refine bodyPost_ret (results_none rfl _ _ _) rfl ?_
   refine ⟨⟨rfl,hr5.out,?_⟩,(((hb1.trans hb2).trans hb3).trans hb4').trans hb5⟩
   simp at hM ⊢
   simp [post]
   omega
 have n3:(q.head? == some 46) = false:=by simpa using c3
 have N3:=hid (fun u (hu:Rd u rb s q l) => takeN hu hs 46 n3)
 rw [show ((46:UInt8).toNat:Int) = 46 from rfl] at N3
 have ea:atomP q = match signF leftA q with
  | some (b,r) => some (.set (spanB b b),r)
  | none => none:=by
  cases q with
  | nil => rfl
  | cons c r =>
   rw [atomP_eq,if_neg (fun e => c1 (by rw [e];rfl)),if_neg (fun e => c3 (by rw [e];rfl)),if_neg (fun e => c2 (by rw [e];rfl))]
   rfl
 rw [ea]
 have G2:=hid (fun u (hu:Rd u rb s q l) => toldR hu hs)
 have h0:=hid h
 cases e1:signF leftA q with
 | none =>
  rw [e1] at G2
  have hp2:s = [40,97] → plc s q = 2:=fun he => by
   rcases suf2 (he ▸ hpre) with h' | h' | h'
   · subst h';exact absurd rfl c1
   · subst h';cases e1
   · subst h';subst he;rfl
  clear e1 h c1 c2 c3 n1 n2 n3 hpre ea
  generalize plc s q = p at hpl G2 hp2
  show Calls _ _ _ _ (Red none w rb s l M)
  go_enter Tryz.func168,Tryz.ntmps168
  go_wp2_with (first
   | (go_at_call_of 151 (Value.int .u8 40);refine (N1.out _ h0.out).mono ?_;rintro e w1 ⟨rfl,hr1,hb1⟩;have hr1:=hid hr1)
   | (go_at_call_of 151 (Value.int .u8 91);refine (N2.out _ hr1.out).mono ?_;rintro e w2 ⟨rfl,hr2,hb2⟩;have hr2:=hid hr2)
   | (go_at_call_of 151 (Value.int .u8 46);refine (N3.out _ hr2.out).mono ?_;rintro e w3 ⟨rfl,hr3,hb3⟩;have hr3:=hid hr3)
   | (go_at_call 181;refine (G2.out _ hr3.out).mono ?_;rintro e w4 ⟨he4,hb4⟩;subst he4))
  exact ⟨rfl,⟨_,rfl,hp2⟩,((hb1.trans hb2).trans hb3).trans hb4⟩
 | some x =>
  obtain ⟨b,r⟩:=x
  have hb:=sign_byte e1
  have hr:=signF_lt e1
  rw [e1] at G2
  have G3:=hid (fun u => oneC b u hb)
  have hf:=span_fit b b
  show Calls _ _ _ _ (Red (some (.set (spanB b b),r)) w rb s l M)
  generalize spanB b b = T at G3 hf ⊢
  obtain ⟨a0,a1,a2,a3⟩:=T
  have G4:=hid (fun u (hu:Rd u rb s r l) => putSetC hu (by omega) a0 a1 a2 a3 hf)
  clear e1 h c1 c2 c3 n1 n2 n3 hpre ea
  generalize plc s q = p at hpl
  go_enter Tryz.func168,Tryz.ntmps168
  go_wp2_with (first
   | (go_at_call_of 151 (Value.int .u8 40);refine (N1.out _ h0.out).mono ?_;rintro e w1 ⟨rfl,hr1,hb1⟩;have hr1:=hid hr1)
   | (go_at_call_of 151 (Value.int .u8 91);refine (N2.out _ hr1.out).mono ?_;rintro e w2 ⟨rfl,hr2,hb2⟩;have hr2:=hid hr2)
   | (go_at_call_of 151 (Value.int .u8 46);refine (N3.out _ hr2.out).mono ?_;rintro e w3 ⟨rfl,hr3,hb3⟩;have hr3:=hid hr3)
   | (go_at_call 181;refine (G2.out _ hr3.out).mono ?_;rintro e w4 ⟨⟨he4,hr4⟩,hb4⟩;subst he4;have hlt4:=hr4.lt;have hr4:=hid hr4)
   | (go_at_call 180;refine (G3.out _).mono ?_;rintro e w5 ⟨rfl,hb5⟩;have hr5:=hid (hr4.out.keep hb5);have hb5':=low hlt4 hb5)
   | (go_at_call 177;refine (G4.out _ hr5.out).mono ?_;rintro e w6 ⟨rfl,hr6,hb6⟩;have hr6:=hid hr6))
  first | go_end0 | refine bodyPost_ret (results_none rfl _ _ _) rfl ?_
  refine ⟨⟨rfl,hr6.out,?_⟩,((((hb1.trans hb2).trans hb3).trans hb4).trans hb5').trans hb6⟩
  simp [post]
  omega
end Go.Proofs.YtbpnioehmohbcaaGreat
namespace Go.Proofs.YtbpnioehmohbcaaGreat
open Go.RowKit
def pieceP (q:Txt):Option (Rx × Txt):=match atomP q with
 | some (t,r) => some (starsF t r)
 | none => none
theorem rowP_piece (q:Txt):rowP q = match pieceP q with
 | some (t,r) => moreP t r
 | none => none:=by
 rw [rowP_eq]
 unfold pieceP
 cases atomP q with
 | none => rfl
 | some x => rfl
theorem moreP_piece (a:Rx) (q:Txt):moreP a q = if rowEnd q then some (a,q) else match pieceP q with
 | some (t,r) => moreP (.cat a t) r
 | none => none:=by
 rw [moreP_eq]
 unfold pieceP
 cases atomP q with
 | none => rfl
 | some x => rfl
theorem Red.mk_no {res:Option (Rx × Txt)} {w w':World} {rb:Nat} {s:Txt} {l:List Cel} {M:Nat} (h:res = none) {n:Int} (hn:s = [40,97] → n = 2) (hb:Below rb w w'):Red res w rb s l M (faultE n) w':=by subst h;exact ⟨⟨n,rfl,hn⟩,hb⟩
theorem Red.mk_yes {res:Option (Rx × Txt)} {t:Rx} {q:Txt} {w w':World} {rb:Nat} {s:Txt} {l:List Cel} {M:Nat} (h:res = some (t,q)) (hr:Rd w' rb s q (l ++ post t)) (hm:(l ++ post t).length + 1 + 2 * q.length ≤ M) (hb:Below rb w w'):Red res w rb s l M (.returned (.tuple #[])) w':=by subst h;exact ⟨⟨rfl,hr,hm⟩,hb⟩
set_option maxRecDepth 20000 in
set_option maxHeartbeats 4000000 in
theorem pieceC {n:Nat} (H:RowsOK n) {w:World} {rb:Nat} {s q:Txt} {l:List Cel} {M:Nat} (h:Rd w rb s q l) (hs:s.length ≤ 200) (hn:q.length ≤ n) (hM:l.length + 2 * q.length ≤ M) (hM1:M ≤ 1000) :
 Calls Tryz.prog 157 #[.pointer (some ⟨rb,0,none⟩)] w (Red (pieceP q) w rb s l M):=by
 have GA:=hid (atomC H h hs hn hM hM1)
 unfold pieceP
 cases e1:atomP q with
 | none =>
  rw [e1] at GA
  show Calls _ _ _ _ (Red none w rb s l M)
  clear h e1
  go_enter Tryz.func157,Tryz.ntmps157
  go_wp2_with (go_at_call 168;refine GA.out.mono ?_;intro e w1 hw1;obtain ⟨⟨n1,he1,hn1⟩,hb1⟩:=hw1.no;subst he1)
  exact ⟨rfl,⟨_,rfl,hn1⟩,hb1⟩
 | some x =>
  obtain ⟨t,r⟩:=x
  rw [e1] at GA
  show Calls _ _ _ _ (Red (some (starsF t r)) w rb s l M)
  obtain ⟨R,hR⟩:∃ R,Hid (starsF t r = R):=⟨_,hid rfl⟩
  rw [hR.out]
  clear h e1
  go_enter Tryz.func157,Tryz.ntmps157
  go_wp2_with (go_at_call 168;refine GA.out.mono ?_;intro e w1 hw1;obtain ⟨he1,hr1,hm1,hb1⟩:=hw1.yes;subst he1;have hr1:=hid hr1;have hm1:=hid hm1)
  go_loopw [] (fun wr => ∃ t' q',Hid (Rd wr rb s q' (l ++ post t')) ∧ Hid (starsF t' q' = R) ∧ Hid ((l ++ post t').length + 1 + 2 * q'.length ≤ M) ∧ Below rb w wr) (fun wr => plcN wr rb s.length)
  case atStart => exact ⟨t,r,hr1,hR,hm1,hb1⟩
  case round =>
   obtain ⟨t',q',hrd,hst,hmm,hbw⟩:=hrel
   have hlen:(l ++ post t').length ≤ 1000:=by have:=hmm.out;omega
   have hmu:=hid hrd.out.left
   clear hR hr1 hm1 GA
   by_cases c1:q'.head? = some 42
   · obtain ⟨r',rfl⟩:=head_is c1
     have G1:=hid (takeY hrd.out hs)
     rw [show ((42:UInt8).toNat:Int) = 42 from rfl] at G1
     have G2:=hid (fun u (hu:Rd u rb s r' (l ++ post t')) => putC hu (by omega) 5 (by decide) (by decide))
     have hst':Hid (starsF (.star t') r' = R):=hid (by rw [← hst.out];simp [starsF])
     clear c1 hlen
     go_wp2_with (first
      | (go_at_call_of 151 (Value.int .u8 42);refine G1.out.mono ?_;rintro e w2 ⟨rfl,hr2,hb2⟩;have hr2:=hid hr2)
      | (go_at_call 152;refine (G2.out _ hr2.out).mono ?_;rintro e w3 ⟨rfl,hr3,hb3⟩;have hr3:=hid hr3))
     have hr4:Rd w3 rb s r' (l ++ post (.star t')):=by rw [show l ++ post (.star t') = (l ++ post t') ++ [⟨5,noneB⟩] by simp [post]];exact hr3.out
     go_roundw
     case rel =>
      refine ⟨.star t',r',hid hr4,hst',hid ?_,(hbw.trans hb2).trans hb3⟩
      have:=hmm.out
      simp [post] at this ⊢
      omega
     case measure =>
      rw [hmu.out,hr4.left]
      simp
   have n1:(q'.head? == some 42) = false:=by simpa using c1
   have N1:=hid (fun u (hu:Rd u rb s q' (l ++ post t')) => takeN hu hs 42 n1)
   rw [show ((42:UInt8).toNat:Int) = 42 from rfl] at N1
   by_cases c2:q'.head? = some 43
   · obtain ⟨r',rfl⟩:=head_is c2
     have G1:=hid (fun u (hu:Rd u rb s (43 :: r') (l ++ post t')) => takeY hu hs)
     rw [show ((43:UInt8).toNat:Int) = 43 from rfl] at G1
     have G2:=hid (fun u (hu:Rd u rb s r' (l ++ post t')) => putC hu (by omega) 6 (by decide) (by decide))
     have hst':Hid (starsF (.plus t') r' = R):=hid (by rw [← hst.out];simp [starsF])
     clear c1 c2 hlen n1
     go_wp2_with (first
      | (go_at_call_of 151 (Value.int .u8 42);refine (N1.out _ hrd.out).mono ?_;rintro e w1' ⟨rfl,hr1,hb1'⟩;have hr1:=hid hr1)
      | (go_at_call_of 151 (Value.int .u8 43);refine (G1.out _ hr1.out).mono ?_;rintro e w2 ⟨rfl,hr2,hb2⟩;have hr2:=hid hr2)
      | (go_at_call 152;refine (G2.out _ hr2.out).mono ?_;rintro e w3 ⟨rfl,hr3,hb3⟩;have hr3:=hid hr3))
     have hr4:Rd w3 rb s r' (l ++ post (.plus t')):=by rw [show l ++ post (.plus t') = (l ++ post t') ++ [⟨6,noneB⟩] by simp [post]];exact hr3.out
     go_roundw
     case rel =>
      refine ⟨.plus t',r',hid hr4,hst',hid ?_,((hbw.trans hb1').trans hb2).trans hb3⟩
      have:=hmm.out
      simp [post] at this ⊢
      omega
     case measure =>
      rw [hmu.out,hr4.left]
      simp
   have n2:(q'.head? == some 43) = false:=by simpa using c2
   have N2:=hid (fun u (hu:Rd u rb s q' (l ++ post t')) => takeN hu hs 43 n2)
   rw [show ((43:UInt8).toNat:Int) = 43 from rfl] at N2
   by_cases c3:q'.head? = some 63
   · obtain ⟨r',rfl⟩:=head_is c3
     have G1:=hid (fun u (hu:Rd u rb s (63 :: r') (l ++ post t')) => takeY hu hs)
     rw [show ((63:UInt8).toNat:Int) = 63 from rfl] at G1
     have G2:=hid (fun u (hu:Rd u rb s r' (l ++ post t')) => putC hu (by omega) 7 (by decide) (by decide))
     have hst':Hid (starsF (.opt t') r' = R):=hid (by rw [← hst.out];simp [starsF])
     clear c1 c2 c3 hlen n1 n2
     go_wp2_with (first
      | (go_at_call_of 151 (Value.int .u8 42);refine (N1.out _ hrd.out).mono ?_;rintro e w1' ⟨rfl,hr1,hb1'⟩;have hr1:=hid hr1)
      | (go_at_call_of 151 (Value.int .u8 43);refine (N2.out _ hr1.out).mono ?_;rintro e w2' ⟨rfl,hr2',hb2'⟩;have hr2':=hid hr2')
      | (go_at_call_of 151 (Value.int .u8 63);refine (G1.out _ hr2'.out).mono ?_;rintro e w2 ⟨rfl,hr2,hb2⟩;have hr2:=hid hr2)
      | (go_at_call 152;refine (G2.out _ hr2.out).mono ?_;rintro e w3 ⟨rfl,hr3,hb3⟩;have hr3:=hid hr3))
     have hr4:Rd w3 rb s r' (l ++ post (.opt t')):=by rw [show l ++ post (.opt t') = (l ++ post t') ++ [⟨7,noneB⟩] by simp [post]];exact hr3.out
     go_roundw
     case rel =>
      refine ⟨.opt t',r',hid hr4,hst',hid ?_,(((hbw.trans hb1').trans hb2').trans hb2).trans hb3⟩
      have:=hmm.out
      simp [post] at this ⊢
      omega
     case measure =>
      rw [hmu.out,hr4.left]
      simp
   have n3:(q'.head? == some 63) = false:=by simpa using c3
   have N3:=hid (fun u (hu:Rd u rb s q' (l ++ post t')) => takeN hu hs 63 n3)
   rw [show ((63:UInt8).toNat:Int) = 63 from rfl] at N3
   have hst':Hid (R = (t',q')):=hid (by
    rw [← hst.out]
    cases q' with
    | nil => rfl
    | cons c r => rw [starsF,if_neg (fun e => c1 (by rw [e];rfl)),if_neg (fun e => c2 (by rw [e];rfl)),if_neg (fun e => c3 (by rw [e];rfl))])
   clear c1 c2 c3 hlen n1 n2 n3
   go_wp2_with (first
    | (go_at_call_of 151 (Value.int .u8 42);refine (N1.out _ hrd.out).mono ?_;rintro e w1' ⟨rfl,hr1,hb1'⟩;have hr1:=hid hr1)
    | (go_at_call_of 151 (Value.int .u8 43);refine (N2.out _ hr1.out).mono ?_;rintro e w2' ⟨rfl,hr2',hb2'⟩;have hr2':=hid hr2')
    | (go_at_call_of 151 (Value.int .u8 63);refine (N3.out _ hr2'.out).mono ?_;rintro e w2 ⟨rfl,hr2,hb2⟩;have hr2:=hid hr2))
   first | go_end0 | refine bodyPost_ret (results_none rfl _ _ _) rfl ?_
   exact Red.mk_yes (by rw [hst'.out]) hr2.out hmm.out (((hbw.trans hb1').trans hb2').trans hb2)
end Go.Proofs.YtbpnioehmohbcaaGreat
