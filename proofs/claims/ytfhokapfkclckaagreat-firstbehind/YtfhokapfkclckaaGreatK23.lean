/- gram.sides, side, keyword. Slices copied: any rows; rows of three of which the middle one changes. Slices of things whose cells are told by a list, and back. A row of three of which the middle one is copied, beside a box: what a loop holds. -/
import Derived.Test.YtfhokapfkclckaaGreatK15
import Derived.Test.YtfhokapfkclckaaGreatK22
import Derived.Test.YtfhokapfkclckaaGreatK17
import Derived.Deep.Strs
namespace Go.Proofs.YtfhokapfkclckaaGreat
open Go.RowKit Go.Maps Go.Sort
abbrev sidesV:Value:=.agg #[.string ⟨#[]⟩,.string ⟨#[108,101,102,116]⟩,.string ⟨#[114,105,103,104,116]⟩,.string ⟨#[110,111,110,101]⟩]
set_option maxRecDepth 20000 in
theorem sidesC (w:World):Calls Tryz.prog 112 #[] w fun e w' => e = .returned sidesV ∧ Below w.heap.size w w':=by
 have hb:=hid (al' w (.cells #[.string ⟨#[]⟩,.string ⟨#[108,101,102,116]⟩,.string ⟨#[114,105,103,104,116]⟩,.string ⟨#[110,111,110,101]⟩] 142))
 go_enter Tryz.func112,Tryz.ntmps112
 go_wp2
 refine bodyPost_ret (v:=sidesV) (by simp [results,Tryz.results112,go_sem]) rfl ⟨rfl,?_⟩
 exact hb.out
set_option maxRecDepth 20000 in
theorem ixS (w:World):(Instr.index 142 sidesV (.int .i64 0)).run Tryz.prog w = .ok (.string ⟨#[]⟩) w ∧ (Instr.index 142 sidesV (.int .i64 1)).run Tryz.prog w = .ok (.string ⟨#[108,101,102,116]⟩) w ∧ (Instr.index 142 sidesV (.int .i64 2)).run Tryz.prog w = .ok (.string ⟨#[114,105,103,104,116]⟩) w ∧ (Instr.index 142 sidesV (.int .i64 3)).run Tryz.prog w = .ok (.string ⟨#[110,111,110,101]⟩) w:=by
 refine ⟨?_,?_,?_,?_⟩
 all_goals
  simp [Instr.index,run_underlying Tryz.underlying142,asIntOf,go_sem,part,isAgg,run_underlying Tryz.underlying9]
theorem strT_is {t u:Txt} (h:t = u):((strT t).toList == u) = true:=by rw [h,strT_toL,beq_self_eq_true]
theorem strT_isnt {t u:Txt} (h:¬ t = u):((strT t).toList == u) = false:=by rw [strT_toL,beq_eq_false_iff_ne];exact h
theorem strT_is' {t u:Txt} (h:t = u):(u == (strT t).toList) = true:=by rw [h,strT_toL,beq_self_eq_true]
theorem strT_isnt' {t u:Txt} (h:¬ t = u):(u == (strT t).toList) = false:=by rw [strT_toL,beq_eq_false_iff_ne];exact fun e => h e.symm
theorem strT_emp {t:Txt} (h:t = []):(strT t).toList.isEmpty = true:=by rw [h,strT_toL];rfl
theorem strT_nemp {t:Txt} (h:¬ t = []):(strT t).toList.isEmpty = false:=by rw [strT_toL];cases t with | nil => exact absurd rfl h | cons _ _ => rfl
set_option maxRecDepth 20000 in
set_option maxHeartbeats 4000000 in
theorem sideC (t:Txt) (w:World):Calls Tryz.prog 84 #[.string (strT t)] w fun e w' => e = .returned (.int .i64 (sdN t:Int)) ∧ Below w.heap.size w w':=by
 have GC:=hid (sidesC w)
 have hI:=hid (fun x => ixS x)
 have h0:Hid (t = [] → sdN t = 0):=hid (fun h => by rw [h];rfl)
 have h1:Hid (t = kLeft → sdN t = 1):=hid (fun h => by rw [h];rfl)
 have h2:Hid (t = kRight → sdN t = 2):=hid (fun h => by rw [h];rfl)
 have h3:Hid (t = kNone → sdN t = 3):=hid (fun h => by rw [h];rfl)
 have h4:Hid (¬ t = kLeft → ¬ t = kRight → ¬ t = kNone → sdN t = 0):=hid (fun a b c => by unfold sdN;rw [if_neg a,if_neg b,if_neg c])
 generalize sdN t = n at *
 go_enter Tryz.func84,Tryz.ntmps84
 go_wp2_with (go_at_call 112;refine GC.out.mono ?_;clear GC;rintro e w2 ⟨rfl,hc2⟩;have hc2:=hid hc2)
 go_loopw [6] (fun x wr => ∃ k:Nat,k ≤ 4 ∧ x = .int .i64 (k:Int) ∧ Hid ((1 < k → ¬ t = kLeft) ∧ (2 < k → ¬ t = kRight) ∧ (3 < k → ¬ t = kNone)) ∧ Hid (Below w.heap.size w wr)) (fun x _ => 4 - (intOf x).toNat)
 case atStart => exact ⟨0,by omega,rfl,hid ⟨fun h => absurd h (by omega),fun h => absurd h (by omega),fun h => absurd h (by omega)⟩,hc2⟩
 case round =>
  obtain ⟨k,hk,rfl,hn,hw⟩:=hrel
  by_cases hlt:k < 4
  · obtain ⟨i0,i1,i2,i3⟩:=hI.out wr
    have hk4:k = 0 ∨ k = 1 ∨ k = 2 ∨ k = 3:=by omega
    rcases hk4 with rfl | rfl | rfl | rfl
    · clear i1 i2 i3
      by_cases ht:t = []
      · have hb:=strT_emp ht
        have:=h0.out ht
        subst this
        generalize strT t = S at *
        go_wp2
        go_ret
        exact ⟨rfl,hw.out⟩
      · have hb:=strT_nemp ht
        have hs2:Hid (Below w.heap.size w wr):=hw
        generalize strT t = S at *
        go_wp2
        go_roundw
        case rel => exact ⟨1,by omega,by go_num,hid ⟨fun h => absurd h (by omega),fun h => absurd h (by omega),fun h => absurd h (by omega)⟩,hs2⟩
        case measure => simp [intOf]
    · clear i0 i2 i3
      by_cases ht:t = kLeft
      · have hb:(([108,101,102,116]:Txt) == (strT t).toList) = true:=strT_is' ht
        have:=h1.out ht
        subst this
        generalize strT t = S at *
        go_wp2
        go_ret
        exact ⟨rfl,hw.out⟩
      · have hb:(([108,101,102,116]:Txt) == (strT t).toList) = false:=strT_isnt' ht
        have hs2:Hid (Below w.heap.size w wr):=hw
        generalize strT t = S at *
        go_wp2
        go_roundw
        case rel => exact ⟨2,by omega,by go_num,hid ⟨fun _ => ht,fun h => absurd h (by omega),fun h => absurd h (by omega)⟩,hs2⟩
        case measure => simp [intOf]
    · clear i0 i1 i3
      by_cases ht:t = kRight
      · have hb:(([114,105,103,104,116]:Txt) == (strT t).toList) = true:=strT_is' ht
        have:=h2.out ht
        subst this
        generalize strT t = S at *
        go_wp2
        go_ret
        exact ⟨rfl,hw.out⟩
      · have hb:(([114,105,103,104,116]:Txt) == (strT t).toList) = false:=strT_isnt' ht
        have hs2:Hid (Below w.heap.size w wr):=hw
        generalize strT t = S at *
        go_wp2
        go_roundw
        case rel => exact ⟨3,by omega,by go_num,hid ⟨fun _ => hn.out.1 (by omega),fun _ => ht,fun h => absurd h (by omega)⟩,hs2⟩
        case measure => simp [intOf]
    · clear i0 i1 i2
      by_cases ht:t = kNone
      · have hb:(([110,111,110,101]:Txt) == (strT t).toList) = true:=strT_is' ht
        have:=h3.out ht
        subst this
        generalize strT t = S at *
        go_wp2
        go_ret
        exact ⟨rfl,hw.out⟩
      · have hb:(([110,111,110,101]:Txt) == (strT t).toList) = false:=strT_isnt' ht
        have hs2:Hid (Below w.heap.size w wr):=hw
        generalize strT t = S at *
        go_wp2
        go_roundw
        case rel => exact ⟨4,by omega,by go_num,hid ⟨fun _ => hn.out.1 (by omega),fun _ => hn.out.2.1 (by omega),fun _ => ht⟩,hs2⟩
        case measure => simp [intOf]
  · have:k = 4:=by omega
    subst this
    have:=h4.out (hn.out.1 (by omega)) (hn.out.2.1 (by omega)) (hn.out.2.2 (by omega))
    subst this
    go_wp2
    go_ret
    exact ⟨rfl,hw.out⟩
set_option maxRecDepth 20000 in
set_option maxHeartbeats 4000000 in
theorem keywordC (t:Txt) (w:World):Calls Tryz.prog 128 #[.string (strT t)] w fun e w' => e = .returned (.bool (kwB t)) ∧ Below w.heap.size w w':=by
 have GS:=hid (fun u => sideC t u)
 obtain ⟨R,hR⟩:∃ R,Hid (kwB t = R):=⟨_,hid rfl⟩
 rw [hR.out]
 unfold kwB at hR
 generalize sdN t = n at *
 by_cases h1:t = kTok
 · have hb1:((strT t).toList == ([116,111,107,101,110]:Txt)) = true:=strT_is h1
   rw [decide_eq_true h1,Bool.true_or,Bool.true_or,Bool.true_or] at hR
   obtain rfl:=hR.out
   generalize strT t = S at *
   clear h1 hR
   go_enter Tryz.func128,Tryz.ntmps128
   go_wp2_with fail
   go_ret
   exact ⟨rfl,Below.refl _ _⟩
 have hb1:((strT t).toList == ([116,111,107,101,110]:Txt)) = false:=strT_isnt h1
 rw [decide_eq_false h1,Bool.false_or] at hR
 by_cases h2:t = kSkip
 · have hb2:((strT t).toList == ([115,107,105,112]:Txt)) = true:=strT_is h2
   rw [decide_eq_true h2,Bool.true_or,Bool.true_or] at hR
   obtain rfl:=hR.out
   generalize strT t = S at *
   clear h1 h2 hR
   go_enter Tryz.func128,Tryz.ntmps128
   go_wp2_with fail
   go_ret
   exact ⟨rfl,Below.refl _ _⟩
 have hb2:((strT t).toList == ([115,107,105,112]:Txt)) = false:=strT_isnt h2
 rw [decide_eq_false h2,Bool.false_or] at hR
 by_cases h3:t = kStart
 · have hb3:((strT t).toList == ([115,116,97,114,116]:Txt)) = true:=strT_is h3
   rw [decide_eq_true h3,Bool.true_or] at hR
   obtain rfl:=hR.out
   generalize strT t = S at *
   clear h1 h2 h3 hR
   go_enter Tryz.func128,Tryz.ntmps128
   go_wp2_with fail
   go_ret
   exact ⟨rfl,Below.refl _ _⟩
 have hb3:((strT t).toList == ([115,116,97,114,116]:Txt)) = false:=strT_isnt h3
 rw [decide_eq_false h3,Bool.false_or] at hR
 clear h1 h2 h3
 generalize strT t = S at *
 rcases Nat.eq_zero_or_pos n with h4 | h4
 · subst h4
   obtain rfl:false = R:=hR.out
   clear hR
   go_enter Tryz.func128,Tryz.ntmps128
   go_wp2_with (go_at_call 84;refine (GS.out _).mono ?_;clear GS;rintro e w2 ⟨rfl,hc2⟩;have hc2:=hid hc2)
   go_ret
   exact ⟨rfl,hc2.out⟩
 · rw [decide_eq_true h4] at hR
   obtain rfl:=hR.out
   clear hR
   have h4z:(0:Int) < (n:Int):=by omega
   go_enter Tryz.func128,Tryz.ntmps128
   go_wp2_with (go_at_call 84;refine (GS.out _).mono ?_;clear GS;rintro e w2 ⟨rfl,hc2⟩;have hc2:=hid hc2)
   go_ret
   exact ⟨by simp,hc2.out⟩
def Rw (sz:Nat) (w:World) (v:Value) (n:Nat) (xs:List Value):Prop:=∃ a cap,v = .slice a n cap ∧ (a = none → cap = 0) ∧ xs.length = n * sz ∧ (∀ u ∈ xs,u.oneCell' = true) ∧ ∀ j u,xs[j]? = some u → ∃ b o,a = some ⟨b,o,none⟩ ∧ b < w.heap.size ∧ w.cell? ⟨b,o + j,none⟩ = some u
set_option maxRecDepth 20000 in
theorem run_appG {tS tE ty:TypeId} {i0:TypeInfo} {z:Value} {sz bytes:Nat} (ht:Tryz.prog.underlying tS = some (.slice tE)) (hi:Tryz.prog.info? tE = some i0) (hz:i0.zero = some z) (hs:i0.size = sz) (hb:i0.bytes = bytes) (hzs:z.cells.size = sz) (hsz:0 < sz)
 {u:World} {vx:Value} {n:Nat} {xs:List Value} (hR:Rw sz u vx n xs) (hn:n ≤ 1000000) (hnb:n * bytes ≤ 140737488355328) :
 ∃ v' w',(Builtin.append_ #[tS,tS] ty #[.slice (some ⟨u.heap.size,0,none⟩) 0 0,vx]).run Tryz.prog (u.alloc (.cells #[] tE)) = .ok v' w' ∧ w'.ownsRow u.heap.size tE sz v' n xs ∧ Below u.heap.size u w':=by
 have hO:(u.alloc (.cells #[] tE)).ownsRow u.heap.size tE sz (.slice (some ⟨u.heap.size,0,none⟩) 0 0) 0 []:=World.ownsRow_lit u #[] 0 (Nat.le_refl _) (by unfold maxLen;omega) (by simp)
 obtain ⟨a,cap,rfl,hn0,hl,h1,hat⟩:=hR
 cases a with
 | none =>
  have hx0:xs = []:=by
   cases xs with
   | nil => rfl
   | cons x l => obtain ⟨_,_,e,_⟩:=hat 0 x rfl;cases e
  subst hx0
  have hnz:n = 0:=by
   rcases Nat.eq_zero_or_pos n with h | h
   · exact h
   · have:=Nat.mul_le_mul h hsz;simp at hl;omega
  subst hnz
  have:=hn0 rfl
  subst this
  exact ⟨_,_,run_append_owned_none (P:=Tryz.prog) (w:=u.alloc (.cells #[] tE)) _ tS ty tE i0 sz ht hi _ _ _ hO,hO,al' u _⟩
 | some ad =>
  obtain ⟨v',w',hr,hO',hg,_⟩:=run_append_own (P:=Tryz.prog) (u.alloc (.cells #[] tE)) u.heap.size tS ty tE i0 z sz bytes ht hi hz hs hb hzs hsz _ 0 [] hO ad n cap xs hl (fun j x hj => by
   obtain ⟨b,o,e,h2,h3⟩:=hat j x hj
   injection e with e
   subst e
   have ea:(⟨b,o,none⟩:Addr).add j = ⟨b,o + j,none⟩:=by simp [Addr.add]
   rw [ea]
   exact keep_cell (al' u _) h3) h1 (by unfold maxLen;omega) (by rw [Nat.zero_add];exact hnb) (by rw [World.size_alloc];omega)
  rw [Nat.zero_add,List.nil_append] at hO'
  have hsz1:u.heap.size ≤ (u.alloc (.cells #[] tE)).heap.size:=(al' u _).size
  exact ⟨v',w',hr,hO',(al' u _).trans ((Kept.of_grown hg).below (fun k hk => (hO.lt k hk).1) hsz1)⟩
def rw3 (n:Nat) (p f q:Nat → Value):List Value:=(List.range n).flatMap fun j => [p j,f j,q j]
theorem rw3_succ (n:Nat) (p f q:Nat → Value):rw3 (n + 1) p f q = rw3 n p f q ++ [p n,f n,q n]:=by
 unfold rw3
 rw [List.range_succ,List.flatMap_append,List.flatMap_singleton]
theorem rw3_len (p f q:Nat → Value):∀ n,(rw3 n p f q).length = n * 3
 | 0 => rfl
 | n + 1 => by rw [rw3_succ,List.length_append,rw3_len p f q n];show _ + 3 = _;omega
theorem rw3_at (p f q:Nat → Value):∀ n j,j < n → (rw3 n p f q)[j * 3]? = some (p j) ∧ (rw3 n p f q)[j * 3 + 1]? = some (f j) ∧ (rw3 n p f q)[j * 3 + 2]? = some (q j)
 | 0,j,h => absurd h (Nat.not_lt_zero _)
 | n + 1,j,h => by
  have hl:=rw3_len p f q n
  rw [rw3_succ]
  rcases Nat.lt_or_ge j n with h1 | h1
  · obtain ⟨a,b,c⟩:=rw3_at p f q n j h1
    rw [List.getElem?_append_left (by omega),List.getElem?_append_left (by omega),List.getElem?_append_left (by omega)]
    exact ⟨a,b,c⟩
  · obtain rfl:j = n:=by omega
    rw [List.getElem?_append_right (by omega),List.getElem?_append_right (by omega),List.getElem?_append_right (by omega),hl,Nat.sub_self,Nat.add_sub_cancel_left,Nat.add_sub_cancel_left]
    exact ⟨rfl,rfl,rfl⟩
theorem own_put {w:World} {B n size g cap i:Nat} {e:TypeId} {xs:List Value} (h:w.ownsRow B e size (.slice (some ⟨g,0,none⟩) n cap) n xs) (x:Value):(w.setCell ⟨g,i,none⟩ x).ownsRow B e size (.slice (some ⟨g,0,none⟩) n cap) n (xs.set i x):=by
 refine ⟨by rw [List.length_set];exact h.1,?_⟩
 rcases h.2 with ⟨h1,_⟩ | ⟨g',cap',cur,h1,h2,h3,h4,h5,h6,h7⟩
 · cases h1
 · have h8:=h1
   injection h1 with e1 _ e3
   injection e1 with e1
   injection e1 with e1 _ _
   subst e1 e3
   refine .inr ⟨g,cap,cur.setIfInBounds i x,rfl,h2,heap_setCell h3,h4,h5,by rw [Array.size_setIfInBounds];exact h6,?_⟩
   rw [Array.toList_setIfInBounds,List.take_set,h7]
def OffP (F:Nat → Prop) (v:Value):Prop:=∀ a n c,v = .slice (some a) n c → 0 < n → ¬ F a.block
theorem Cels.keptP {F:Nat → Prop} {w w':World} {v:Value} {l:List Cel} (h:Cels w v l) (hk:Kept F w w') (ho:OffP F v):Cels w' v l:=by
 obtain ⟨a,cap,rfl,hc,hn,hf,hat⟩:=h
 refine ⟨a,cap,rfl,hc,hn,hf,fun j hj => ?_⟩
 obtain ⟨b,o,rfl,hlt,h5⟩:=hat j hj
 have hn:¬ F b:=ho _ _ _ rfl (by omega)
 obtain ⟨x0,x1,x2,x3,x4⟩:=h5
 exact ⟨b,o,rfl,Nat.lt_of_lt_of_le hlt hk.size,hk.cell x0 hlt hn,hk.cell x1 hlt hn,hk.cell x2 hlt hn,hk.cell x3 hlt hn,hk.cell x4 hlt hn⟩
theorem own_off {F:Nat → Prop} {w:World} {B n size:Nat} {e:TypeId} {v:Value} {xs:List Value} (h:w.ownsRow B e size v n xs) (hF:∀ b,B ≤ b → ¬ F b):OffP F v:=fun a m c e hn => by
 rcases h.2 with ⟨rfl,_⟩ | ⟨g',cap',cur,rfl,h2,h3,_⟩
 · cases e
 · injection e with e1 _ _
   injection e1 with e1
   subst e1
   exact hF _ h2
theorem flat_at {α:Type} {sz:Nat} (cs:α → List Value) (hc:∀ x,(cs x).length = sz):∀ (l:List α) (j i:Nat) (h:j < l.length),i < sz → (l.flatMap cs)[j * sz + i]? = (cs l[j])[i]?
 | [],j,i,h,_ => absurd h (Nat.not_lt_zero _)
 | a :: l,0,i,h,hi => by
  rw [List.flatMap_cons,Nat.zero_mul,Nat.zero_add,List.getElem?_append_left (by rw [hc];exact hi)]
  rfl
 | a :: l,j + 1,i,h,hi => by
  have h1:j < l.length:=by simpa using h
  have e:(j + 1) * sz + i = (cs a).length + (j * sz + i):=by rw [hc,Nat.succ_mul];omega
  rw [List.flatMap_cons,e,List.getElem?_append_right (Nat.le_add_right _ _),Nat.add_sub_cancel_left,flat_at cs hc l j i h1 hi]
  rfl
theorem own_at {α:Type} {sz:Nat} {cs:α → List Value} (hc:∀ x,(cs x).length = sz) {w:World} {B:Nat} {e:TypeId} {v:Value} {l:List α} (_hz:0 < sz) (h:w.ownsRow B e sz v l.length (l.flatMap cs)) :
 ∃ a cap,v = .slice a l.length cap ∧ l.length ≤ cap ∧ (a = none → cap = 0) ∧ ∀ j (h:j < l.length),∃ b o,a = some ⟨b,o,none⟩ ∧ b < w.heap.size ∧ ∀ i,i < sz → w.cell? ⟨b,o + j * sz + i,none⟩ = (cs l[j])[i]?:=by
 have h':=h
 rcases h.2 with ⟨rfl,h0⟩ | ⟨g,cap,cur,rfl,_,_,hc',_⟩
 · exact ⟨none,0,by rw [h0],by omega,fun _ => rfl,fun j hj => by omega⟩
 · refine ⟨_,cap,rfl,hc',(fun h => by cases h),fun j hj => ⟨g,0,rfl,(h'.lt g rfl).2,fun i hi => ?_⟩⟩
   rw [Nat.zero_add,← flat_at cs hc l j i hj hi]
   refine h'.cellAt (j * sz + i) ?_
   have h1:(j + 1) * sz ≤ l.length * sz:=Nat.mul_le_mul_right _ hj
   rw [Nat.succ_mul] at h1
   omega
def csT (t:Txt):List Value:=[.string (strT t)]
def csL (p:Int × Int):List Value:=[.int .i64 p.1,.int .i64 p.2]
def csI (n:Int):List Value:=[.int .i64 n]
theorem one_L (x:Int × Int):∀ u ∈ csL x,u.oneCell' = true:=fun u hu => by
 simp only [csL,List.mem_cons,List.not_mem_nil,or_false] at hu
 rcases hu with rfl | rfl <;> rfl
theorem txt_own {w:World} {B:Nat} {e:TypeId} {v:Value} {l:List Txt} (h:w.ownsRow B e 1 v l.length (l.flatMap csT)):Lst 1 TxtAt w v l:=by
 obtain ⟨a,cap,e,hc,hn,hat⟩:=own_at (sz:=1) (cs:=csT) (fun _ => rfl) (by decide) h
 refine ⟨a,cap,e,hc,hn,fun j hj => ?_⟩
 obtain ⟨b,o,e,hlt,hx⟩:=hat j hj
 exact ⟨b,o,e,hlt,hx 0 (by decide)⟩
theorem lev_own {w:World} {B:Nat} {e:TypeId} {v:Value} {l:List (Int × Int)} (h:w.ownsRow B e 2 v l.length (l.flatMap csL)):Lst 2 LevAt w v l:=by
 obtain ⟨a,cap,e,hc,hn,hat⟩:=own_at (sz:=2) (cs:=csL) (fun _ => rfl) (by decide) h
 refine ⟨a,cap,e,hc,hn,fun j hj => ?_⟩
 obtain ⟨b,o,e,hlt,hx⟩:=hat j hj
 exact ⟨b,o,e,hlt,hx 0 (by decide),hx 1 (by decide)⟩
theorem nums_own {w:World} {B:Nat} {e:TypeId} {v:Value} {l:List Int} (h:w.ownsRow B e 1 v l.length (l.flatMap csI)):Nums w v l:=by
 obtain ⟨a,cap,e,hc,hn,hat⟩:=own_at (sz:=1) (cs:=csI) (fun _ => rfl) (by decide) h
 refine ⟨a,cap,e,hc,hn,fun j hj => ?_⟩
 obtain ⟨b,o,e,hlt,hx⟩:=hat j hj
 have h0:=hx 0 (by decide)
 rw [Nat.mul_one] at h0
 exact ⟨b,o,e,hlt,h0⟩
def pP (P:List Pd) (j:Nat):Value:=.int .i64 (P.getD j ⟨0,[],0⟩).left
def qP (P:List Pd) (j:Nat):Value:=.int .i64 (P.getD j ⟨0,[],0⟩).prec
theorem rw3_rw {p q:Nat → Value} {w:World} {a:Option Addr} {cap n:Nat} {f:Nat → Value} (hn:a = none → cap = 0) (hp:∀ j,(p j).oneCell' = true) (hq:∀ j,(q j).oneCell' = true) (hf:∀ j,j < n → (f j).oneCell' = true)
 (hat:∀ j,j < n → ∃ b o,a = some ⟨b,o,none⟩ ∧ b < w.heap.size ∧ w.cell? ⟨b,o + j * 3,none⟩ = some (p j) ∧ w.cell? ⟨b,o + j * 3 + 1,none⟩ = some (f j) ∧ w.cell? ⟨b,o + j * 3 + 2,none⟩ = some (q j)):Rw 3 w (.slice a n cap) n (rw3 n p f q):=by
 refine ⟨a,cap,rfl,hn,rw3_len p f q n,fun u hu => ?_,fun t u hu => ?_⟩
 · obtain ⟨j,hj,hx⟩:=List.mem_flatMap.1 hu
   have hj:=List.mem_range.1 hj
   simp only [List.mem_cons,List.not_mem_nil,or_false] at hx
   rcases hx with rfl | rfl | rfl
   · exact hp j
   · exact hf j hj
   · exact hq j
 · have ht:t < n * 3:=by
    rw [← rw3_len p f q n]
    rcases Nat.lt_or_ge t (rw3 n p f q).length with h | h
    · exact h
    · rw [List.getElem?_eq_none h] at hu;cases hu
   have hj:t / 3 < n:=by omega
   obtain ⟨b,o,e,h2,x0,x1,x2⟩:=hat (t / 3) hj
   obtain ⟨y0,y1,y2⟩:=rw3_at p f q n (t / 3) hj
   refine ⟨b,o,e,h2,?_⟩
   have hm:t = t / 3 * 3 ∨ t = t / 3 * 3 + 1 ∨ t = t / 3 * 3 + 2:=by omega
   generalize t / 3 = k at *
   rcases hm with rfl | rfl | rfl
   · rw [← hu,y0];exact x0
   · rw [← hu,y1,← Nat.add_assoc];exact x1
   · rw [← hu,y2,← Nat.add_assoc];exact x2
theorem getD_at {α:Type} {l:List α} {j:Nat} {d:α} (h:j < l.length):l.getD j d = l[j]:=by rw [List.getD_eq_getElem?_getD,List.getElem?_eq_getElem h];rfl
theorem prods_rw {w:World} {v:Value} {R:List Pd} (h:Lst 3 ProdAt w v R):∃ f,Rw 3 w v R.length (rw3 R.length (pP R) f (qP R)) ∧ ∀ j,j < R.length → Nums w (f j) (R.getD j ⟨0,[],0⟩).right:=by
 obtain ⟨a,cap,rfl,hc,hn,hat⟩:=h
 have h1:∀ j,j < R.length → ∃ v,(∃ b o,a = some ⟨b,o,none⟩ ∧ b < w.heap.size ∧ w.cell? ⟨b,o + j * 3,none⟩ = some (pP R j) ∧ w.cell? ⟨b,o + j * 3 + 1,none⟩ = some v ∧ w.cell? ⟨b,o + j * 3 + 2,none⟩ = some (qP R j)) ∧ Nums w v (R.getD j ⟨0,[],0⟩).right:=fun j hj => by
  obtain ⟨b,o,e,hlt,v,x0,x1,x2,hC⟩:=hat j hj
  unfold pP qP
  rw [getD_at hj]
  exact ⟨v,⟨b,o,e,hlt,x0,x1,x2⟩,hC⟩
 obtain ⟨f,hf⟩:=Deep.choose_lt h1
 refine ⟨f,rw3_rw hn (fun _ => rfl) (fun _ => rfl) (fun j hj => ?_) (fun j hj => (hf j hj).1),fun j hj => (hf j hj).2⟩
 obtain ⟨a',c',e,_⟩:=(hf j hj).2
 rw [e]
 rfl
structure RestOf (R:Prop):Prop where
 out:R
theorem collapse {R G:Prop} (h:RestOf R → G) (pf:R):G:=h ⟨pf⟩
theorem OffP.mono {F G:Nat → Prop} {v:Value} (h:OffP F v) (hG:∀ b,G b → F b):OffP G v:=fun a n c e hn hg => h a n c e hn (hG _ hg)
set_option maxRecDepth 20000 in
theorem wp_run {ops:Array Oper} {rest:List Oper} {o:Oper} {a:Act} {Q:Exit → Act → World → Prop} (w:World) (hgd:o.guard = none) (s x:Operand) (t:TypeId)
 (ho:o.op = .call { callee:=.builtin .append,args:=#[s,x],argTypes:=#[t,t] }) (v vx:Value) (hs:a.eval s = v) (hx:a.eval x = vx) {v':Value} {w':World}
 (hr:(Builtin.append_ #[t,t] o.type #[v,vx]).run Tryz.prog w = .ok v' w') (h:wpList Tryz.prog ops Q rest (a.put o.dst v') w'):wpList Tryz.prog ops Q (o :: rest) a w:=by
 refine wpList_plain hgd fun K hK => ?_
 unfold Oper.wp execOp
 simp only [ho,resolve,invoke,builtin,Sem.run_bind,Sem.run_pure,Result.andThen_ok,List.map_toArray,List.map_cons,List.map_nil,hs,hx,hr]
 exact hK _ _ h
set_option maxRecDepth 20000 in
theorem step_run {ops:Array Oper} {o:Oper} {a:Act} {w:World} {K:Act → World → Prop} {Q:Exit → Act → World → Prop} {E:Prop} (hgd:o.guard = none) (s x:Operand) (t:TypeId)
 (ho:o.op = .call { callee:=.builtin .append,args:=#[s,x],argTypes:=#[t,t] }) (v vx:Value) (hs:a.eval s = v) (hx:a.eval x = vx) {v':Value} {w':World}
 (hr:(Builtin.append_ #[t,t] o.type #[v,vx]).run Tryz.prog w = .ok v' w') (h:K (a.put o.dst v') w'):if Region.wanted o (yielded ops a.tmps) = true then Oper.wp Tryz.prog o a w K Q else E:=by
 have hw:Region.wanted o (yielded ops a.tmps) = true:=by simp [Region.wanted,hgd]
 rw [if_pos hw]
 unfold Oper.wp
 simp [execOp,ho,resolve,invoke,builtin,hs,hx,hr,Result.andThen]
 exact h
theorem putT5 {u:World} {b t:Nat} {x0 x1 x2 x3 x4:Value} (h:u.heap[b]? = some (.cells #[x0,x1,x2,x3,x4] t (0,0))) (v0 v1 v2 v3 v4:Value) :
 (u.cell? ⟨b,0,none⟩ = some x0 ∧ u.frozen? ⟨b,0,none⟩ = false) ∧
 ((u.setCell ⟨b,0,none⟩ v0).cell? ⟨b,1,none⟩ = some x1 ∧ (u.setCell ⟨b,0,none⟩ v0).frozen? ⟨b,1,none⟩ = false) ∧
 (((u.setCell ⟨b,0,none⟩ v0).setCell ⟨b,1,none⟩ v1).cell? ⟨b,2,none⟩ = some x2 ∧ ((u.setCell ⟨b,0,none⟩ v0).setCell ⟨b,1,none⟩ v1).frozen? ⟨b,2,none⟩ = false) ∧
 ((((u.setCell ⟨b,0,none⟩ v0).setCell ⟨b,1,none⟩ v1).setCell ⟨b,2,none⟩ v2).cell? ⟨b,3,none⟩ = some x3 ∧ (((u.setCell ⟨b,0,none⟩ v0).setCell ⟨b,1,none⟩ v1).setCell ⟨b,2,none⟩ v2).frozen? ⟨b,3,none⟩ = false) ∧
 (((((u.setCell ⟨b,0,none⟩ v0).setCell ⟨b,1,none⟩ v1).setCell ⟨b,2,none⟩ v2).setCell ⟨b,3,none⟩ v3).cell? ⟨b,4,none⟩ = some x4 ∧ ((((u.setCell ⟨b,0,none⟩ v0).setCell ⟨b,1,none⟩ v1).setCell ⟨b,2,none⟩ v2).setCell ⟨b,3,none⟩ v3).frozen? ⟨b,4,none⟩ = false) ∧
 (((((u.setCell ⟨b,0,none⟩ v0).setCell ⟨b,1,none⟩ v1).setCell ⟨b,2,none⟩ v2).setCell ⟨b,3,none⟩ v3).setCell ⟨b,4,none⟩ v4).heap[b]? = some (.cells #[v0,v1,v2,v3,v4] t (0,0)):=by
 have h1:(u.setCell ⟨b,0,none⟩ v0).heap[b]? = some (.cells #[v0,x1,x2,x3,x4] t (0,0)):=heap_setCell h
 have h2:((u.setCell ⟨b,0,none⟩ v0).setCell ⟨b,1,none⟩ v1).heap[b]? = some (.cells #[v0,v1,x2,x3,x4] t (0,0)):=heap_setCell h1
 have h3:(((u.setCell ⟨b,0,none⟩ v0).setCell ⟨b,1,none⟩ v1).setCell ⟨b,2,none⟩ v2).heap[b]? = some (.cells #[v0,v1,v2,x3,x4] t (0,0)):=heap_setCell h2
 have h4:((((u.setCell ⟨b,0,none⟩ v0).setCell ⟨b,1,none⟩ v1).setCell ⟨b,2,none⟩ v2).setCell ⟨b,3,none⟩ v3).heap[b]? = some (.cells #[v0,v1,v2,v3,x4] t (0,0)):=heap_setCell h3
 exact ⟨⟨blk_cell h rfl,blk_frozen h 0⟩,⟨blk_cell h1 rfl,blk_frozen h1 1⟩,⟨blk_cell h2 rfl,blk_frozen h2 2⟩,⟨blk_cell h3 rfl,blk_frozen h3 3⟩,⟨blk_cell h4 rfl,blk_frozen h4 4⟩,heap_setCell h4⟩
end Go.Proofs.YtfhokapfkclckaaGreat
