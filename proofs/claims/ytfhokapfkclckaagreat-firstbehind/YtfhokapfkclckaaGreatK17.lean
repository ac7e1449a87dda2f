/- Layer 15: the symbols that may come to stand first, by a list of texts to do. The reference of layer 15: Gone, Symbols, SameLists. What is asked of package gram; topiarylaw12.wakes. The reference of layer 15: Vanish. -/
import Derived.Test.YtfhokapfkclckaaGreatK16
import Derived.Test.YtfhokapfkclckaaGreatK4
import Derived.Test.YtfhokapfkclckaaGreatK15
import Derived.Lib.QuietBelow
namespace Go.Proofs.YtfhokapfkclckaaGreat
structure StS where
 out:List Int
 todo:List (List Int)
def rgtS (g:Gm) (n:Int):List (List Int):=(g.prods.filter fun p => p.left == n).map Pd.right
def stA (g:Gm) (s:StS) (n:Int):StS:=if s.out.contains n = true then s else ⟨s.out ++ [n],s.todo ++ rgtS g n⟩
def stT (g:Gm) (null:List Int):List Int → StS → StS
 | [],s => s
 | n :: r,s => if null.contains n = true then stT g null r (stA g s n) else stA g s n
def stN (g:Gm) (null:List Int):Nat → StS → StS
 | 0,s => s
 | f + 1,s =>
  match s.todo with
  | [] => s
  | t :: r => stN g null f (stT g null t ⟨s.out,r⟩)
def stM (g:Gm) (s:StS):Nat:=s.todo.length + (g.prods.filter fun p => !s.out.contains p.left).length
theorem rgtS_len (g:Gm) (n:Int):(rgtS g n).length = (g.prods.filter fun p => p.left == n).length:=List.length_map ..
theorem stA_meas (g:Gm) (s:StS) (n:Int):stM g (stA g s n) = stM g s:=by
 unfold stA
 split
 · rfl
 · rename_i hn
   unfold stM
   show (s.todo ++ rgtS g n).length + (g.prods.filter fun p => !(s.out ++ [n]).contains p.left).length = _
   rw [List.length_append,rgtS_len]
   have h:∀ l:List Pd,(l.filter fun p => p.left == n).length + (l.filter fun p => !(s.out ++ [n]).contains p.left).length = (l.filter fun p => !s.out.contains p.left).length:=fun l => by
    induction l with
    | nil => rfl
    | cons p l ih =>
     rw [List.filter_cons,List.filter_cons,List.filter_cons]
     by_cases e:p.left = n
     · have h1:(p.left == n) = true:=by simpa using e
       have h2:(s.out ++ [n]).contains p.left = true:=List.contains_iff_mem.2 (by rw [e];exact List.mem_append_right _ (List.mem_singleton.2 rfl))
       have h3:s.out.contains p.left = false:=by rw [e];simpa using hn
       rw [h1,h2,h3]
       simp only [if_true,Bool.not_true,Bool.false_eq_true,if_false,Bool.not_false,List.length_cons]
       omega
     · have h1:(p.left == n) = false:=by simpa using e
       have h2:(s.out ++ [n]).contains p.left = s.out.contains p.left:=by
        rw [Bool.eq_iff_iff,List.contains_iff_mem,List.contains_iff_mem,List.mem_append,List.mem_singleton]
        exact ⟨fun h => h.elim id (fun h => absurd h e),.inl⟩
       rw [h1,h2]
       cases s.out.contains p.left
       · simp only [Bool.false_eq_true,if_false,Bool.not_false,if_true,List.length_cons]
         omega
       · simp only [Bool.false_eq_true,if_false,Bool.not_true]
         omega
   have:=h g.prods
   omega
theorem stT_meas (g:Gm) (null:List Int):∀ (t:List Int) (s:StS),stM g (stT g null t s) = stM g s
 | [],_ => rfl
 | n :: r,s => by
  unfold stT
  split
  · rw [stT_meas g null r,stA_meas]
  · exact stA_meas g s n
theorem stN_done {g:Gm} {null:List Int}:∀ {f:Nat} {s:StS},stM g s ≤ f → (stN g null f s).todo = []
 | 0,s,h => by
  unfold stM at h
  exact List.eq_nil_of_length_eq_zero (by show s.todo.length = 0;omega)
 | f + 1,s,h => by
  unfold stN
  split
  · assumption
  · rename_i t r e
    refine stN_done ?_
    rw [stT_meas]
    unfold stM at h ⊢
    rw [e,List.length_cons] at h
    show r.length + (g.prods.filter fun p => !s.out.contains p.left).length ≤ f
    omega
def PT (null out:List Int):List Int → Prop
 | [] => True
 | n :: r => n ∈ out ∧ (n ∈ null → PT null out r)
theorem PT.mono {null out out':List Int} (h:∀ x ∈ out,x ∈ out'):∀ {t:List Int},PT null out t → PT null out' t
 | [],_ => trivial
 | n :: _,⟨h1,h2⟩ => ⟨h n h1,fun hn => PT.mono h (h2 hn)⟩
structure StI (g:Gm) (null base:List Int) (s:StS):Prop where
 snd:∀ x ∈ s.out,Beg g base x
 tds:∀ t ∈ s.todo,∀ x,Beg g t x → Beg g base x
 prd:∀ p ∈ g.prods,p.left ∈ s.out → PT null s.out p.right ∨ p.right ∈ s.todo
 one:s.out.Nodup
theorem stA_sub (g:Gm) (s:StS) (n:Int):(∀ x ∈ s.out,x ∈ (stA g s n).out) ∧ n ∈ (stA g s n).out ∧ ∀ t ∈ s.todo,t ∈ (stA g s n).todo:=by
 unfold stA
 split
 · rename_i h
   exact ⟨fun _ h => h,List.contains_iff_mem.1 h,fun _ h => h⟩
 · exact ⟨fun _ h => List.mem_append_left _ h,List.mem_append_right _ (List.mem_singleton.2 rfl),fun _ h => List.mem_append_left _ h⟩
theorem stT_sub (g:Gm) (null:List Int):∀ (t:List Int) (s:StS),(∀ x ∈ s.out,x ∈ (stT g null t s).out) ∧ (∀ u ∈ s.todo,u ∈ (stT g null t s).todo) ∧ PT null (stT g null t s).out t
 | [],s => ⟨fun _ h => h,fun _ h => h,trivial⟩
 | n :: r,s => by
  obtain ⟨a1,a2,a3⟩:=stA_sub g s n
  unfold stT
  split
  · rename_i hc
    obtain ⟨b1,b2,b3⟩:=stT_sub g null r (stA g s n)
    exact ⟨fun x hx => b1 x (a1 x hx),fun u hu => b2 u (a3 u hu),b1 n a2,fun _ => b3⟩
  · rename_i hc
    exact ⟨a1,a3,a2,fun h => absurd (List.contains_iff_mem.2 h) hc⟩
theorem StI.take {g:Gm} {null base t:List Int} {out:List Int} {r:List (List Int)} (hv:∀ n ∈ null,Van g n) (h:StI g null base ⟨out,t :: r⟩):StI g null base (stT g null t ⟨out,r⟩):=by
 obtain ⟨b1,b2,b3⟩:=stT_sub g null t ⟨out,r⟩
 -- the text at hand counts as gone through at the end: said of the list without it
 have hw:∀ (u:List Int) (s:StS),(∀ x ∈ s.out,Beg g base x) → (∀ v ∈ s.todo,∀ x,Beg g v x → Beg g base x) → s.out.Nodup → (∀ p ∈ g.prods,p.left ∈ s.out → PT null s.out p.right ∨ p.right ∈ s.todo ∨ p.right = t) → (∀ x,Beg g u x → Beg g base x) →
  (∀ x ∈ (stT g null u s).out,Beg g base x) ∧ (∀ v ∈ (stT g null u s).todo,∀ x,Beg g v x → Beg g base x) ∧ (stT g null u s).out.Nodup ∧ (∀ p ∈ g.prods,p.left ∈ (stT g null u s).out → PT null (stT g null u s).out p.right ∨ p.right ∈ (stT g null u s).todo ∨ p.right = t):=by
  intro u
  induction u with
  | nil => exact fun s h1 h2 h3 h4 _ => ⟨h1,h2,h3,h4⟩
  | cons n u ih =>
   intro s h1 h2 h3 h4 h5
   have hA:(∀ x ∈ (stA g s n).out,Beg g base x) ∧ (∀ v ∈ (stA g s n).todo,∀ x,Beg g v x → Beg g base x) ∧ (stA g s n).out.Nodup ∧ (∀ p ∈ g.prods,p.left ∈ (stA g s n).out → PT null (stA g s n).out p.right ∨ p.right ∈ (stA g s n).todo ∨ p.right = t):=by
    unfold stA
    split
    · exact ⟨h1,h2,h3,h4⟩
    · rename_i hc
      have hc:n ∉ s.out:=fun e => hc (List.contains_iff_mem.2 e)
      refine ⟨fun x hx => ?_,fun v hv9 x hx => ?_,?_,fun p hp hl => ?_⟩
      · rcases List.mem_append.1 hx with hx | hx
        · exact h1 x hx
        · rw [List.mem_singleton] at hx;subst hx;exact h5 x (.here x u)
      · rcases List.mem_append.1 hv9 with hv9 | hv9
        · exact h2 v hv9 x hx
        · unfold rgtS at hv9
          rw [List.mem_map] at hv9
          obtain ⟨p,hp,rfl⟩:=hv9
          rw [List.mem_filter] at hp
          exact h5 x (.into n u p x hp.1 (by simpa using hp.2) hx)
      · rw [List.nodup_append]
        refine ⟨h3,List.pairwise_singleton _ _,fun a ha b hb => ?_⟩
        rw [List.mem_singleton] at hb
        subst hb
        exact fun e => hc (e ▸ ha)
      · rcases List.mem_append.1 hl with hl | hl
        · rcases h4 p hp hl with k1 | k1 | k1
          · exact .inl (k1.mono fun _ h => List.mem_append_left _ h)
          · exact .inr (.inl (List.mem_append_left _ k1))
          · exact .inr (.inr k1)
        · rw [List.mem_singleton] at hl
          refine .inr (.inl (List.mem_append_right _ ?_))
          unfold rgtS
          rw [List.mem_map]
          exact ⟨p,List.mem_filter.2 ⟨hp,by simpa using hl⟩,rfl⟩
   obtain ⟨a1,a2,a3,a4⟩:=hA
   unfold stT
   split
   · rename_i hc
     exact ih _ a1 a2 a3 a4 (fun x hx => h5 x (.past n u x (hv n (List.contains_iff_mem.1 hc)) hx))
   · exact ⟨a1,a2,a3,a4⟩
 obtain ⟨c1,c2,c3,c4⟩:=hw t ⟨out,r⟩ h.snd (fun v hv9 => h.tds v (List.mem_cons_of_mem _ hv9)) h.one (fun p hp hl => (h.prd p hp hl).imp id (fun h9 => (List.mem_cons.1 h9).elim .inr .inl)) (h.tds t List.mem_cons_self)
 refine ⟨c1,c2,fun p hp hl => ?_,c3⟩
 rcases c4 p hp hl with k | k | k
 · exact .inl k
 · exact .inr k
 · exact .inl (by rw [k];exact b3)
theorem stN_good {g:Gm} {null base:List Int} (hv:∀ n ∈ null,Van g n):∀ {f:Nat} {s:StS},StI g null base s → StI g null base (stN g null f s)
 | 0,_,h => h
 | f + 1,s,h => by
  unfold stN
  split
  · exact h
  · rename_i t r e
    refine stN_good hv (StI.take hv ?_)
    obtain ⟨out,todo⟩:=s
    have e:todo = t :: r:=e
    subst e
    exact h
theorem stN_sub {g:Gm} {null:List Int}:∀ {f:Nat} {s:StS},∀ x ∈ s.out,x ∈ (stN g null f s).out
 | 0,_,_,h => h
 | f + 1,s,x,h => by
  unfold stN
  split
  · exact h
  · rename_i t r e
    exact stN_sub x ((stT_sub g null t ⟨s.out,r⟩).1 x h)
def begS (g:Gm) (null t:List Int):StS:=stN g null (1 + g.prods.length) ⟨[],[t]⟩
theorem begS_todo (g:Gm) (null t:List Int):(begS g null t).todo = []:=stN_done (by
 unfold stM
 have h1:=List.length_filter_le (fun p:Pd => !([]:List Int).contains p.left) g.prods
 show 1 + (g.prods.filter fun p:Pd => !([]:List Int).contains p.left).length ≤ 1 + g.prods.length
 omega)
theorem begS_good {g:Gm} {null t:List Int} (hv:∀ n ∈ null,Van g n):StI g null t (begS g null t):=
 stN_good hv ⟨fun _ h => absurd h List.not_mem_nil,fun u hu x hx => by
  rw [List.mem_singleton] at hu
  subst hu
  exact hx,fun _ _ h => absurd h List.not_mem_nil,List.nodup_nil⟩
theorem begS_mem {g:Gm} {null t:List Int} (hv:∀ n,n ∈ null ↔ Van g n) (x:Int):x ∈ (begS g null t).out ↔ Beg g t x:=by
 have hI:=begS_good (t:=t) (fun n hn => (hv n).1 hn)
 have hT:=begS_todo g null t
 refine ⟨fun h => hI.snd x h,fun h => ?_⟩
 have hp:∀ p ∈ g.prods,p.left ∈ (begS g null t).out → PT null (begS g null t).out p.right:=fun p hp hl => (hI.prd p hp hl).elim id (fun h => by rw [hT] at h;exact absurd h List.not_mem_nil)
 have h0:PT null (begS g null t).out t:=by
  show PT null (stN g null (1 + g.prods.length) ⟨[],[t]⟩).out t
  rw [Nat.add_comm]
  show PT null (stN g null g.prods.length (stT g null t ⟨[],[]⟩)).out t
  exact (stT_sub g null t ⟨[],[]⟩).2.2.mono (fun x hx => stN_sub x hx)
 clear hI hT
 generalize (begS g null t).out = O at *
 revert h0
 induction h with
 | here x r => exact fun h0 => h0.1
 | into n r p x hpp e _ ih => exact fun h0 => ih (hp p hpp (by rw [e];exact h0.1))
 | past n r x hvn _ ih => exact fun h0 => ih (h0.2 ((hv n).2 hvn))
end Go.Proofs.YtfhokapfkclckaaGreat
namespace Go.Proofs.YtfhokapfkclckaaGreat
open Go.RowKit Go.Maps Go.Sort
theorem goneB_take {l t:List Int} {k:Nat} (hk:k < t.length):goneB l (t.take (k + 1)) = (goneB l (t.take k) && l.contains t[k]):=by
 unfold goneB
 rw [List.take_succ_eq_append_getElem hk,List.all_append]
 simp
theorem goneB_no {l t:List Int} {k:Nat} (hk:k < t.length) (h:l.contains t[k] = false):goneB l t = false:=by
 rw [Bool.eq_false_iff]
 intro e
 have:=List.contains_iff_mem.2 (goneB_iff.1 e _ (List.getElem_mem hk))
 rw [h] at this
 cases this
set_option maxRecDepth 20000 in
set_option maxHeartbeats 4000000 in
theorem refGone (nv tv:Value) (l t:List Int) (w:World) (hl:l.length ≤ 1000000) (ht:t.length ≤ 1000000) (hA:Nums w nv l) (hB:Nums w tv t) :
 Calls Tryz.prog 27 #[nv,tv] w fun e w' => e = .returned (.bool (goneB l t)) ∧ w' = w:=by
 obtain ⟨ta,tc,rfl,_,_,hat⟩:=hB
 have GH:=hid (fun n => numHas nv l n w hl hA)
 have hat:=hid hat
 obtain ⟨na,nc,rfl,-⟩:=hA
 obtain ⟨R,hR⟩:∃ x,Hid (goneB l t = x):=⟨_,hid rfl⟩
 rw [hR.out]
 obtain ⟨tn,htn⟩:∃ x,Hid (t.length = x):=⟨_,hid rfl⟩
 rw [htn.out] at ht ⊢
 generalize l.length = ln at *
 go_enter Tryz.func27,Tryz.ntmps27
 go_wp2
 go_loop [5] (fun i => ∃ k:Nat,k ≤ tn ∧ i = .int .i64 (k:Int) ∧ Hid (goneB l (t.take k) = true)) (fun i => tn - (intOf i).toNat)
 case atStart => exact ⟨0,Nat.zero_le _,rfl,hid rfl⟩
 case round =>
  obtain ⟨k,hk,rfl,hG⟩:=hrel
  by_cases hlt:k < tn
  · have hltz:(k:Int) < (tn:Int):=by omega
    have hkl:k < t.length:=by rw [htn.out];exact hlt
    obtain ⟨b,o,e,_,hc⟩:=hat.out k hkl
    subst e
    have hs:=goneB_take (l:=l) hkl
    rw [hG.out,Bool.true_and] at hs
    have hno:=hid (fun h => goneB_no (l:=l) hkl h)
    have G:=hid (GH.out t[k])
    clear GH hG hat
    generalize l.contains t[k] = cc at *
    generalize t[k] = x at *
    have hs:=hid hs
    cases cc with
    | true =>
     go_wp2_with (go_at_call 28;refine G.out.mono ?_;clear G;rintro e w3 ⟨rfl,hc3⟩;subst w3)
     go_round
     case rel => exact ⟨k + 1,by omega,by go_num,hs⟩
     case measure => simp [intOf];omega
    | false =>
     have hr:R = false:=by rw [← hR.out];exact hno.out rfl
     subst hr
     go_wp2_with (go_at_call 28;refine G.out.mono ?_;clear G;rintro e w3 ⟨rfl,hc3⟩;subst w3)
     go_ret
     exact ⟨rfl,rfl⟩
  · have hltz:¬ (k:Int) < (tn:Int):=by omega
    have hr:R = true:=by
     rw [← hR.out,← hG.out,List.take_of_length_le (by rw [htn.out];omega)]
    subst hr
    clear GH hat hG
    go_wp2
    go_ret
    exact ⟨rfl,rfl⟩
structure SoundG (g:Gm):Prop where
 levels:g.levels.length = g.terms + 1
 start:0 < g.nonts.length → (g.terms:Int) < g.start ∧ g.start ≤ (g.all:Int)
 names:∀ i j:Nat,1 ≤ i → i < j → j ≤ g.all → g.name (i:Int) ≠ g.name (j:Int)
 prods:∀ p ∈ g.prods,(g.terms:Int) < p.left ∧ p.left ≤ (g.all:Int) ∧ 0 ≤ p.prec ∧ p.prec ≤ (g.terms:Int) ∧ p.right.length ≤ 8 ∧ ∀ k ∈ p.right,1 ≤ k ∧ k ≤ (g.all:Int)
structure BndG (g:Gm):Prop where
 rules:g.rules.length ≤ 1000
 nonts:g.nonts.length ≤ 1000
 levels:g.levels.length ≤ 1000
 prods:g.prods.length ≤ 1000
 re:∀ r ∈ g.rules,r.re.length ≤ 1000
 right:∀ p ∈ g.prods,p.right.length ≤ 1000
def ex1:Txt:=[116,111,107,101,110,32,97,32,47,120,47,59,32,115,58,32,97,32,115,32,124,32,59]
def ex2:Txt:=[115,58,32,98,59]
structure PrsOK (prs:Txt → Option Gm):Prop where
 yes:∀ (s:Txt) (g:Gm) (u:World),s.length ≤ 1000000 → prs s = some g → Calls Tryz.prog 22 #[.string (strT s)] u fun e w' => ∃ rv nv lv pv,e = .returned (.tuple #[gmA rv nv lv pv g.start,.int .i64 0,.int .i64 0]) ∧ GmV w' rv nv lv pv g ∧ Below u.heap.size u w'
 no:∀ (s:Txt) (u:World),s.length ≤ 1000000 → prs s = none → Calls Tryz.prog 22 #[.string (strT s)] u fun e w' => ∃ (ra na la pa:Option Addr) (rc nc lc pc:Nat) (st n er:Int),e = .returned (.tuple #[gmA (.slice ra 0 rc) (.slice na 0 nc) (.slice la 0 lc) (.slice pa 0 pc) st,.int .i64 n,.int .i64 er]) ∧ er ≠ 0 ∧ Below u.heap.size u w'
 ex:∃ g,prs ex1 = some g ∧ g.start = 2 ∧ g.prods.length = 2 ∧ ∀ h:0 < g.prods.length,g.prods[0].right = [1,2]
 bad:∀ u:World,Calls Tryz.prog 22 #[.string (strT ex2)] u fun e w' => ∃ (ra na la pa:Option Addr) (rc nc lc pc:Nat) (st:Int),e = .returned (.tuple #[gmA (.slice ra 0 rc) (.slice na 0 nc) (.slice la 0 lc) (.slice pa 0 pc) st,.int .i64 3,.int .i64 5]) ∧ Below u.heap.size u w'
 bnd:∀ s g,prs s = some g → BndG g
theorem cells5m {w:World} {b t:Nat} {x0 x1 x2 x3 x4:Value} (h:w.heap[b]? = some (.cells #[x0,x1,x2,x3,x4] t (0,0))):w.cell? ⟨b,0,none⟩ = some x0 ∧ w.cell? ⟨b,1,none⟩ = some x1 ∧ w.cell? ⟨b,2,none⟩ = some x2 ∧ w.cell? ⟨b,3,none⟩ = some x3 ∧ w.cell? ⟨b,4,none⟩ = some x4:=
 ⟨blk_cell h rfl,blk_cell h rfl,blk_cell h rfl,blk_cell h rfl,blk_cell h rfl⟩
theorem foldl_take15 {α β:Type} (f:β → α → β) (l:List α) (b:β) {i:Nat} (hi:i < l.length):(l.take (i + 1)).foldl f b = f ((l.take i).foldl f b) l[i]:=by
 rw [List.take_succ_eq_append_getElem hi,List.foldl_append]
 rfl
set_option maxRecDepth 20000 in
set_option maxHeartbeats 16000000 in
theorem refVanish (g:Gm) (rv nv lv pv:Value) (w:World) (hV:GmV w rv nv lv pv g) (hb:BndG g) (hg:SndG g) :
 Calls Tryz.prog 13 #[gmA rv nv lv pv g.start] w fun e w' => ∃ v,e = .returned v ∧ (∃ B,Own w' B v (ofL (vanL g))) ∧ Below w.heap.size w w':=by
 obtain ⟨ra,rc,rfl⟩:=hV.rules.shape
 obtain ⟨na,nc,rfl⟩:=hV.nonts.shape
 obtain ⟨la,lc,rfl⟩:=hV.levels.shape
 obtain ⟨pa,pc,rfl⟩:=hV.prods.shape
 have hB1:=al' w (.cells #[.slice ra g.rules.length rc,.slice na g.nonts.length nc,.slice la g.levels.length lc,.slice pa g.prods.length pc,.int .i64 g.start] 27)
 have k1:=heap_new w (.cells #[.slice ra g.rules.length rc,.slice na g.nonts.length nc,.slice la g.levels.length lc,.slice pa g.prods.length pc,.int .i64 g.start] 27)
 obtain ⟨W,hW⟩:∃ x,w.alloc (.cells #[.slice ra g.rules.length rc,.slice na g.nonts.length nc,.slice la g.levels.length lc,.slice pa g.prods.length pc,.int .i64 g.start] 27) = x:=⟨_,rfl⟩
 rw [hW] at hB1 k1
 have hk1:=hid (fun u (hu:Below W.heap.size W u) => cells5m (hs_keep k1 hu))
 have hB:=hid hB1
 have b2:=hg.nonts
 have b4:=hg.prods
 have hKp:Hid (∀ u,Below w.heap.size w u → ∀ k (hk:k < g.prods.length),∃ b o q1 q3,pa = some ⟨b,o,none⟩ ∧ u.cell? ⟨b,o + k * 3,none⟩ = some (.int .i64 g.prods[k].left) ∧ u.cell? ⟨b,o + k * 3 + 1,none⟩ = some (.slice q1 g.prods[k].right.length q3) ∧ Nums u (.slice q1 g.prods[k].right.length q3) g.prods[k].right):=hid (fun u hu k hk => by
  obtain ⟨b,o,e,-,hx⟩:=(hV.keep hu).prods.at hk
  obtain ⟨v,x0,x1,x2,hN⟩:=hx
  have hN2:=hN
  obtain ⟨q1,q3,rfl,_⟩:=hN2
  exact ⟨b,o,q1,q3,e,x0,x1,hN⟩)
 have hrl:=hid (fun k (hk:k < g.prods.length) => (hb.right _ (List.getElem_mem hk)))
 have q0:Hid (∀ r,vaQ g r 0 = vaN g r):=hid (fun r => rfl)
 have q1:Hid (∀ r,vaN g (r + 1) = vaQ g r g.prods.length):=hid (fun r => by unfold vaQ;rw [List.take_length];rfl)
 have t1:Hid (∀ r i (hi:i < g.prods.length),vaQ g r (i + 1) = if (goneB (vaQ g r i) g.prods[i].right && !(vaQ g r i).contains g.prods[i].left) = true then vaQ g r i ++ [g.prods[i].left] else vaQ g r i):=hid (fun r i hi => by
  unfold vaQ
  rw [foldl_take15 _ _ _ hi]
  rfl)
 have lQ:=hid (fun r i => Nat.le_trans ((vaQ_good g r i).len hg) hg.nonts)
 have lN:=hid (fun r => Nat.le_trans ((vaN_good g r).len hg) hg.nonts)
 have hst:Hid (vaN g 0 = []):=hid rfl
 have hfin:Hid (vanL g = vaN g (g.nonts.length + 1)):=hid rfl
 rw [hfin.out]
 clear hV hB1 k1 hb hg hfin
 obtain ⟨nn,hnn⟩:∃ n,Hid (g.nonts.length = n):=⟨_,hid rfl⟩
 obtain ⟨pp,hpp⟩:∃ n,Hid (g.prods.length = n):=⟨_,hid rfl⟩
 rw [hnn.out] at b2 hk1 hW ⊢
 rw [hpp.out] at b4 hk1 hW q1 ⊢
 generalize vaN g = FN at *
 generalize vaQ g = FQ at *
 generalize g.rules.length = rn at *
 generalize g.levels.length = ll at *
 generalize g.start = st at *
 have hO0:Hid (Own W W.heap.size (.slice none 0 0) (FN 0)):=hid (by rw [hst.out];exact World.ownsRow_nil _ _ _ _)
 have hb0:=hid (Below.refl W.heap.size W)
 go_enter Tryz.func13,Tryz.ntmps13
 go_wp2
 clear hW hst
 go_loopw [3,4] (fun v i wr => ∃ r:Nat,r ≤ nn + 1 ∧ i = .int .i64 (r:Int) ∧ Hid (Own wr W.heap.size v (FN r)) ∧ Hid (Below W.heap.size W wr)) (fun _ i _ => nn + 1 - (intOf i).toNat)
 case atStart => exact ⟨0,Nat.zero_le _,rfl,hO0,hb0⟩
 case round =>
  clear hO0 hb0
  obtain ⟨r,hr,rfl,hO,hbl⟩:=hrel
  obtain ⟨y0,y1,y2,y3,y4⟩:=hk1.out wr hbl.out
  by_cases hlt:r ≤ nn
  · have hltz:(r:Int) ≤ (nn:Int):=by omega
    have hO1:=hid hO.out
    rw [← q0.out] at hO1
    clear hO
    go_wp2
    clear y0 y1 y2 y3 y4 hltz
    go_loopw [3,5] (fun v i wr => ∃ i':Nat,i' ≤ pp ∧ i = .int .i64 (i':Int) ∧ Hid (Own wr W.heap.size v (FQ r i')) ∧ Hid (Below W.heap.size W wr)) (fun _ i _ => pp - (intOf i).toNat)
    case atStart => exact ⟨0,Nat.zero_le _,rfl,hO1,hbl⟩
    case round =>
     clear hO1 hbl
     obtain ⟨i,hi,rfl,hO,hbl⟩:=hrel
     obtain ⟨y0,y1,y2,y3,y4⟩:=hk1.out wr hbl.out
     by_cases hli:i < pp
     · have hliz:(i:Int) < (pp:Int):=by omega
       have hil:i < g.prods.length:=by rw [hpp.out];exact hli
       have hs:=t1.out r i hil
       have hL:=lQ.out r i
       have hR8:=hrl.out i hil
       obtain ⟨b,o,z1,z3,e,x0,x1,hN⟩:=hKp.out wr (bl_step hB.out hbl.out) i hil
       subst e
       have G2:=hid (refGone _ _ (FQ r i) g.prods[i].right wr (by omega) (by omega) (Nums.of_row hO.out) hN)
       have G1:=hid (numHas _ (FQ r i) g.prods[i].left wr (by omega) (Nums.of_row hO.out))
       clear hN hR8
       generalize goneB (FQ r i) g.prods[i].right = fb at *
       generalize g.prods[i].right.length = rl at *
       generalize g.prods[i].left = xl at *
       generalize (FQ r i).contains xl = cc1 at *
       cases fb with
       | false =>
        rw [Bool.false_and,if_neg (by decide)] at hs
        have hO9:=hid hO.out
        rw [← hs] at hO9
        clear hs hO G1
        go_wp2_with (go_at_call 27;refine G2.out.mono ?_;clear G2;rintro e w3 ⟨rfl,hc3⟩;subst w3)
        go_roundw
        case rel => exact ⟨i + 1,by omega,by go_num,hO9,hbl⟩
        case measure => simp [intOf];omega
       | true =>
        cases cc1 with
        | true =>
         rw [Bool.true_and,Bool.not_true,if_neg (by decide)] at hs
         have hO9:=hid hO.out
         rw [← hs] at hO9
         clear hs hO
         go_wp2_with (first
          | (go_at_call 27;refine G2.out.mono ?_;clear G2;rintro e w3 ⟨rfl,hc3⟩;subst w3)
          | (go_at_call 28;refine G1.out.mono ?_;clear G1;rintro e w3 ⟨rfl,hc3⟩;subst w3))
         go_roundw
         case rel => exact ⟨i + 1,by omega,by go_num,hO9,hbl⟩
         case measure => simp [intOf];omega
        | false =>
         rw [Bool.true_and,Bool.not_false,if_pos rfl] at hs
         have hs:=hid hs
         have hal:=al' wr (.cells #[.int .i64 xl] 3)
         have hOa:=hid (own_below hO.out hal)
         have hDa:=hid (Nums.of_row (Own.lit1 wr xl))
         have hBa:=hid (bl_step hbl.out hal)
         clear hO hal
         go_wp2_with (first
          | (go_at_call 27;refine G2.out.mono ?_;clear G2;rintro e w3 ⟨rfl,hc3⟩;subst w3)
          | (go_at_call 28;refine G1.out.mono ?_;clear G1;rintro e w3 ⟨rfl,hc3⟩;subst w3)
          | (at_builtin;refine wp_app _ rfl _ _ rfl W.heap.size (FQ r i) [xl] _ _ rfl rfl hOa.out hDa.out (by simp;omega) hBa.out.size ?_;intro v4 w4 hO4 hb4;have hO9:=hid hO4;have hb9:=hid (hBa.out.trans hb4);clear hO4 hb4))
         go_roundw
         case rel => exact ⟨i + 1,by omega,by go_num,hid (by rw [hs.out];exact hO9.out),hb9⟩
         case measure => simp [intOf];omega
     · have hliz:¬ (i:Int) < (pp:Int):=by omega
       obtain rfl:i = pp:=by omega
       have hO9:=hid hO.out
       rw [← q1.out] at hO9
       clear hO
       go_wp2
       go_roundw
       case rel => exact ⟨r + 1,by omega,by go_num,hO9,hbl⟩
       case measure => simp [intOf];omega
  · have hltz:¬ (r:Int) ≤ (nn:Int):=by omega
    obtain rfl:r = nn + 1:=by omega
    have hl9:=lN.out (nn + 1)
    have G:=hid (refOf _ (FN (nn + 1)) wr (by omega) (Nums.of_row hO.out))
    clear hO
    go_wp2_with (go_at_call 29;refine G.out.mono ?_;clear G;rintro e w5 ⟨v5,rfl,hO5,hc5⟩;have hO5:=hid hO5;have hc5:=hid hc5)
    go_ret
    exact ⟨_,rfl,⟨_,hO5.out⟩,bl_step hB.out (bl_step hbl.out hc5.out)⟩
end Go.Proofs.YtfhokapfkclckaaGreat
