/- Rows of slices that need not lie at their block's beginning: append to them. The reference of layer 15: Symbols, SameLists. The reference of layer 15: what Starts holds in memory. The reference of layer 15: Starts. -/
import Derived.Test.YtfhokapfkclckaaGreatK17
import Derived.ArgAppend
import Derived.Maps.AppendAt
import Derived.Deep.AppendLies
import Derived.Deep.LoopGhost
namespace Go.Proofs.YtfhokapfkclckaaGreat
open Go.RowKit Go.Maps Go.Sort
theorem Kept.setCells {F:Nat → Prop} {w:World} {b:Nat} (hb:b < w.heap.size → F b):∀ (vs:List Value) (o:Nat) {u:World},Kept F w u → Kept F w (u.setCells b o vs)
 | [],_,_,h => h
 | v :: r,o,_,h => Kept.setCells hb r (o + 1) (h.setCell (a:=⟨b,o,Option.none⟩) (v:=v) hb)
theorem heap_setCells {b:Nat} {T:TypeId} {fr:Nat × Nat}:∀ (vs:List Value) (o:Nat) (w:World) (cs:Array Value),w.heap[b]? = some (.cells cs T fr) → o + vs.length ≤ cs.size →
 ∃ cs',(w.setCells b o vs).heap[b]? = some (.cells cs' T fr) ∧ cs'.size = cs.size ∧ cs'.toList = cs.toList.take o ++ vs ++ cs.toList.drop (o + vs.length)
 | [],o,w,cs,h,hl => ⟨cs,h,rfl,by simp⟩
 | v :: r,o,w,cs,h,hl => by
  have hl':o + 1 + r.length ≤ (cs.setIfInBounds o v).size:=by simp at hl ⊢;omega
  obtain ⟨cs',h1,h2,h3⟩:=heap_setCells r (o + 1) (w.setCell ⟨b,o,none⟩ v) (cs.setIfInBounds o v) (heap_setCell h) hl'
  refine ⟨cs',h1,by simpa using h2,?_⟩
  have ho:o < cs.toList.length:=by simp at hl ⊢;omega
  rw [h3,Array.toList_setIfInBounds,List.drop_set_of_lt (by omega),List.take_succ_eq_append_getElem (by simpa using ho)]
  simp [List.take_set_of_le,Nat.add_comm]
  omega
theorem add_off (g o t:Nat):(⟨g,o,none⟩:Addr).add t = ⟨g,o + t,none⟩:=by
 unfold Addr.add
 by_cases h:t = 0
 · subst h;simp
 · simp [h]
set_option maxRecDepth 20000 in
theorem infoIs:(Tryz.prog.info? 30).map (fun i => (i.zero,i.size,i.bytes)) = some (some (.slice none 0 0),1,24):=by kernel_rfl
def rowS (w:World) (v:Value) (xs:List Value):Prop:=
 (v = .slice none 0 0 ∧ xs = []) ∨ ∃ g o cap cur,v = .slice (some ⟨g,o,none⟩) xs.length cap ∧ w.heap[g]? = some (.cells cur 30 (0,0)) ∧ xs.length ≤ cap ∧ cap ≤ maxLen ∧ o + cap ≤ cur.size ∧ (cur.toList.drop o).take xs.length = xs
theorem rowS.keep {w w':World} {v:Value} {xs:List Value} (h:rowS w v xs) (hb:∀ k,v.ownBlock = some k → w'.heap[k]? = w.heap[k]?):rowS w' v xs:=by
 rcases h with h | ⟨g,o,cap,cur,rfl,h2,h3⟩
 · exact .inl h
 · exact .inr ⟨g,o,cap,cur,rfl,(hb g rfl).trans h2,h3⟩
theorem rowS.lt {w:World} {v:Value} {xs:List Value} (h:rowS w v xs) {k:Nat} (e:v.ownBlock = some k):k < w.heap.size:=by
 rcases h with ⟨rfl,_⟩ | ⟨g,o,cap,cur,rfl,h2,h3⟩
 · cases e
 · simp [Value.ownBlock] at e
   subst e
   exact blk_lt h2
theorem rowS.form {w:World} {v:Value} {xs:List Value} (h:rowS w v xs):∃ a c,v = .slice a xs.length c:=by
 rcases h with ⟨rfl,rfl⟩ | ⟨g,o,cap,cur,rfl,h2,h3⟩
 · exact ⟨none,0,rfl⟩
 · exact ⟨_,_,rfl⟩
theorem rowS.first {w:World} {v x:Value} {xs:List Value} (h:rowS w v (x :: xs)):∃ g o cap,v = .slice (some ⟨g,o,none⟩) (xs.length + 1) (cap + 1) ∧ w.cell? ⟨g,o,none⟩ = some x ∧ rowS w (.slice (some ⟨g,o + 1,none⟩) xs.length cap) xs ∧ (xs = [] → rowS w (.slice (some ⟨g,o,none⟩) 0 0) []) ∧ xs.length ≤ cap:=by
 rcases h with ⟨_,h⟩ | ⟨g,o,cap,cur,rfl,h2,h3,h4,h5,h6⟩
 · cases h
 · rw [List.length_cons] at h3
   obtain ⟨cap,rfl⟩:∃ c,cap = c + 1:=⟨cap - 1,by omega⟩
   have h7:cur.toList.drop o = x :: cur.toList.drop (o + 1) ∧ (cur.toList.drop (o + 1)).take xs.length = xs:=by
    have hlt:o < cur.toList.length:=by rw [Array.length_toList];omega
    rw [List.drop_eq_getElem_cons hlt,List.length_cons,List.take_succ_cons] at h6
    injection h6 with a b
    rw [List.drop_eq_getElem_cons hlt,a]
    exact ⟨rfl,b⟩
   refine ⟨g,o,cap,rfl,blk_cell h2 ?_,.inr ⟨g,o + 1,cap,cur,rfl,h2,by omega,by omega,by omega,h7.2⟩,fun e => .inr ⟨g,o,0,cur,rfl,h2,Nat.le_refl _,by unfold maxLen;omega,by omega,by simp⟩,by omega⟩
   have:=congrArg (fun l => l[0]?) h7.1
   simp only [List.getElem?_drop,Nat.add_zero,List.getElem?_cons_zero] at this
   rw [← Array.getElem?_toList]
   exact this
set_option maxRecDepth 20000 in
set_option maxHeartbeats 1000000 in
theorem run_append_rowS (w:World) (ty:TypeId) (v:Value) (xs:List Value) (x:Value) (h:rowS w v xs) (h1x:x.oneCell' = true) (ad:Addr) (hn:w.cell? ad = some x) (hl:xs.length ≤ 1000) :
 ∃ g o cap w',(Builtin.append_ #[36,36] ty #[v,.slice (some ad) 1 1]).run Tryz.prog w = .ok (.slice (some ⟨g,o,none⟩) (xs.length + 1) cap) w' ∧
  rowS w' (.slice (some ⟨g,o,none⟩) (xs.length + 1) cap) (xs ++ [x]) ∧ w.grownBy w' v.ownBlock ∧ (v.ownBlock = some g ∨ g = w.heap.size) ∧ g < w'.heap.size:=by
 obtain ⟨i0,hi,hz0,hz1,hz2⟩:=info_parts infoIs
 have hnews:∀ j u,[x][j]? = some u → w.cell? (ad.add j) = some u:=by
  intro j u hu
  match j,hu with
  | 0,hu => simp at hu;subst hu;simpa [Addr.add] using hn
 have lies:∀ (w':World) (g cap:Nat),w'.ownsRow 0 30 1 (.slice (some ⟨g,0,none⟩) (xs.length + 1) cap) (xs.length + 1) (xs ++ [x]) → rowS w' (.slice (some ⟨g,0,none⟩) (xs.length + 1) cap) (xs ++ [x]):=by
  intro w' g cap ho
  rcases ho.2 with ⟨h1,_⟩ | ⟨g',cap',cur,h1,_,h3,h4,h5,h6,h7⟩
  · cases h1
  · cases h1
    refine .inr ⟨g,0,cap,cur,by simp,h3,by simpa using h4,h5,by omega,?_⟩
    rw [List.drop_zero,List.length_append,List.length_singleton]
    rw [Nat.mul_one] at h7
    exact h7
 rcases h with ⟨rfl,rfl⟩ | ⟨g,o,cap,cur,rfl,h2,h3,h4,h5,h6⟩
 · obtain ⟨g,cap,w',hr,ho,hg,ha,hlt⟩:=run_append_lies (P:=Tryz.prog) w 36 ty 0 30 i0 (.slice none 0 0) 1 24 Tryz.underlying36 hi hz0 hz1 hz2 rfl (by decide) (.slice none 0 0) 0 [] (World.ownsRow_nil _ _ _ _) ad 1 1 [x] rfl hnews (by intro u hu;simp at hu;subst hu;exact h1x) (by omega) (by unfold maxLen;omega) (by omega) (Nat.zero_le _) w.heap.size rfl
   refine ⟨g,0,cap,w',hr,lies w' g cap ho,hg,?_,hlt⟩
   rcases ha with e | e
   · cases e
   · exact .inr e
 · by_cases hroom:xs.length + 1 ≤ cap
   · have hr:=run_append_room_cells (P:=Tryz.prog) w 36 ty 30 i0 Tryz.underlying36 hi g o xs.length cap ad 1 1 [x] (by rw [hz1];rfl) hnews (by intro u hu;simp at hu;subst hu;exact h1x) hroom (by
      intro j hj
      have hj0:j = 0:=by simpa using hj
      subst hj0
      rw [hz1,Nat.mul_one,blk_cell h2 (Array.getElem?_eq_getElem (show o + xs.length + 0 < cur.size by omega))];rfl) (fun j _ => blk_frozen h2 _)
     rw [hz1,Nat.mul_one] at hr
     obtain ⟨cs',g1,z1,l1⟩:=heap_setCells [x] (o + xs.length) w cur h2 (by simp;omega)
     refine ⟨g,o,cap,_,hr,.inr ⟨g,o,cap,cs',by simp,g1,by simpa using hroom,h4,by omega,?_⟩,?_,.inl rfl,?_⟩
     · have e1:(cur.toList.take (o + xs.length)).drop o = xs:=by
        rw [List.drop_take,show o + xs.length - o = xs.length by omega]
        exact h6
       have hlen:(cur.toList.take (o + xs.length)).length = o + xs.length:=by
        have hcl:cur.toList.length = cur.size:=Array.length_toList
        rw [List.length_take];omega
       rw [l1,List.append_assoc,List.drop_append_of_le_length (by omega),e1,List.length_append,List.length_singleton,← List.append_assoc,List.take_append_of_le_length (by simp),List.take_of_length_le (by simp)]
     · have K:=Kept.setCells (F:=oneBlk g) (w:=w) (b:=g) (fun _ => rfl) [x] (o + xs.length) (Kept.refl (oneBlk g) w)
       exact ⟨K.os,K.tape,K.output,K.size,fun k hk hne => K.block k hk (fun e => hne (congrArg some e))⟩
     · have K:=Kept.setCells (F:=oneBlk g) (w:=w) (b:=g) (fun _ => rfl) [x] (o + xs.length) (Kept.refl (oneBlk g) w)
       exact Nat.lt_of_lt_of_le (blk_lt h2) K.size
   · have hc:∀ j u,xs[j]? = some u → w.cell? ((⟨g,o,none⟩:Addr).add j) = some u:=by
      intro j u hu
      rw [add_off]
      refine blk_cell h2 ?_
      have hj:j < xs.length:=(List.getElem?_eq_some_iff.1 hu).1
      have e:=congrArg (fun l => l[j]?) h6
      simp only [List.getElem?_take,if_pos hj,List.getElem?_drop] at e
      rw [Array.getElem?_toList] at e
      rw [e];exact hu
     obtain ⟨v',w',hr,ho,hg⟩:=run_append_arg_grows (P:=Tryz.prog) w 36 ty 30 i0 (.slice none 0 0) 1 24 Tryz.underlying36 hi hz0 hz1 hz2 rfl (by decide) ⟨g,o,none⟩ xs.length cap xs (by simp) hc ad 1 1 [x] rfl hnews (by omega) (by unfold maxLen;omega) (by omega)
     obtain ⟨g',cap',rfl,hge,hlt⟩:=ho.form (by omega)
     have hsz:g' = w.heap.size:=by
      have hgr:=hg.size
      rcases Nat.lt_or_ge w.heap.size g' with h | h
      · exfalso
        have k:=hr
        rw [run_append_grow (P:=Tryz.prog) w 36 ty 30 i0 (.slice none 0 0) Tryz.underlying36 hi hz0 ⟨g,o,none⟩ xs.length cap xs (by rw [hz1];simp) hc ad 1 1 [x] (by rw [hz1];rfl) hnews (by omega) (by omega) (growslice_fits (by omega) (by rw [hz2];omega))] at k
        injection k with k1 k2
        injection k1 with k3
        injection k3 with k4
        injection k4 with k5
        omega
      · omega
     refine ⟨g',0,cap',w',hr,lies w' g' cap' (own_base ho (Nat.zero_le _)),⟨hg.os,hg.tape,hg.output,hg.size,fun k hk _ => hg.block k hk (by simp)⟩,.inr hsz,hlt⟩
def Lst15 (w:World) (v:Value) (ls:List (List Int)):Prop:=∃ a c,v = .slice a ls.length c ∧ ∀ k (hk:k < ls.length),∃ b o x,a = some ⟨b,o,none⟩ ∧ w.cell? ⟨b,o + k,none⟩ = some x ∧ Nums w x ls[k]
set_option maxRecDepth 20000 in
set_option maxHeartbeats 4000000 in
theorem refSameLists (v v':Value) (ls ls':List (List Int)) (w:World) (hA:Lst15 w v ls) (hB:Lst15 w v' ls') (hl:ls.length ≤ 1000000) (hl':ls'.length ≤ 1000000) (hs:∀ l ∈ ls,l.length ≤ 1000000) (hs':∀ l ∈ ls',l.length ≤ 1000000) :
 Calls Tryz.prog 18 #[v,v'] w fun e w' => e = .returned (.bool (decide (ls = ls'))) ∧ Below w.heap.size w w':=by
 obtain ⟨a,c,rfl,hA⟩:=hA
 obtain ⟨a',c',rfl,hB⟩:=hB
 have hlen:ls.length ≠ ls'.length → decide (ls = ls') = false:=fun h => decide_eq_false (fun e => h (by rw [e]))
 have hdif:Hid (∀ k (h:k < ls.length) (h':k < ls'.length),ls[k] ≠ ls'[k] → decide (ls = ls') = false):=hid (fun k h h' hne => decide_eq_false (fun e => hne (by subst e;rfl)))
 have hsam:Hid (ls.length = ls'.length → (∀ k (h:k < ls.length) (h':k < ls'.length),ls[k] = ls'[k]) → decide (ls = ls') = true):=hid (fun h1 h2 => decide_eq_true (List.ext_getElem h1 h2))
 replace hA:=hid hA
 replace hB:=hid hB
 replace hs:=hid (fun k (hk:k < ls.length) => hs _ (List.getElem_mem hk))
 replace hs':=hid (fun k (hk:k < ls'.length) => hs' _ (List.getElem_mem hk))
 obtain ⟨R,hR⟩:∃ x,decide (ls = ls') = x:=⟨_,rfl⟩
 rw [hR] at hlen hdif hsam ⊢
 clear hR
 by_cases e:ls.length = ls'.length
 · obtain ⟨n,hn⟩:∃ x,Hid (ls.length = x):=⟨_,hid rfl⟩
   have hn':Hid (ls'.length = n):=hid (by rw [← e];exact hn.out)
   rw [hn.out] at hl ⊢
   rw [hn'.out] at hl' ⊢
   have e:=hid e
   clear hlen hl'
   go_enter Tryz.func18,Tryz.ntmps18
   go_wp2
   go_loopw [5] (fun i wr => ∃ k:Nat,k ≤ n ∧ i = .int .i64 (k:Int) ∧ Hid (∀ j (h:j < ls.length) (h':j < ls'.length),j < k → ls[j] = ls'[j]) ∧ Hid (Below w.heap.size w wr)) (fun i _ => n - (intOf i).toNat)
   case atStart => exact ⟨0,Nat.zero_le _,rfl,hid (fun _ _ _ h => absurd h (Nat.not_lt_zero _)),hid (Below.refl _ _)⟩
   case round =>
    obtain ⟨k,hk,rfl,hG,hbl⟩:=hrel
    by_cases hlt:k < n
    · have hltz:(k:Int) < (n:Int):=by omega
      have hkl:k < ls.length:=by rw [hn.out];exact hlt
      have hkl':k < ls'.length:=by rw [hn'.out];exact hlt
      obtain ⟨b,o,x,rfl,x1,x2⟩:=hA.out k hkl
      obtain ⟨b',o',x',rfl,x1',x2'⟩:=hB.out k hkl'
      have d1:=hs.out k hkl
      have d2:=hs'.out k hkl'
      have G:=hid (fun u (hu:Below w.heap.size w u) => refSame x x' ls[k] ls'[k] u (by omega) (by omega) (x2.keep hu) (x2'.keep hu))
      have hnk:=hid (hdif.out k hkl hkl')
      have hs9:Hid (ls[k] = ls'[k] → ∀ j (h:j < ls.length) (h':j < ls'.length),j < k + 1 → ls[j] = ls'[j]):=hid (fun h1 j h h' h3 => by
       rcases Nat.lt_or_ge j k with h8 | h8
       · exact hG.out j h h' h8
       · obtain rfl:j = k:=by omega
         exact h1)
      obtain ⟨c1,c2,rfl,-⟩:=x2
      obtain ⟨c1',c2',rfl,-⟩:=x2'
      have f1:=cell_regrown (keep_cell hbl.out x1)
      have f2:=cell_regrown (keep_cell hbl.out x1')
      clear hdif hsam hA hB hs hs' hG x1 x1'
      generalize ls[k] = l at *
      generalize ls'[k] = l' at *
      have cS:Hid (∀ d os,Calls Tryz.prog 12 #[.slice c1 l.length c2,.slice c1' l'.length c2'] (grow (redrawn wr d) os) fun e w'' => e = .returned (.bool (decide (l = l'))) ∧ ∃ p:Regrown,w'' = grow (redrawn wr p.d) p.os):=hid (fun d os => Calls.regrown_of (G.out _ (bl_step hbl.out (below_regrown wr d os))))
      clear G d1 d2
      generalize l.length = n1 at *
      generalize l'.length = n2 at *
      by_cases q:l = l'
      · have hs9:=hid (hs9.out q)
        rw [decide_eq_true q] at cS
        clear hnk q
        go_wp2_with fail
        refine wp_region_quiet_below (by kernel_rfl) (by kernel_rfl) ?_
        repeat (first | go_big_quiet_step (with_reducible exact cS.out _ _) | quiet_step (with_reducible exact cS.out _ _))
        refine wpQuiet_nil ?_
        intro _ hw'
        obtain ⟨⟨dq,osq⟩,hw''⟩:=hw'
        subst hw''
        have hq:=hid (bl_step hbl.out (below_regrown wr dq osq))
        generalize grow (redrawn wr dq) osq = w2 at *
        go_wp2
        go_roundw
        case rel => exact ⟨k + 1,by omega,by go_num,hs9,hq⟩
        case measure => simp [intOf];omega
      · obtain rfl:R = false:=hnk.out q
        rw [decide_eq_false q] at cS
        clear hs9 hnk q
        go_wp2_with fail
        refine wp_region_quiet_below (by kernel_rfl) (by kernel_rfl) ?_
        repeat (first | go_big_quiet_step (with_reducible exact cS.out _ _) | quiet_step (with_reducible exact cS.out _ _))
        refine wpQuiet_nil ?_
        intro _ hw'
        obtain ⟨⟨dq,osq⟩,hw''⟩:=hw'
        subst hw''
        have hq:=hid (bl_step hbl.out (below_regrown wr dq osq))
        generalize grow (redrawn wr dq) osq = w2 at *
        go_wp2
        go_ret
        exact ⟨rfl,hq.out⟩
    · have hltz:¬ (k:Int) < (n:Int):=by omega
      obtain rfl:R = true:=hsam.out e.out (fun j h h' => hG.out j h h' (by rw [hn.out] at h;omega))
      clear hA hB hG hdif hsam hs hs'
      go_wp2
      go_ret
      exact ⟨rfl,hbl.out⟩
 · obtain rfl:=hlen e
   have ez:((ls.length:Int) == (ls'.length:Int)) = false:=by rw [beq_eq_false_iff_ne];omega
   clear hA hB hdif hsam hs hs'
   generalize ls.length = n1 at *
   generalize ls'.length = n2 at *
   go_enter Tryz.func18,Tryz.ntmps18
   go_wp2
   go_ret
   exact ⟨rfl,Below.refl _ _⟩
end Go.Proofs.YtfhokapfkclckaaGreat
namespace Go.Proofs.YtfhokapfkclckaaGreat
open Go.RowKit Go.Maps Go.Sort
set_option maxRecDepth 20000 in
theorem wp_run15 {ops:Array Oper} {rest:List Oper} {o:Oper} {a:Act} {Q:Exit → Act → World → Prop} (w:World) (hgd:o.guard = none) (s x:Operand) (t:TypeId)
 (ho:o.op = .call { callee:=.builtin .append,args:=#[s,x],argTypes:=#[t,t] }) (v vx:Value) (hs:a.eval s = v) (hx:a.eval x = vx) {v':Value} {w':World}
 (hr:(Builtin.append_ #[t,t] o.type #[v,vx]).run Tryz.prog w = .ok v' w') (h:wpList Tryz.prog ops Q rest (a.put o.dst v') w'):wpList Tryz.prog ops Q (o :: rest) a w:=by
 refine wpList_plain hgd fun K hK => ?_
 unfold Oper.wp execOp
 simp only [ho,resolve,invoke,builtin,Sem.run_bind,Sem.run_pure,Result.andThen_ok,List.map_toArray,List.map_cons,List.map_nil,hs,hx,hr]
 exact hK _ _ h
theorem slice_of_row {w:World} {B n sz:Nat} {e:TypeId} {v:Value} {xs:List Value} (h:w.ownsRow B e sz v n xs) (h0:0 < n):∃ g c,v = .slice (some ⟨g,0,none⟩) n c:=by
 rcases h.2 with ⟨_,e0⟩ | ⟨g,cap,cur,e,_⟩
 · omega
 · exact ⟨g,cap,e⟩
def NumsL (W:World):List Value → List (List Int) → Prop
 | [],[] => True
 | x :: xs,l :: ls => (Nums W x l ∧ l.length ≤ 1000000) ∧ NumsL W xs ls
 | [],_ :: _ => False
 | _ :: _,[] => False
theorem NumsL.len {W:World}:∀ {xs:List Value} {ls:List (List Int)},NumsL W xs ls → xs.length = ls.length
 | [],[],_ => rfl
 | _ :: xs,_ :: ls,h => by rw [List.length_cons,List.length_cons,NumsL.len (xs:=xs) h.2]
 | [],_ :: _,h => h.elim
 | _ :: _,[],h => h.elim
theorem NumsL.add {W:World} {x:Value} {l:List Int} (hx:Nums W x l ∧ l.length ≤ 1000000):∀ {xs:List Value} {ls:List (List Int)},NumsL W xs ls → NumsL W (xs ++ [x]) (ls ++ [l])
 | [],[],_ => ⟨hx,trivial⟩
 | _ :: _,_ :: _,h => ⟨h.1,NumsL.add hx h.2⟩
 | [],_ :: _,h => h.elim
 | _ :: _,[],h => h.elim
theorem Nums.one {w:World} {v:Value} {l:List Int} (h:Nums w v l):v.oneCell' = true:=by
 obtain ⟨a,c,rfl,-⟩:=h
 rfl
structure StV (W u:World) (vo vt:Value) (s:StS):Prop where
 out:Own u W.heap.size vo s.out
 todo:∃ xs:List Value,rowS u vt xs ∧ NumsL W xs s.todo
 low:Below W.heap.size W u
 tlo:∀ k,vt.ownBlock = some k → W.heap.size ≤ k
 dis:∀ k,vo.ownBlock = some k → vt.ownBlock ≠ some k
section
variable {W u:World} {vo vt:Value} {s:StS}
theorem StV.keep (h:StV W u vo vt s) {u':World} (hb:Below u.heap.size u u'):StV W u' vo vt s:=by
 obtain ⟨xs,h1,h2⟩:=h.todo
 exact ⟨own_below h.out hb,⟨xs,h1.keep (fun k hk => hb.block k (h1.lt hk)),h2⟩,bl_step h.low hb,h.tlo,h.dis⟩
theorem StV.form (h:StV W u vo vt s):∃ a c,vt = .slice a s.todo.length c:=by
 obtain ⟨xs,h1,h2⟩:=h.todo
 obtain ⟨a,c,e⟩:=h1.form
 exact ⟨a,c,by rw [e,h2.len]⟩
set_option maxRecDepth 20000 in
theorem StV.addO (h:StV W u vo vt s) (x:Int) (hn:s.out.length ≤ 100000) :
 ∃ g cap u',(Builtin.append_ #[30,30] 30 #[vo,.slice (some ⟨u.heap.size,0,none⟩) 1 1]).run Tryz.prog (u.alloc (.cells #[.int .i64 x] 3)) = .ok (.slice (some ⟨g,0,none⟩) (s.out.length + 1) cap) u' ∧ StV W u' (.slice (some ⟨g,0,none⟩) (s.out.length + 1) cap) vt ⟨s.out ++ [x],s.todo⟩:=by
 obtain ⟨i0,hi,hz0,hz1,hz2⟩:=info_parts Tryz.info3
 have ha:=h.keep (al' u (.cells #[.int .i64 x] 3))
 obtain ⟨v',u',hap,hown,hgr,hnil,hloc⟩:=run_append_own_at (P:=Tryz.prog) (u.alloc (.cells #[.int .i64 x] 3)) W.heap.size 30 30 3 i0 (.int .i64 0) 1 8 Tryz.underlying30 hi hz0 hz1 hz2 rfl (by decide) _ _ _ ha.out ⟨u.heap.size,0,none⟩ 1 1 [.int .i64 x] rfl (World.news_of_block (heap_new u (.cells #[.int .i64 x] 3))) (by simp [Value.oneCell']) (by unfold maxLen;omega) (by omega) ha.low.size
 obtain ⟨g,cap,e⟩:=slice_of_row hown (Nat.succ_pos _)
 subst e
 obtain ⟨xs,h1,h2⟩:=ha.todo
 refine ⟨g,cap,u',hap,?_,⟨xs,h1.keep (fun k hk => hgr.block k (h1.lt hk) (fun e => ha.dis k e.symm hk)),h2⟩,ha.low.grown hgr ha.low.size (fun j hj => (ha.out.lt j hj).1),ha.tlo,?_⟩
 · show Own u' W.heap.size _ (s.out ++ [x])
   unfold Own
   rw [numCells_snoc,List.length_append]
   exact hown
 · intro k hk e
   rcases hloc with h9 | h9
   · rw [h9] at hk
     exact ha.dis k hk e
   · rw [h9] at hk
     injection hk with hk
     have:=h1.lt e
     omega
set_option maxRecDepth 20000 in
theorem StV.addT (h:StV W u vo vt s) (ty:TypeId) (v:Value) (l:List Int) (hv:Nums W v l) (hvl:l.length ≤ 1000000) (hn:s.todo.length ≤ 1000) :
 ∃ g o cap u',(Builtin.append_ #[36,36] ty #[vt,.slice (some ⟨u.heap.size,0,none⟩) 1 1]).run Tryz.prog (u.alloc (.cells #[v] 30)) = .ok (.slice (some ⟨g,o,none⟩) (s.todo.length + 1) cap) u' ∧ StV W u' vo (.slice (some ⟨g,o,none⟩) (s.todo.length + 1) cap) ⟨s.out,s.todo ++ [l]⟩:=by
 have ha:=h.keep (al' u (.cells #[v] 30))
 obtain ⟨xs,h1,h2⟩:=ha.todo
 obtain ⟨g,o,cap,u',hr,hrow,hgr,hat,hlt⟩:=run_append_rowS (u.alloc (.cells #[v] 30)) ty vt xs v h1 hv.one ⟨u.heap.size,0,none⟩ (blk_cell (heap_new u (.cells #[v] 30)) rfl) (by rw [h2.len];exact hn)
 rw [h2.len] at hr hrow
 refine ⟨g,o,cap,u',hr,own_keep ha.out (fun k hk => hgr.block k (ha.out.lt k hk).2 (fun e => ha.dis k hk e.symm)),⟨_,hrow,h2.add ⟨hv,hvl⟩⟩,ha.low.grown hgr ha.low.size (fun j hj => ha.tlo j hj),?_,?_⟩
 · intro k hk
   have e:g = k:=by injection hk
   subst e
   rcases hat with h9 | h9
   · exact ha.tlo g h9
   · have:=ha.low.size
     omega
 · intro k hk e
   have e:g = k:=by injection e
   subst e
   rcases hat with h9 | h9
   · exact ha.dis g hk h9
   · have:=(ha.out.lt g hk).2
     omega
theorem StV.pop {out t:List Int} {r:List (List Int)} (h:StV W u vo vt ⟨out,t :: r⟩):∃ g o cap x,vt = .slice (some ⟨g,o,none⟩) (r.length + 1) (cap + 1) ∧ u.cell? ⟨g,o,none⟩ = some x ∧ Nums W x t ∧ t.length ≤ 1000000 ∧ r.length ≤ cap ∧
 StV W u vo (.slice (some ⟨g,o + 1,none⟩) r.length cap) ⟨out,r⟩ ∧ (r = [] → StV W u vo (.slice (some ⟨g,o,none⟩) 0 0) ⟨out,r⟩):=by
 obtain ⟨xs,h1,h2⟩:=h.todo
 have hlo:=h.tlo
 have hdi:=h.dis
 cases xs with
 | nil => exact h2.elim
 | cons x xs =>
  obtain ⟨g,o,cap,rfl,hc,hr1,hr2,hle⟩:=h1.first
  have hlen:=NumsL.len h2.2
  rw [hlen] at hr1 hle ⊢
  refine ⟨g,o,cap,x,rfl,hc,h2.1.1,h2.1.2,hle,⟨h.out,⟨xs,hr1,h2.2⟩,h.low,hlo,hdi⟩,fun e => ⟨h.out,⟨[],?_,?_⟩,h.low,hlo,hdi⟩⟩
  · subst e
    exact hr2 (List.eq_nil_of_length_eq_zero hlen)
  · subst e
    exact trivial
end
end Go.Proofs.YtfhokapfkclckaaGreat
namespace Go.Proofs.YtfhokapfkclckaaGreat
open Go.RowKit Go.Maps Go.Sort
def rgtK (g:Gm) (n:Int) (q:Nat):List (List Int):=((g.prods.take q).filter fun p => p.left == n).map Pd.right
theorem rgtK_all (g:Gm) (n:Int):rgtK g n g.prods.length = rgtS g n:=by
 unfold rgtK rgtS
 rw [List.take_length]
theorem rgtK_yes {g:Gm} {n:Int} {q:Nat} (hq:q < g.prods.length) (h:g.prods[q].left = n):rgtK g n (q + 1) = rgtK g n q ++ [g.prods[q].right]:=by
 unfold rgtK
 rw [List.take_succ_eq_append_getElem hq,List.filter_append,List.map_append,List.filter_cons,if_pos (by simpa using h)]
 rfl
theorem rgtK_no {g:Gm} {n:Int} {q:Nat} (hq:q < g.prods.length) (h:g.prods[q].left ≠ n):rgtK g n (q + 1) = rgtK g n q:=by
 unfold rgtK
 rw [List.take_succ_eq_append_getElem hq,List.filter_append,List.map_append,List.filter_cons,if_neg (by simpa using h)]
 exact List.append_nil _
theorem rgtK_len (g:Gm) (n:Int) (q:Nat):(rgtK g n q).length ≤ q:=by
 unfold rgtK
 rw [List.length_map]
 exact Nat.le_trans (List.length_filter_le _ _) (by rw [List.length_take];omega)
theorem stA_len (g:Gm) (s:StS) (n:Int):s.out.length ≤ (stA g s n).out.length:=by
 unfold stA
 split
 · exact Nat.le_refl _
 · show s.out.length ≤ (s.out ++ [n]).length
   rw [List.length_append]
   omega
theorem stT_len (g:Gm) (null:List Int):∀ (t:List Int) (s:StS),s.out.length ≤ (stT g null t s).out.length
 | [],_ => Nat.le_refl _
 | n :: r,s => by
  unfold stT
  split
  · exact Nat.le_trans (stA_len g s n) (stT_len g null r _)
  · exact stA_len g s n
theorem stN_len (g:Gm) (null:List Int):∀ (f:Nat) (s:StS),s.out.length ≤ (stN g null f s).out.length
 | 0,_ => Nat.le_refl _
 | f + 1,s => by
  unfold stN
  split
  · exact Nat.le_refl _
  · rename_i t r e
    exact Nat.le_trans (stT_len g null t ⟨s.out,r⟩) (stN_len g null f _)
theorem stM_todo (g:Gm) (s:StS):s.todo.length ≤ stM g s:=Nat.le_add_right _ _
theorem stN_nil (g:Gm) (null:List Int) (out:List Int):∀ f,stN g null f ⟨out,[]⟩ = ⟨out,[]⟩
 | 0 => rfl
 | _ + 1 => rfl
theorem stN_cons {g:Gm} {null out t:List Int} {r:List (List Int)} {f:Nat} {F:StS} (h1:stM g ⟨out,t :: r⟩ ≤ f) (h2:stN g null f ⟨out,t :: r⟩ = F):∃ f',f = f' + 1 ∧ stM g (stT g null t ⟨out,r⟩) ≤ f' ∧ stN g null f' (stT g null t ⟨out,r⟩) = F:=by
 have h3:r.length + 1 ≤ f:=Nat.le_trans (stM_todo g ⟨out,t :: r⟩) h1
 obtain ⟨f',rfl⟩:∃ f',f = f' + 1:=⟨f - 1,by omega⟩
 refine ⟨f',rfl,?_,h2⟩
 rw [stT_meas]
 unfold stM at h1 ⊢
 have e:(t :: r).length = r.length + 1:=rfl
 have h4:(t :: r).length + (g.prods.filter fun p => !out.contains p.left).length ≤ f' + 1:=h1
 show r.length + (g.prods.filter fun p => !out.contains p.left).length ≤ f'
 omega
theorem stT_at {g:Gm} {null t:List Int} {k:Nat} {s F:StS} (hk:k < t.length) (h:stT g null (t.drop k) s = F):(null.contains t[k] = true → stT g null (t.drop (k + 1)) (stA g s t[k]) = F) ∧ (null.contains t[k] = false → stA g s t[k] = F):=by
 rw [List.drop_eq_getElem_cons hk] at h
 refine ⟨fun e => ?_,fun e => ?_⟩
 · rw [← h]
   conv => rhs;unfold stT
   rw [if_pos e]
 · rw [← h]
   conv => rhs;unfold stT
   rw [if_neg (by rw [e];decide)]
theorem stA_yes {g:Gm} {s:StS} {n:Int} (h:s.out.contains n = true):stA g s n = s:=by
 unfold stA
 rw [if_pos h]
theorem stA_no {g:Gm} {s:StS} {n:Int} (h:s.out.contains n = false):stA g s n = ⟨s.out ++ [n],s.todo ++ rgtK g n g.prods.length⟩:=by
 unfold stA
 rw [if_neg (by rw [h];decide),rgtK_all]
set_option maxRecDepth 20000 in
set_option maxHeartbeats 1000000 in
theorem refStarts (g:Gm) (rv nv lv pv vn vt:Value) (null t:List Int) (w:World) (hV:GmV w rv nv lv pv g) (hp:g.prods.length ≤ 400) (hr:∀ p ∈ g.prods,p.right.length ≤ 1000000) (hln:null.length ≤ 1000000) (hlt:t.length ≤ 1000000) (hnu:Nums w vn null) (htx:Nums w vt t) (hbig:(begS g null t).out.length ≤ 100000) :
 Calls Tryz.prog 35 #[gmA rv nv lv pv g.start,vn,vt] w fun e w' => ∃ v,e = .returned v ∧ Own w' w.heap.size v (begS g null t).out ∧ Below w.heap.size w w':=by
 obtain ⟨pa,pc,rfl⟩:=hV.prods.shape
 have hB1:=al' w (.cells #[rv,nv,lv,.slice pa g.prods.length pc,.int .i64 g.start] 27)
 have k1:=heap_new w (.cells #[rv,nv,lv,.slice pa g.prods.length pc,.int .i64 g.start] 27)
 obtain ⟨W,hW⟩:∃ x,w.alloc (.cells #[rv,nv,lv,.slice pa g.prods.length pc,.int .i64 g.start] 27) = x:=⟨_,rfl⟩
 rw [hW] at hB1 k1
 have hk1:=hid (fun u (hu:Below W.heap.size W u) => cells5m (hs_keep k1 hu))
 have hB:=hid hB1
 have hKp:Hid (∀ k (hk:k < g.prods.length),∃ b o q1 q3,pa = some ⟨b,o,none⟩ ∧ (∀ u,Below W.heap.size W u → u.cell? ⟨b,o + k * 3,none⟩ = some (.int .i64 g.prods[k].left) ∧ u.cell? ⟨b,o + k * 3 + 1,none⟩ = some (.slice q1 g.prods[k].right.length q3)) ∧ Nums W (.slice q1 g.prods[k].right.length q3) g.prods[k].right):=hid (fun k hk => by
  obtain ⟨b,o,e,-,hx⟩:=(hV.keep hB1).prods.at hk
  obtain ⟨v,x0,x1,x2,hN⟩:=hx
  have hN2:=hN
  obtain ⟨q1,q3,rfl,_⟩:=hN2
  exact ⟨b,o,q1,q3,e,fun u hu => ⟨keep_cell hu x0,keep_cell hu x1⟩,hN⟩)
 have hnW:=hid (hnu.keep hB1)
 have htW:=htx.keep hB1
 obtain ⟨ta,tc,rfl,-⟩:=htx
 obtain ⟨na,nc,rfl,-⟩:=hnu
 have hS0:StV W W (.slice none 0 0) (.slice none 0 0) ⟨[],[]⟩:=⟨World.ownsRow_nil _ _ _ _,⟨[],.inl ⟨rfl,rfl⟩,trivial⟩,Below.refl _ _,fun k h => (by cases h),fun k h => (by cases h)⟩
 obtain ⟨g1,o1,c1,u1,hap1,hS1⟩:=hS0.addT 36 (.slice ta t.length tc) t htW hlt (Nat.zero_le _)
 simp only [List.length_nil,Nat.zero_add,List.nil_append] at hap1 hS1
 replace hS1:=hid hS1
 obtain ⟨FIN,hFIN⟩:∃ x,begS g null t = x:=⟨_,rfl⟩
 have hf1:Hid (stM g ⟨[],[t]⟩ ≤ 1 + g.prods.length ∧ stN g null (1 + g.prods.length) ⟨[],[t]⟩ = FIN):=hid ⟨by
  unfold stM
  have h1:=List.length_filter_le (fun p:Pd => !([]:List Int).contains p.left) g.prods
  show 1 + (g.prods.filter fun p:Pd => !([]:List Int).contains p.left).length ≤ 1 + g.prods.length
  omega,hFIN⟩
 rw [hFIN] at hbig ⊢
 clear hFIN hS0 hV hB1 k1 htW
 obtain ⟨pn,hpn⟩:∃ n,Hid (g.prods.length = n):=⟨_,hid rfl⟩
 rw [hpn.out] at hp hW hk1 hf1 ⊢
 obtain ⟨st,hst⟩:∃ n,Hid (g.start = n):=⟨_,hid rfl⟩
 rw [hst.out] at hk1 hW ⊢
 obtain ⟨nln,hnln⟩:∃ n,Hid (null.length = n):=⟨_,hid rfl⟩
 rw [hnln.out] at hln hnW ⊢
 generalize t.length = tln at *
 go_enter Tryz.func35,Tryz.ntmps35
 go_wp2_with (at_builtin;refine wp_run15 _ rfl _ _ _ rfl _ _ rfl rfl hap1 ?_;clear hap1)
 clear hW
 go_loopg [7,8] (1 + pn) (fun f vo vt wr => ∃ s:StS,Hid (StV W wr vo vt s) ∧ Hid (f ≤ 1 + pn ∧ stM g s ≤ f ∧ stN g null f s = FIN))
 case atStart => exact ⟨_,hS1,hid ⟨Nat.le_refl _,hf1.out⟩⟩
 case round =>
  clear hS1 hf1
  obtain ⟨s,hS,hf⟩:=hrel
  obtain ⟨out,todo⟩:=s
  cases todo with
  | nil =>
   obtain ⟨va,vc,rfl⟩:=hS.out.form
   have hF:FIN = ⟨out,[]⟩:=by rw [← hf.out.2.2];exact stN_nil g null out gk
   subst hF
   clear hf
   go_wp2
   go_ret
   exact ⟨_,rfl,own_base hS.out.out hB.out.size,bl_step hB.out hS.out.low⟩
  | cons t1 r =>
   obtain ⟨f',hf',hm,hfin⟩:=stN_cons hf.out.2.1 hf.out.2.2
   have hfb:f' ≤ pn:=by have:=hf.out.1;omega
   obtain ⟨g0,o0,cap,x,rfl,hc,hNx,hNl,hle,hS1,hS2⟩:=hS.out.pop
   have hbl:=hid hS.out.low
   obtain ⟨xa,xc,rfl,hNy⟩:=id hNx
   have hat:Hid (∀ u,Below W.heap.size W u → ∀ k (hk:k < t1.length),∃ b o,xa = some ⟨b,o,none⟩ ∧ u.cell? ⟨b,o + k,none⟩ = some (.int .i64 t1[k])):=hid (fun u hu k hk => by
    obtain ⟨b,o,e,-,hc⟩:=hNy.2.2 k hk
    exact ⟨b,o,e,keep_cell hu hc⟩)
   obtain ⟨F,hF⟩:∃ y,stT g null (t1.drop 0) ⟨out,r⟩ = y:=⟨_,rfl⟩
   rw [List.drop_zero] at hF
   rw [hF] at hm hfin
   have hFb:=hid (Nat.le_trans (stN_len g null f' F) (by rw [hfin];exact hbig))
   have hF:=hid hF
   have hm:=hid hm
   have hfin:=hid hfin
   obtain ⟨tn,htn⟩:∃ y,Hid (t1.length = y):=⟨_,hid rfl⟩
   rw [htn.out] at hc hNl
   obtain ⟨rl,hrl⟩:∃ y,Hid (r.length = y):=⟨_,hid rfl⟩
   rw [hrl.out] at hle hS1 ⊢
   have h01:(0:Int) < (rl:Int) + 1:=by omega
   have hS3:Hid (cap = 0 → StV W wr u7 (.slice (some ⟨g0,o0,none⟩) rl 0) ⟨out,r⟩):=hid (fun e => by
    have h9:=hS2 (List.eq_nil_of_length_eq_zero (by rw [hrl.out];omega))
    have e2:rl = 0:=by omega
    rw [e2]
    exact h9)
   have hS1:=hid hS1
   clear hNx hNy hf hS hS2
   go_wp2
   all_goals
    clear hc
    go_loopw [7,8,10] (fun vo vt i wr => ∃ (k:Nat) (s:StS),k ≤ tn ∧ i = .int .i64 (k:Int) ∧ Hid (StV W wr vo vt s) ∧ Hid (stT g null (t1.drop k) s = F)) (fun _ _ i _ => tn - (intOf i).toNat)
    case atStart => first | exact ⟨0,⟨out,r⟩,Nat.zero_le _,rfl,hS1,hF⟩ | exact ⟨0,⟨out,r⟩,Nat.zero_le _,rfl,hid (hS3.out (by omega)),hF⟩
    case round =>
     clear hS1 hS3 hF hbl
     obtain ⟨k,s,hk,rfl,hS,hF⟩:=hrel
     have hbl:=hid hS.out.low
     by_cases hlk:k < tn
     · have hlkz:(k:Int) < (tn:Int):=by omega
       have hkl:k < t1.length:=by rw [htn.out];exact hlk
       obtain ⟨b,o,rfl,hc⟩:=hat.out wr hbl.out k hkl
       obtain ⟨hy,hn⟩:=stT_at hkl hF.out
       have hob:=Nat.le_trans (stT_len g null (t1.drop k) s) (by rw [hF.out];exact hFb.out)
       have htb:=Nat.le_trans (stM_todo g s) (by rw [← stT_meas g null (t1.drop k) s,hF.out];exact hm.out)
       have hcell:Hid (∀ u,Below W.heap.size W u → u.cell? ⟨b,o + k,none⟩ = some (.int .i64 t1[k])):=hid (fun u hu => by
        obtain ⟨b',o',e,h⟩:=hat.out u hu k hkl
        injection e with e
        injection e with e1 e2 _
        subst e1 e2
        exact h)
       have G1:=hid (numHas _ s.out t1[k] wr (by omega) (Nums.of_row hS.out.out))
       have G2:Hid (∀ u,Below W.heap.size W u → Calls Tryz.prog 28 #[.slice na nln nc,.int .i64 t1[k]] u fun e w' => e = .returned (.bool (null.contains t1[k])) ∧ w' = u):=hid (fun u hu => by
        have h9:=hnW.out.keep hu
        exact numHas _ null t1[k] u (by rw [hnln.out];omega) h9)
       have cy:=stA_yes (g:=g) (s:=s) (n:=t1[k])
       have cn:=stA_no (g:=g) (s:=s) (n:=t1[k])
       have hrn:=hid (rgtK_len g t1[k])
       have hry:=hid (fun (q:Nat) (hq:q < g.prods.length) => rgtK_yes (n:=t1[k]) hq)
       have hrx:=hid (fun (q:Nat) (hq:q < g.prods.length) => rgtK_no (n:=t1[k]) hq)
       have hr0:Hid (rgtK g t1[k] 0 = []):=hid rfl
       clear hat
       generalize t1[k] = n at *
       have hc2:=hid hc
       generalize null.contains n = c2 at *
       cases hc1:s.out.contains n with
       | true =>
        rw [hc1] at G1
        rw [cy hc1] at hy hn
        have hy:=hid hy
        have hn:=hid hn
        clear cy cn hcell hrn hry hrx hr0
        have G3:=hid (G2.out wr hbl.out)
        clear G2
        cases c2 with
        | true =>
         go_wp2_with (first
          | (go_at_call 28;refine G1.out.mono ?_;clear G1;rintro e w5 ⟨rfl,hc5⟩;subst w5)
          | (go_at_call 28;refine G3.out.mono ?_;clear G3;rintro e w5 ⟨rfl,hc5⟩;subst w5))
         go_roundw
         case rel => exact ⟨k + 1,s,by omega,by go_num,hS,hid (by first | exact hy.out rfl | exact hy.out trivial)⟩
         case measure => simp [intOf];omega
        | false =>
         have e9:=hn.out rfl
         subst e9
         go_wp2_with (first
          | (go_at_call 28;refine G1.out.mono ?_;clear G1;rintro e w5 ⟨rfl,hc5⟩;subst w5)
          | (go_at_call 28;refine G3.out.mono ?_;clear G3;rintro e w5 ⟨rfl,hc5⟩;subst w5))
         go_roundg f'
         case measure => omega
         case rel => exact ⟨s,hS,hid ⟨by omega,hm.out,hfin.out⟩⟩
       | false =>
        rw [hc1] at G1
        rw [cn hc1] at hy hn
        have hy:=hid hy
        have hn:=hid hn
        obtain ⟨g5,c5,u5,hap5,hS5⟩:=hS.out.addO n (by omega)
        have hS5:Hid (StV W u5 (.slice (some ⟨g5,0,none⟩) (s.out.length + 1) c5) _ ⟨s.out ++ [n],s.todo ++ rgtK g n 0⟩):=hid (by rw [hr0.out,List.append_nil];exact hS5)
        clear cy cn hr0
        generalize s.out.length = ol at *
        go_wp2_with (first
         | (go_at_call 28;refine G1.out.mono ?_;clear G1;rintro e w5 ⟨rfl,hc5⟩;subst w5)
         | (at_builtin;refine wp_run15 _ rfl _ _ _ rfl _ _ rfl rfl hap5 ?_;clear hap5))
        clear hS hbl hc hc2
        go_loopw [8,11] (fun vt j wr => ∃ q:Nat,q ≤ pn ∧ j = .int .i64 (q:Int) ∧ Hid (StV W wr (.slice (some ⟨g5,0,none⟩) (ol + 1) c5) vt ⟨s.out ++ [n],s.todo ++ rgtK g n q⟩)) (fun _ j _ => pn - (intOf j).toNat)
        case atStart => exact ⟨0,Nat.zero_le _,rfl,hS5⟩
        case round =>
         clear hS5
         obtain ⟨q,hq,rfl,hS⟩:=hrel
         have hbl:=hid hS.out.low
         obtain ⟨z0,z1,z2,z3,z4⟩:=hk1.out wr hbl.out
         have hcx:=hcell.out wr hbl.out
         by_cases hlq:q < pn
         · have hlqz:(q:Int) < (pn:Int):=by omega
           have hql:q < g.prods.length:=by rw [hpn.out];exact hlq
           obtain ⟨b2,o2,q1,q3,rfl,hx,hN⟩:=hKp.out q hql
           obtain ⟨x0,x1⟩:=hx wr hbl.out
           have hNl:=hr g.prods[q] (List.getElem_mem hql)
           have hlen:(s.todo ++ rgtK g n q).length ≤ 1000:=by
            have h9:=hrn.out q
            have h8:=hm.out
            rw [List.length_append]
            omega
           have hyq:=hid (hry.out q hql)
           have hxq:=hid (hrx.out q hql)
           have hcells:Hid (∀ u,Below W.heap.size W u → u.cell? ⟨w.heap.size,3,none⟩ = some (.slice (some ⟨b2,o2,none⟩) pn pc) ∧ u.cell? ⟨b2,o2 + q * 3 + 1,none⟩ = some (.slice q1 g.prods[q].right.length q3)):=hid (fun u hu => ⟨(hk1.out u hu).2.2.2.1,(hx u hu).2⟩)
           clear hx
           have f0:=cell_regrown x0
           have f1:=cell_regrown hcx
           have f2:=cell_regrown z3
           clear z0 z1 z2 z4 x0 x1 hcx
           by_cases e:g.prods[q].left = n
           · rw [e] at f0
             replace hyq:=hid (hyq.out e)
             clear hxq e
             go_wp2_with fail
             refine wp_region_quiet_below (by kernel_rfl) (by kernel_rfl) ?_
             repeat (first | go_big_quiet_step (fail) | quiet_step (fail))
             refine wpQuiet_nil ?_
             intro _ hw'
             obtain ⟨⟨dq,osq⟩,hw''⟩:=hw'
             subst hw''
             have hS6:=hS.out.keep (below_regrown wr dq osq)
             generalize grow (redrawn wr dq) osq = w2 at *
             obtain ⟨p3,p4⟩:=hcells.out w2 hS6.low
             have hadd:=hS6.addT 36 _ _ hN hNl hlen
             dsimp only at hadd
             generalize (s.todo ++ rgtK g n q).length = tdq at hadd hlen
             obtain ⟨g6,o6,c6,u6,hap6,hS7⟩:=hadd
             have hS7:=hid hS7
             clear hS6 hS hbl hlen hN hNl
             go_wp2_with (at_builtin;refine wp_run15 _ rfl _ _ _ rfl _ _ rfl rfl hap6 ?_;clear hap6)
             go_roundw
             case rel => exact ⟨q + 1,by omega,by go_num,hid (by rw [hyq.out,← List.append_assoc];exact hS7.out)⟩
             case measure => simp [intOf];omega
           · have ez:(g.prods[q].left == n) = false:=by rw [beq_eq_false_iff_ne];exact e
             replace hxq:=hid (hxq.out e)
             clear hyq e
             generalize g.prods[q].left = lq at *
             go_wp2_with fail
             refine wp_region_quiet_below (by kernel_rfl) (by kernel_rfl) ?_
             repeat (first | go_big_quiet_step (fail) | quiet_step (fail))
             refine wpQuiet_nil ?_
             intro _ hw'
             obtain ⟨⟨dq,osq⟩,hw''⟩:=hw'
             subst hw''
             have hS6:=hid (hS.out.keep (below_regrown wr dq osq))
             generalize grow (redrawn wr dq) osq = w2 at *
             go_wp2
             go_roundw
             case rel => exact ⟨q + 1,by omega,by go_num,hid (by rw [hxq.out];exact hS6.out)⟩
             case measure => simp [intOf];omega
         · have hlqz:¬ (q:Int) < (pn:Int):=by omega
           obtain rfl:q = pn:=by omega
           have hS6:Hid (StV W wr (.slice (some ⟨g5,0,none⟩) (ol + 1) c5) u8 ⟨s.out ++ [n],s.todo ++ rgtK g n g.prods.length⟩):=hid (by rw [hpn.out];exact hS.out)
           have G3:=hid (G2.out wr hbl.out)
           clear G2 hS hrn hry hrx
           cases c2 with
           | true =>
            go_wp2_with (go_at_call 28;refine G3.out.mono ?_;clear G3;rintro e w5 ⟨rfl,hc5⟩;subst w5)
            go_roundw
            case rel => exact ⟨k + 1,_,by omega,by go_num,hS6,hid (by first | exact hy.out rfl | exact hy.out trivial)⟩
            case measure => simp [intOf];omega
           | false =>
            have e9:=(by first | exact hn.out rfl | exact hn.out trivial:(⟨s.out ++ [n],s.todo ++ rgtK g n g.prods.length⟩:StS) = F)
            rw [e9] at hS6
            go_wp2_with (go_at_call 28;refine G3.out.mono ?_;clear G3;rintro e w5 ⟨rfl,hc5⟩;subst w5)
            go_roundg f'
            case measure => omega
            case rel => exact ⟨F,hS6,hid ⟨by omega,hm.out,hfin.out⟩⟩
     · have hlkz:¬ (k:Int) < (tn:Int):=by omega
       obtain rfl:k = tn:=by omega
       have e9:s = F:=by
        have h9:=hF.out
        rw [List.drop_of_length_le (by rw [htn.out];exact Nat.le_refl _)] at h9
        exact h9
       subst e9
       clear hF hat
       go_wp2
       go_roundg f'
       case measure => omega
       case rel => exact ⟨s,hS,hid ⟨by omega,hm.out,hfin.out⟩⟩
end Go.Proofs.YtfhokapfkclckaaGreat
