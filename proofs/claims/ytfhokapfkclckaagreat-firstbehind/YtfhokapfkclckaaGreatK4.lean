/- The contract of topiaryref04.Of: the least one that isn't told yet, again and again; of topiaryref04.Is. The contracts of topiaryref04.Union, Both, Less. The contract of sets.Of: the set of the numbers of a list, in memory of the call's own. slices.Grow, slices.Concat of numbers, sets.Union. -/
import Derived.Test.YtfhokapfkclckaaGreatK3
import Derived.Test.YtfhokapfkclckaaGreatKS
namespace Go.Proofs.YtfhokapfkclckaaGreat
open Go.RowKit
def Abv (out:List Int) (x:Int):Prop:=∀ y ∈ out,y < x
structure Pre (out l:List Int):Prop where
 up:Up out
 sub:∀ x ∈ out,x ∈ l
 all:∀ x ∈ l,x ∈ out ∨ Abv out x
structure Low (out l:List Int) (k:Nat) (f:Bool) (m:Int):Prop where
 no:f = false → ∀ x ∈ l.take k,¬ Abv out x
 yes:f = true → m ∈ l ∧ Abv out m ∧ ∀ x ∈ l.take k,Abv out x → m ≤ x
theorem Pre.start (l:List Int):Pre [] l:=⟨List.Pairwise.nil,fun _ h => absurd h (List.not_mem_nil),fun _ _ => Or.inr fun _ h => absurd h (List.not_mem_nil)⟩
theorem Low.start (out l:List Int):Low out l 0 false 0:=⟨fun _ x h => absurd h (by simp),fun h => by cases h⟩
theorem abv_nil (x:Int):Abv [] x:=fun _ h => absurd h (List.not_mem_nil)
theorem abv_last {out:List Int} {p:Nat} (hu:Up out) (hp:p < out.length) (hp1:out.length = p + 1) (x:Int):Abv out x ↔ out[p] < x:=by
 constructor
 · intro h;exact h _ (List.getElem_mem hp)
 · intro h y hy
   obtain ⟨i,hi,rfl⟩:=List.mem_iff_getElem.1 hy
   by_cases e:i = p
   · subst e;exact h
   · have:=List.pairwise_iff_getElem.1 hu i p hi hp (by omega)
     omega
theorem mem_take_succ {l:List Int} {k:Nat} (h:k < l.length) (x:Int):x ∈ l.take (k + 1) ↔ x ∈ l.take k ∨ x = l[k]:=by
 rw [List.take_succ_eq_append_getElem h,List.mem_append,List.mem_singleton]
theorem Low.skip {out l:List Int} {k:Nat} {f:Bool} {m:Int} (h:Low out l k f m) (hk:k < l.length) (ha:¬ Abv out l[k]):Low out l (k + 1) f m:=
 ⟨fun hf x hx => by
  rcases (mem_take_succ hk x).1 hx with hx | rfl
  · exact h.no hf x hx
  · exact ha,
  fun hf => ⟨(h.yes hf).1,(h.yes hf).2.1,fun x hx hax => by
   rcases (mem_take_succ hk x).1 hx with hx | rfl
   · exact (h.yes hf).2.2 x hx hax
   · exact absurd hax ha⟩⟩
theorem Low.first {out l:List Int} {k:Nat} {m:Int} (h:Low out l k false m) (hk:k < l.length) (ha:Abv out l[k]):Low out l (k + 1) true l[k]:=
 ⟨fun hf => (by cases hf),fun _ => ⟨List.getElem_mem hk,ha,fun x hx hax => by
  rcases (mem_take_succ hk x).1 hx with hx | rfl
  · exact absurd hax (h.no rfl x hx)
  · exact Int.le_refl _⟩⟩
theorem Low.less {out l:List Int} {k:Nat} {m:Int} (h:Low out l k true m) (hk:k < l.length) (ha:Abv out l[k]) (hm:l[k] < m):Low out l (k + 1) true l[k]:=
 ⟨fun hf => (by cases hf),fun _ => ⟨List.getElem_mem hk,ha,fun x hx hax => by
  rcases (mem_take_succ hk x).1 hx with hx | rfl
  · have:=(h.yes rfl).2.2 x hx hax;omega
  · exact Int.le_refl _⟩⟩
theorem Low.stay {out l:List Int} {k:Nat} {m:Int} (h:Low out l k true m) (hk:k < l.length) (hm:¬ l[k] < m):Low out l (k + 1) true m:=
 ⟨fun hf => (by cases hf),fun _ => ⟨(h.yes rfl).1,(h.yes rfl).2.1,fun x hx hax => by
  rcases (mem_take_succ hk x).1 hx with hx | rfl
  · exact (h.yes rfl).2.2 x hx hax
  · omega⟩⟩
theorem Low.done {out l:List Int} {k:Nat} {m:Int} (h:Low out l k false m) (hk:¬ k < l.length) (hp:Pre out l):out = ofL l:=
 ofL_eq hp.up fun x => ⟨hp.sub x,fun hx => by
  rcases hp.all x hx with h1 | h1
  · exact h1
  · exact absurd h1 (h.no rfl x (by rwa [List.take_of_length_le (by omega)]))⟩
theorem Low.next {out l:List Int} {k:Nat} {m:Int} (h:Low out l k true m) (hk:¬ k < l.length) (hp:Pre out l):Pre (out ++ [m]) l:=by
 obtain ⟨h1,h2,h3⟩:=h.yes rfl
 rw [List.take_of_length_le (by omega)] at h3
 refine ⟨List.pairwise_append.2 ⟨hp.up,List.pairwise_singleton _ _,fun y hy z hz => ?_⟩,fun x hx => ?_,fun x hx => ?_⟩
 · rw [List.mem_singleton] at hz;subst hz;exact h2 y hy
 · rcases List.mem_append.1 hx with hx | hx
   · exact hp.sub x hx
   · rw [List.mem_singleton] at hx;subst hx;exact h1
 · rcases hp.all x hx with e | e
   · exact Or.inl (List.mem_append_left _ e)
   · by_cases hxm:x = m
     · subst hxm;exact Or.inl (List.mem_append_right _ (List.mem_singleton.2 rfl))
     · refine Or.inr fun y hy => ?_
       rcases List.mem_append.1 hy with hy | hy
       · exact e y hy
       · rw [List.mem_singleton] at hy;subst hy
         have:=h3 x hx e
         omega
theorem up_sub_len:∀ {a b:List Int},Up a → Up b → (∀ x ∈ a,x ∈ b) → a.length ≤ b.length
 | [],_,_,_,_ => Nat.zero_le _
 | x :: s,[],_,_,h => absurd (h x List.mem_cons_self) (List.not_mem_nil)
 | x :: s,y :: t,ha,hb,h => by
  rw [Up,List.pairwise_cons] at hb
  by_cases e:x = y
  · subst e
    rw [Up,List.pairwise_cons] at ha
    have:=up_sub_len ha.2 hb.2 (fun z hz => by
     rcases List.mem_cons.1 (h z (List.mem_cons_of_mem _ hz)) with e | e
     · subst e;exact absurd (ha.1 _ hz) (by omega)
     · exact e)
    simp only [List.length_cons];omega
  · have hx:x ∈ t:=by
     rcases List.mem_cons.1 (h x List.mem_cons_self) with h1 | h1
     · exact absurd h1 e
     · exact h1
    have hyx:=hb.1 x hx
    have:=up_sub_len (a:=x :: s) ha hb.2 (fun z hz => by
     rcases List.mem_cons.1 (h z hz) with h1 | h1
     · subst h1
       rcases List.mem_cons.1 hz with h2 | h2
       · omega
       · have:=(List.pairwise_cons.1 ha).1 _ h2;omega
     · exact h1)
    simp only [List.length_cons] at this ⊢;omega
theorem Pre.len {out l:List Int} (h:Pre out l):out.length ≤ l.length:=
 Nat.le_trans (up_sub_len h.up (ofL_up l) fun x hx => (ofL_mem x l).2 (h.sub x hx)) (ofL_len l)
def sliceLen:Value → Nat
 | .slice _ n _ => n
 | _ => 0
theorem own_len {w:World} {B:Nat} {v:Value} {l:List Int} (h:Own w B v l):sliceLen v = l.length:=by
 obtain ⟨a,cap,rfl,_⟩:=Nums.of_row h
 rfl
set_option maxRecDepth 20000 in
set_option maxHeartbeats 4000000 in
theorem refOf (v:Value) (l:List Int) (w:World) (hl:l.length ≤ 1000000) (hA:Nums w v l) :
 Calls Tryz.prog 29 #[v] w fun e w' => ∃ v',e = .returned v' ∧ Own w' w.heap.size v' (ofL l) ∧ Below w.heap.size w w':=by
 obtain ⟨aa,ca,rfl,_,_,hA⟩:=hA
 have hA0:=hid hA
 clear hA
 go_enter Tryz.func29,Tryz.ntmps29
 go_wp2
 go_loopw [3] (fun v wr => ∃ out,Own wr w.heap.size v out ∧ Hid (Pre out l) ∧ Below w.heap.size w wr) (fun v _ => l.length - sliceLen v)
 case atStart => exact ⟨[],World.ownsRow_nil _ _ _ _,hid (Pre.start l),Below.refl _ w⟩
 case round =>
  obtain ⟨out,hO0,hpre,hbl0⟩:=hrel
  have hlen:=own_len hO0
  obtain ⟨ao,co,rfl,hN1⟩:=id (Nums.of_row hO0)
  clear hN1
  have hO0':=hid hO0
  clear hO0
  go_wp2
  go_loopw [4,5,6] (fun f m i wr => ∃ (k:Nat) (fb:Bool) (mz:Int),k ≤ l.length ∧ f = .bool fb ∧ m = .int .i64 mz ∧ i = .int .i64 k ∧ Hid (Low out l k fb mz) ∧ Hid (Own wr w.heap.size (.slice ao out.length co) out) ∧ Below w.heap.size w wr) (fun _ _ i _ => l.length - (intOf i).toNat)
  case atStart => exact ⟨0,false,0,Nat.zero_le _,rfl,rfl,rfl,hid (Low.start out l),hO0',hbl0⟩
  case round =>
   obtain ⟨k,fb,mz,hk,rfl,rfl,rfl,hlow,hO,hbl⟩:=hrel
   by_cases hlt:k < l.length
   · have hltz:(k:Int) < (l.length:Int):=by omega
     obtain ⟨b1,o1,rfl,hb1,hc1⟩:=hA0.out k hlt
     have hd1:=(hbl.cell hb1).trans hc1
     clear hc1
     by_cases h0:out.length = 0
     · have hz:((out.length:Int) == 0) = true:=beq_iff_eq.2 (by omega)
       have ha:Abv out l[k]:=by rw [List.length_eq_zero_iff.1 h0];exact abv_nil _
       clear h0
       cases fb with
       | false =>
        have hlow':=hid (hlow.out.first hlt ha)
        clear ha
        generalize l[k] = x at hd1 hlow'
        go_wp2_with fail
        go_quiet (fail)
        go_wp2
        go_roundw
        case rel => exact ⟨k + 1,true,_,by omega,rfl,rfl,by go_num,hlow',hid (own_below hO.out (belowN (Below.refl _ wr))),belowN hbl⟩
        case measure => simp [intOf];omega
       | true =>
        by_cases hm:l[k] < mz
        · have hlow':=hid (hlow.out.less hlt ha hm)
          clear ha
          generalize l[k] = x at hd1 hlow' hm
          go_wp2_with fail
          go_quiet (fail)
          go_wp2
          go_roundw
          case rel => exact ⟨k + 1,true,_,by omega,rfl,rfl,by go_num,hlow',hid (own_below hO.out (belowN (Below.refl _ wr))),belowN hbl⟩
          case measure => simp [intOf];omega
        · have hlow':=hid (hlow.out.stay hlt hm)
          clear ha
          generalize l[k] = x at hd1 hm
          go_wp2_with fail
          go_quiet (fail)
          go_wp2
          go_roundw
          case rel => exact ⟨k + 1,true,_,by omega,rfl,rfl,by go_num,hlow',hid (own_below hO.out (belowN (Below.refl _ wr))),belowN hbl⟩
          case measure => simp [intOf];omega
     · have hz:((out.length:Int) == 0) = false:=beq_eq_false_iff_ne.2 (by omega)
       obtain ⟨p,hp⟩:∃ p,out.length = p + 1:=⟨out.length - 1,by omega⟩
       have hpl:p < out.length:=by omega
       have hpz:(p:Int) < (out.length:Int):=by omega
       have hw:IntKind.i64.wrap ((out.length:Int) - 1) = (p:Int):=by have:=hpre.out.len;rw [IntKind.wrap_i64];omega
       have hal:=abv_last hpre.out.up hpl hp l[k]
       obtain ⟨b2,o2,co2,e2,hcap2,hb2,hc2⟩:=(Nums.of_row hO.out).at (by omega)
       injection e2 with e2 e3 e4;subst e2;subst e4
       have hd2:=hc2 p hpl
       clear hc2 hp h0
       by_cases hy:out[p] < l[k]
       · have ha:=hal.2 hy
         have hy':=hy
         clear hal hy
         generalize out[p] = y at hd2 hy'
         cases fb with
         | false =>
          have hlow':=hid (hlow.out.first hlt ha)
          clear ha
          generalize l[k] = x at hd1 hlow' hy'
          go_wp2_with fail
          go_quiet (fail)
          go_wp2
          go_roundw
          case rel => exact ⟨k + 1,true,_,by omega,rfl,rfl,by go_num,hlow',hid (own_below hO.out (belowN (Below.refl _ wr))),belowN hbl⟩
          case measure => simp [intOf];omega
         | true =>
          by_cases hm:l[k] < mz
          · have hlow':=hid (hlow.out.less hlt ha hm)
            clear ha
            generalize l[k] = x at hd1 hlow' hm hy'
            go_wp2_with fail
            go_quiet (fail)
            go_wp2
            go_roundw
            case rel => exact ⟨k + 1,true,_,by omega,rfl,rfl,by go_num,hlow',hid (own_below hO.out (belowN (Below.refl _ wr))),belowN hbl⟩
            case measure => simp [intOf];omega
          · have hlow':=hid (hlow.out.stay hlt hm)
            clear ha
            generalize l[k] = x at hd1 hm hy'
            go_wp2_with fail
            go_quiet (fail)
            go_wp2
            go_roundw
            case rel => exact ⟨k + 1,true,_,by omega,rfl,rfl,by go_num,hlow',hid (own_below hO.out (belowN (Below.refl _ wr))),belowN hbl⟩
            case measure => simp [intOf];omega
       · have hna:¬ Abv out l[k]:=fun h => hy (hal.1 h)
         have hlow':=hid (hlow.out.skip hlt hna)
         clear hal hna
         generalize out[p] = y at hd2 hy
         generalize l[k] = x at hd1 hy
         go_wp2_with fail
         go_quiet (fail)
         go_wp2
         go_roundw
         case rel => exact ⟨k + 1,fb,mz,by omega,rfl,rfl,by go_num,hlow',hid (own_below hO.out (belowN (Below.refl _ wr))),belowN hbl⟩
         case measure => simp [intOf];omega
   · have hltz:¬ (k:Int) < (l.length:Int):=by omega
     cases fb with
     | false =>
      have hres:=hid (hlow.out.done hlt hpre.out)
      go_wp2
      go_ret
      exact ⟨_,rfl,by rw [← hres.out];exact hO.out,hbl⟩
     | true =>
      have hpre':=hid (hlow.out.next hlt hpre.out)
      have hlen':=hpre'.out.len
      rw [List.length_append] at hlen'
      have hsz:=hbl.size
      have hlen1:out.length < l.length:=by simp at hlen';omega
      go_wp2_with (at_builtin;refine wp_app _ rfl _ _ rfl w.heap.size out [mz] _ _ rfl rfl (hO.out.alloc _) (Nums.of_row (Own.lit1 _ _)) (by simp;omega) (by simp;omega) ?_;intro v' w2 hO2 hb2)
      go_wp2
      go_roundw
      case rel => exact ⟨_,hO2,hpre',(hbl.alloc hsz _).trans hb2⟩
      case measure =>
       have e1:=own_len hO2
       rw [List.length_append] at e1
       simp [e1,hlen]
       omega
set_option maxRecDepth 20000 in
theorem numHas (v:Value) (l:List Int) (n:Int) (w:World) (hl:l.length ≤ 1000000) (hA:Nums w v l) :
 Calls Tryz.prog 28 #[v,.int .i64 n] w fun e w' => e = .returned (.bool (l.contains n)) ∧ w' = w:=by
 obtain ⟨aa,ca,rfl,_,_,hA⟩:=hA
 obtain ⟨r,hr⟩:∃ r,Hid (l.contains n = r):=⟨_,hid rfl⟩
 rw [show l.contains n = r from hr.out]
 go_enter Tryz.func28,Tryz.ntmps28
 go_wp2
 go_loop [5] (fun i => ∃ k:Nat,k ≤ l.length ∧ i = .int .i64 k ∧ ¬ n ∈ l.take k) (fun i => l.length - (intOf i).toNat)
 case atStart => exact ⟨0,Nat.zero_le _,rfl,by simp⟩
 case round =>
  obtain ⟨k,hk,rfl,hn⟩:=hrel
  by_cases hlt:k < l.length
  · have hltz:(k:Int) < (l.length:Int):=by omega
    obtain ⟨b1,o1,rfl,hb1,hc1⟩:=hA k hlt
    clear hA
    by_cases h:l[k] = n
    · have hres:r = true:=by rw [← hr.out];rw [List.contains_iff_mem,← h];exact List.getElem_mem hlt
      have hb:(l[k] == n) = true:=beq_iff_eq.2 h
      generalize l[k] = x at hc1 hb
      clear h hn
      go_wp2
      go_ret
      exact ⟨by first | rfl | (rw [hres];rfl),rfl⟩
    · have hn':¬ n ∈ l.take (k + 1):=by
       rw [List.take_succ_eq_append_getElem hlt,List.mem_append,List.mem_singleton]
       rintro (e | e)
       · exact hn e
       · exact h e.symm
      have hb:(l[k] == n) = false:=beq_eq_false_iff_ne.2 h
      generalize l[k] = x at hc1 hb
      clear h hn
      go_wp2
      go_round
      case rel => exact ⟨k + 1,by omega,by go_num,hn'⟩
      case measure => simp [intOf];omega
  · have hltz:¬ (k:Int) < (l.length:Int):=by omega
    have hres:r = false:=by
     rw [← hr.out]
     rw [List.take_of_length_le (by omega)] at hn
     rw [← Bool.not_eq_true,List.contains_iff_mem];exact hn
    clear hA hn
    go_wp2
    go_ret
    exact ⟨by first | rfl | (rw [hres];rfl),rfl⟩
end Go.Proofs.YtfhokapfkclckaaGreat
namespace Go.Proofs.YtfhokapfkclckaaGreat
open Go.RowKit Go.Sort
theorem own_grow {w:World} {B size n:Nat} {e:TypeId} {v:Value} {xs:List Value} (h:w.ownsRow B e size v n xs) (os:Array Obj):(grow w os).ownsRow B e size v n xs:=
 own_keep h fun k hk => by
  have:=(h.lt k hk).2
  unfold grow
  rw [Array.getElem?_append_left this]
theorem bl_grow {B:Nat} {w0 w:World} (h:Below B w0 w) (hB:B ≤ w.heap.size) (os:Array Obj):Below B w0 (grow w os):=
 ⟨h.os,h.tape,h.output,Nat.le_trans h.size (by unfold grow;rw [Array.size_append];omega),fun k hk => by
  rw [← h.block k hk];unfold grow;rw [Array.getElem?_append_left (by omega)]⟩
theorem own_holds {w:World} {B:Nat} {v:Value} {l:List Int} (h:Own w B v l) (hv:v ≠ .slice none 0 0):∃ g cap,v = .slice (some ⟨g,0,none⟩) l.length cap ∧ B ≤ g ∧ g < w.heap.size ∧ l.length ≤ cap ∧ Holds (Value.int .i64) w g 0 l.toArray:=by
 obtain ⟨g,cap,rfl,h1,h2,h3,_,_,h4⟩:=Lib.holds_of_ownsRow (enc:=Value.int .i64) (zs:=l) h hv
 exact ⟨g,cap,rfl,h1,h2,h3,h4⟩
theorem own_put0 {w:World} {B g cap q k:Nat} {l ys:List Int} (h:Own w B (.slice (some ⟨g,0,none⟩) l.length cap) l) (hy:ys.length = l.length) (hk:k ≤ l.length) (zs:List Int) (hz:ys.take k = zs) :
 Own (putRow (Value.int .i64) (Sort.ahead w q) g 0 ys.toArray) B (.slice (some ⟨g,0,none⟩) k cap) zs:=by
 have:=Lib.ownsRow_putRow (enc:=Value.int .i64) (zs:=l) (ys:=ys) (q:=q) h hy hk
 subst hz
 unfold Own
 rw [List.length_take,Nat.min_eq_left (by omega)]
 exact this
theorem own_ref {w:World} {B n size:Nat} {e:TypeId} {v:Value} {xs:List Value} (_:w.ownsRow B e size v n xs) (hB:B ≤ w.heap.size):Below B w w:=(Below.refl _ w).mono hB
def msL (l:List Int):List Int:=l.mergeSort fun x y => decide (x ≤ y)
theorem msL_nil:msL [] = []:=by unfold msL;exact List.mergeSort_nil
theorem msL_len (l:List Int):(msL l).length = l.length:=(List.mergeSort_perm l _).length_eq
set_option maxRecDepth 20000 in
theorem sortOwn (v:Value) (l:List Int) (B:Nat) (w:World) (hB:B ≤ w.heap.size) (hl:l.length ≤ 1000000) (hO:Own w B v l) :
 Calls Tryz.prog 92 #[v] w fun e w' => e = .returned (.tuple #[]) ∧ Own w' B v (msL l) ∧ Below B w w':=by
 by_cases hv:v = .slice none 0 0
 · subst hv
   have h0:l = []:=List.length_eq_zero_iff.1 (by rcases hO.2 with ⟨_,h⟩ | ⟨g,cap,cur,h,_⟩;exact h;cases h)
   subst h0
   exact (Tryz.slices_Sort_int_none none 0 w).mono fun e w' ⟨he,hw⟩ => by subst hw;rw [msL_nil];exact ⟨he,hO,own_ref hO hB⟩
 · obtain ⟨g,cap,rfl,h1,h2,h3,h4⟩:=own_holds hO hv
   refine (Tryz.slices_Sort_int g 0 cap l w h4 h2 (by omega)).mono fun e w' ⟨he,n,os,hw⟩ => ?_
   subst hw
   refine ⟨he,own_grow (B:=B) ?_ os,bl_grow (Lib.below_putRow (own_ref hO hB) h1) ?_ os⟩
   · have:=own_put0 (q:=n) hO (ys:=msL l) (msL_len l) (Nat.le_refl _) (msL l) (List.take_of_length_le (by rw [msL_len];exact Nat.le_refl _))
     rw [msL_len]
     rw [Own,msL_len] at this
     exact this
   · rw [size_putRow];exact hB
theorem compact_len (l:List Int):(Lib.compact (msL l)).length ≤ l.length:=by
 have:=ofL_sorted l
 unfold msL
 rw [this]
 exact ofL_len l
set_option maxRecDepth 20000 in
theorem compactOwn (v:Value) (l:List Int) (B:Nat) (w:World) (hB:B ≤ w.heap.size) (hl:l.length ≤ 1000000) (hO:Own w B v (msL l)) :
 Calls Tryz.prog 93 #[v] w fun e w' => ∃ v',e = .returned v' ∧ Own w' B v' (ofL l) ∧ Below B w w':=by
 by_cases hv:v = .slice none 0 0
 · subst hv
   have h0:msL l = []:=List.length_eq_zero_iff.1 (by rcases hO.2 with ⟨_,h⟩ | ⟨g,cap,cur,h,_⟩;exact h;cases h)
   have h1:l = []:=List.length_eq_zero_iff.1 (by rw [← msL_len,h0];rfl)
   subst h1
   exact (Tryz.slices_Compact_int_empty none 0 w).mono fun e w' ⟨he,hw⟩ => by subst hw;rw [msL_nil] at hO;exact ⟨_,he,hO,own_ref hO hB⟩
 · obtain ⟨g,cap,rfl,h1,h2,h3,h4⟩:=own_holds hO hv
   have hml:=msL_len l
   have hcl:=compact_len l
   refine (Tryz.slices_Compact_int g 0 cap (msL l) w h4 (by omega) h3).mono fun e w' ⟨he,q,hw⟩ => ?_
   subst hw
   refine ⟨_,he,?_,Lib.below_putRow (own_ref hO hB) h1⟩
   rw [← ofL_sorted]
   exact own_put0 hO (by rw [List.length_append,List.length_replicate];omega) (by omega) _ (List.take_left' rfl)
set_option maxRecDepth 20000 in
set_option maxHeartbeats 1000000 in
theorem setsOf (v:Value) (l:List Int) (w:World) (hl:l.length ≤ 1000000) (hA:Nums w v l) :
 Calls Tryz.prog 73 #[v] w fun e w' => ∃ v',e = .returned v' ∧ Own w' w.heap.size v' (ofL l) ∧ Below w.heap.size w w':=by
 obtain ⟨i0,hi,hz0,hz1,hz2⟩:=info_parts Tryz.info3
 have hN:w.ownsRow w.heap.size 3 1 (.slice none 0 0) 0 []:=World.ownsRow_nil w _ _ _
 have G1:Hid (∀ v u,w.heap.size ≤ u.heap.size → Own u w.heap.size v l → Calls Tryz.prog 92 #[v] u fun e w' => e = .returned (.tuple #[]) ∧ Own w' w.heap.size v (msL l) ∧ Below w.heap.size u w'):=fun v u h1 h2 => sortOwn v l _ u h1 hl h2
 have G2:Hid (∀ v u,w.heap.size ≤ u.heap.size → Own u w.heap.size v (msL l) → Calls Tryz.prog 93 #[v] u fun e w' => ∃ v',e = .returned v' ∧ Own w' w.heap.size v' (ofL l) ∧ Below w.heap.size u w'):=fun v u h1 h2 => compactOwn v l _ u h1 hl h2
 by_cases h0:l = []
 · subst h0
   rcases hA.empty with rfl | ⟨a,cap,rfl⟩
   · clear hA
     go_enter Tryz.func73,Tryz.ntmps73
     go_wp2_with (first
      | (go_at_call 92;refine (G1.out _ _ (Nat.le_refl _) hN).mono ?_;rintro e w1 ⟨rfl,hO1,hb1⟩)
      | (go_at_call 93;refine (G2.out _ _ hb1.size hO1).mono ?_;rintro e w2 ⟨v2,rfl,hO2,hb2⟩))
     go_ret
     exact ⟨_,rfl,hO2,hb1.trans hb2⟩
   · clear hA
     go_enter Tryz.func73,Tryz.ntmps73
     go_wp2_with (first
      | (at_builtin;refine wpList_append_own _ rfl _ _ 30 rfl w.heap.size 3 i0 (.int .i64 0) 1 8 Tryz.underlying30 hi hz0 hz1 hz2 rfl (by decide) _ _ _ rfl hN a 0 cap [] rfl rfl (by intro j u hj;simp at hj) (by simp) (by unfold maxLen;omega) (by omega) (Nat.le_refl _) ?_;intro v' w0 hO0 hgrow _)
      | (go_at_call 92;refine (G1.out _ _ hgrow.size hO0).mono ?_;rintro e w1 ⟨rfl,hO1,hb1⟩)
      | (go_at_call 93;refine (G2.out _ _ (Nat.le_trans hgrow.size hb1.size) hO1).mono ?_;rintro e w2 ⟨v2,rfl,hO2,hb2⟩))
     go_ret
     exact ⟨_,rfl,hO2,((below_app0 hN (Below.refl _ w) (Nat.le_refl _) hgrow).trans hb1).trans hb2⟩
 · obtain ⟨b,o,cap,rfl,hcap,hb,hc⟩:=hA.at (List.length_pos_iff.2 h0)
   have hnews:=Nums.news hc
   have hone:=numCells_one l
   have hnl:=numCells_len l
   generalize hcs:numCells l = cs at hnews hone hnl
   clear hA hc
   go_enter Tryz.func73,Tryz.ntmps73
   go_wp2_with (first
    | (at_builtin;refine wpList_append_own _ rfl _ _ 30 rfl w.heap.size 3 i0 (.int .i64 0) 1 8 Tryz.underlying30 hi hz0 hz1 hz2 rfl (by decide) _ _ _ rfl hN ⟨b,o,none⟩ l.length cap cs rfl (by omega) hnews hone (by unfold maxLen;omega) (by omega) (Nat.le_refl _) ?_;intro v' w0 hO0 hgrow _;rw [Nat.zero_add,List.nil_append,← hcs] at hO0)
    | (go_at_call 92;refine (G1.out _ _ hgrow.size hO0).mono ?_;rintro e w1 ⟨rfl,hO1,hb1⟩)
    | (go_at_call 93;refine (G2.out _ _ (Nat.le_trans hgrow.size hb1.size) hO1).mono ?_;rintro e w2 ⟨v2,rfl,hO2,hb2⟩))
   go_ret
   exact ⟨_,rfl,hO2,((below_app0 hN (Below.refl _ w) (Nat.le_refl _) hgrow).trans hb1).trans hb2⟩
end Go.Proofs.YtfhokapfkclckaaGreat
namespace Go.Proofs.YtfhokapfkclckaaGreat
open Go.RowKit
set_option maxRecDepth 20000 in
theorem growOwn (n:Nat) (w:World) (hn:n ≤ 4000000) :
 Calls Tryz.prog 94 #[.slice none 0 0,.int .i64 n] w fun e w' => ∃ v,e = .returned v ∧ Own w' w.heap.size v [] ∧ Below w.heap.size w w':=by
 by_cases h0:n = 0
 · subst h0
   exact (Any8.slices_Grow_room Tryz.grow none 0 0 0 w (Nat.le_refl _) (by omega) (by omega) (Nat.le_refl _)).mono fun e w' ⟨he,hw⟩ => by
    subst hw;exact ⟨_,he,World.ownsRow_nil _ _ _ _,Below.refl _ _⟩
 · obtain ⟨i0,hi,hz0,hz1,hz2⟩:=info_parts Tryz.info3
   refine (Any8.slices_Grow_grow Tryz.grow i0 (.int .i64 0) hi hz0 (by omega) none 0 0 n [] w (Nat.le_refl _) (by omega) (by rw [hz2];omega) (by omega) (by simp) (fun _ => rfl) (fun a h => by cases h)).mono fun e w' ⟨he,hw⟩ => ?_
   subst hw
   have key:∀ o,(w.drew.alloc o).heap[w.heap.size]? = some o:=fun o => by
    show (w.heap.push o)[w.heap.size]? = some o
    simp
   refine ⟨_,he,⟨rfl,Or.inr ⟨w.heap.size,_,_,rfl,Nat.le_refl _,key _,Nat.zero_le _,grownCap_le_maxLen w _ _ _ (by unfold maxLen;omega),?_,rfl⟩⟩,(Below.refl _ w).drew.alloc (Nat.le_refl _) _⟩
   have hg:=grownCap_ge w n 0 3
   change grownCap w n 0 3 ≥ n at hg
   rw [Array.size_append,Array.size_append,size_zeroCells,size_zeroCells]
   simp only [Value.cells,Nat.zero_add]
   show 0 + (n - 0) * 1 + (grownCap w n 0 3 - n) * 1 = grownCap w n 0 3 * 1
   omega
end Go.Proofs.YtfhokapfkclckaaGreat
