/- Layer 13: what is reached, what ends; the document's rounds find just that. The reference of layer 16: Closure's rounds. The reference of layer 16: Closure. The reference of layer 16: Goto. -/
import Derived.Test.YtbpnioehmohbcaaGreatJ22
import Derived.Test.YtbpnioehmohbcaaGreatJ34
import Derived.Deep.RegionLaw
import Derived.Deep.AppendLies
namespace Go.Proofs.YtbpnioehmohbcaaGreat
inductive Rch (g:Gm):Int → Prop
 | start:0 < g.start → Rch g g.start
 | step (p:Pd) (n:Int):p ∈ g.prods → Rch g p.left → n ∈ p.right → (g.terms:Int) < n → Rch g n
inductive Ends (g:Gm):Int → Prop
 | prod (p:Pd):p ∈ g.prods → (∀ n ∈ p.right,(g.terms:Int) < n → Ends g n) → Ends g p.left
theorem len_parts (p:Int → Bool):∀ l:List Int,l.length = (l.filter p).length + (l.filter fun n => !p n).length
 | [] => rfl
 | x :: l => by
  have:=len_parts p l
  rw [List.filter_cons,List.filter_cons]
  cases h:p x
  · simp only [Bool.false_eq_true,if_false,Bool.not_false,if_true,List.length_cons]
    omega
  · simp only [if_true,Bool.not_true,Bool.false_eq_true,if_false,List.length_cons]
    omega
theorem nodup_le:∀ (N:Nat) (l:List Int) (a:Int),l.Nodup → (∀ n ∈ l,a < n ∧ n ≤ a + (N:Int)) → l.length ≤ N
 | 0,l,a,_,h => by
  cases l with
  | nil => exact Nat.le_refl _
  | cons x r => have:=h x List.mem_cons_self;omega
 | N + 1,l,a,hd,h => by
  have h1:=nodup_le N (l.filter (fun n => decide (n ≠ a + ((N + 1:Nat):Int)))) a (hd.sublist List.filter_sublist) (fun n hn => by
   rw [List.mem_filter,decide_eq_true_eq] at hn
   have:=h n hn.1
   omega)
  have h2:l.length ≤ (l.filter (fun n => decide (n ≠ a + ((N + 1:Nat):Int)))).length + 1:=by
   have hc:(l.filter (fun n => !decide (n ≠ a + ((N + 1:Nat):Int)))).length ≤ 1:=by
    have hdd:=hd.sublist (List.filter_sublist (p:=fun n => !decide (n ≠ a + ((N + 1:Nat):Int))) (l:=l))
    have hall:∀ n ∈ l.filter (fun n => !decide (n ≠ a + ((N + 1:Nat):Int))),n = a + ((N + 1:Nat):Int):=fun n hn => by
     have:=(List.mem_filter.1 hn).2
     simpa using this
    generalize l.filter (fun n => !decide (n ≠ a + ((N + 1:Nat):Int))) = q at hdd hall
    match q,hdd,hall with
    | [],_,_ => exact Nat.zero_le _
    | [_],_,_ => exact Nat.le_refl _
    | x :: y :: r,hdd,hall =>
     have e1:=hall x List.mem_cons_self
     have e2:=hall y (List.mem_cons_of_mem _ List.mem_cons_self)
     have:=(List.nodup_cons.1 hdd).1
     exact absurd (by rw [e1,← e2];exact List.mem_cons_self) this
   have hs:=len_parts (fun n => decide (n ≠ a + ((N + 1:Nat):Int))) l
   omega
  omega
end Go.Proofs.YtbpnioehmohbcaaGreat
namespace Go.Proofs.YtbpnioehmohbcaaGreat
open Go.RowKit Go.Maps Go.Sort
structure CI (g:Gm) (l out:List It):Prop where
 pre:∃ r,out = l ++ r ∧ r.Nodup ∧ ∀ x ∈ r,0 ≤ x.1 ∧ x.1 < (g.prods.length:Int) ∧ x.2 = 0
 clo:∀ x ∈ out,CloG g l x
theorem CI.start (g:Gm) (l:List It):CI g l l:=⟨⟨[],(List.append_nil _).symm,List.nodup_nil,fun _ h => absurd h List.not_mem_nil⟩,fun _ h => .own h⟩
theorem CI.add {g:Gm} {l out:List It} (h:CI g l out) {k:Nat} (hk:k < g.prods.length) (hn:((k:Int),(0:Int)) ∉ out) {x:It} (hx:x ∈ out) (e:nxtG g x = g.prods[k].left):CI g l (out ++ [((k:Int),(0:Int))]):=by
 obtain ⟨r,rfl,hr,ha⟩:=h.pre
 refine ⟨⟨r ++ [((k:Int),(0:Int))],by rw [List.append_assoc],?_,?_⟩,?_⟩
 · rw [List.nodup_append]
   refine ⟨hr,List.pairwise_singleton _ _,fun a ha b hb => ?_⟩
   rw [List.mem_singleton] at hb
   subst hb
   exact fun e => hn (e ▸ List.mem_append_right _ ha)
 · intro y hy
   rcases List.mem_append.1 hy with hy | hy
   · exact ha y hy
   · rw [List.mem_singleton] at hy
     subst hy
     exact ⟨Int.natCast_nonneg _,by show (k:Int) < _;omega,rfl⟩
 · intro y hy
   rcases List.mem_append.1 hy with hy | hy
   · exact h.clo y hy
   · rw [List.mem_singleton] at hy
     subst hy
     exact .new hk (h.clo x hx) e
theorem CI.len {g:Gm} {l out:List It} (h:CI g l out):out.length ≤ l.length + g.prods.length:=by
 obtain ⟨r,rfl,hr,ha⟩:=h.pre
 have hm:(r.map Prod.fst).Nodup:=by
  unfold List.Nodup
  rw [List.pairwise_map]
  refine hr.imp_of_mem fun {a b} h1 h2 hne e => hne (Prod.ext e ?_)
  rw [(ha a h1).2.2,(ha b h2).2.2]
 have:=nodup_le g.prods.length (r.map Prod.fst) (-1) hm (fun n hn => by
  obtain ⟨x,hx,rfl⟩:=List.mem_map.1 hn
  have:=ha x hx
  omega)
 rw [List.length_map] at this
 rw [List.length_append]
 omega
theorem CI.items {g:Gm} {l out:List It} (h:CI g l out) (hl:∀ x ∈ l,itB g x = true):∀ x ∈ out,itB g x = true:=fun x hx => itB_of_clo hl (h.clo x hx)
theorem CI.own {g:Gm} {l out:List It} (h:CI g l out) {x:It} (hx:x ∈ l):x ∈ out:=by
 obtain ⟨r,rfl,-⟩:=h.pre
 exact List.mem_append_left _ hx
theorem CI.done {g:Gm} {l out:List It} (h:CI g l out) (hc:∀ k (hk:k < g.prods.length),((k:Int),(0:Int)) ∈ out ∨ ∀ x ∈ out,nxtG g x ≠ g.prods[k].left) (x:It):x ∈ out ↔ CloG g l x:=by
 refine ⟨h.clo x,fun hx => ?_⟩
 induction hx with
 | own hx => exact h.own hx
 | new hk _ he ih =>
  rcases hc _ hk with h1 | h1
  · exact h1
  · exact absurd he (h1 _ ih)
structure CR (g:Gm) (l out0:List It) (k:Nat) (out:List It) (more:Bool):Prop where
 ci:CI g l out
 yes:more = true → out0.length < out.length
 no:more = false → out = out0 ∧ ∀ j,j < k → ∀ (hj:j < g.prods.length),((j:Int),(0:Int)) ∈ out ∨ ∀ x ∈ out,nxtG g x ≠ g.prods[j].left
theorem CR.start {g:Gm} {l out:List It} (h:CI g l out):CR g l out 0 out false:=⟨h,fun h => (by cases h),fun _ => ⟨rfl,fun j hj => absurd hj (Nat.not_lt_zero _)⟩⟩
theorem CR.grow {g:Gm} {l out0 out:List It} {k:Nat} {more:Bool} (h:CR g l out0 k out more) (hk:k < g.prods.length) (hn:out.contains ((k:Int),(0:Int)) = false) {x:It} (hx:x ∈ out) (e:nxtG g x = g.prods[k].left):CR g l out0 (k + 1) (out ++ [((k:Int),(0:Int))]) true:=by
 refine ⟨h.ci.add hk (fun hm => ?_) hx e,fun _ => ?_,fun h => (by cases h)⟩
 · rw [List.contains_iff_mem.2 hm] at hn
   cases hn
 · rw [List.length_append,List.length_singleton]
   cases more with
   | true => have:=h.yes rfl;omega
   | false => rw [(h.no rfl).1];omega
theorem CR.still {g:Gm} {l out0 out:List It} {k:Nat} {more:Bool} (h:CR g l out0 k out more) (hk:k < g.prods.length) (hc:out.contains ((k:Int),(0:Int)) = true ∨ ∀ x ∈ out,nxtG g x ≠ g.prods[k].left):CR g l out0 (k + 1) out more:=by
 refine ⟨h.ci,h.yes,fun hm => ⟨(h.no hm).1,fun j hj hj2 => ?_⟩⟩
 rcases Nat.lt_or_ge j k with h1 | h1
 · exact (h.no hm).2 j h1 hj2
 · obtain rfl:j = k:=by omega
   rcases hc with hc | hc
   · exact .inl (List.contains_iff_mem.1 hc)
   · exact .inr hc
theorem CR.done {g:Gm} {l out0 out:List It} (h:CR g l out0 g.prods.length out false):ofI g out = cloL g l:=ofI_clo fun x => h.ci.done (fun k hk => (h.no rfl).2 k hk hk) x
end Go.Proofs.YtbpnioehmohbcaaGreat
namespace Go.Proofs.YtbpnioehmohbcaaGreat
open Go.RowKit Go.Maps Go.Sort
def itLen:Value → Nat
 | .slice _ n _ => n
 | _ => 0
def boolN:Value → Nat
 | .bool true => 1
 | _ => 0
theorem itLen_own {w:World} {B:Nat} {v:Value} {l:List It} (h:OwnIt w B v l):itLen v = l.length:=by
 obtain ⟨a,c,rfl⟩:=(Its.of_row h).shape
 rfl
set_option maxRecDepth 100000 in
set_option maxHeartbeats 16000000 in
theorem refClosure (g:Gm) (rv nv lv pv v:Value) (l:List It) (w:World) (hV:GmV w rv nv lv pv g) (hb:BndG g) (hr:RgtI g l) (hl:l.length ≤ 100000) (hI:Its w v l) :
 Calls Tryz.prog 19 #[gmA rv nv lv pv g.start,v] w fun e w' => ∃ v',e = .returned v' ∧ OwnIt w' w.heap.size v' (cloL g l) ∧ Below w.heap.size w w':=by
 have hg:=hr.us.snd
 have GN:=hid (fun u (hu:Below w.heap.size w u) x hx => refNextI g _ _ _ _ x u (hV.keep hu) hb hx)
 have GO:=hid (fun u (hu:Below w.heap.size w u) v' l' (hl':l'.length ≤ 1000000) (h:Its u v' l') => refOfI g _ _ _ _ v' l' u (hV.keep hu) hb hg hl' h)
 obtain ⟨pa,pc,rfl⟩:=hV.prods.shape
 obtain ⟨va,vc,rfl⟩:=hI.shape
 have hB1:=al' w (.cells #[rv,nv,lv,.slice pa g.prods.length pc,.int .i64 g.start] 27)
 have k1:=heap_new w (.cells #[rv,nv,lv,.slice pa g.prods.length pc,.int .i64 g.start] 27)
 obtain ⟨W,hW⟩:∃ x,w.alloc (.cells #[rv,nv,lv,.slice pa g.prods.length pc,.int .i64 g.start] 27) = x:=⟨_,rfl⟩
 rw [hW] at hB1 k1
 have hk1:=hid (fun u (hu:Below W.heap.size W u) => cells5m (hs_keep k1 hu))
 have hB:=hid hB1
 have hKp:Hid (∀ u,Below w.heap.size w u → ∀ k (hk:k < g.prods.length),∃ b o,pa = some ⟨b,o,none⟩ ∧ u.cell? ⟨b,o + k * 3,none⟩ = some (.int .i64 g.prods[k].left)):=hid (fun u hu k hk => by
  obtain ⟨b,o,e,-,hx⟩:=(hV.keep hu).prods.at hk
  obtain ⟨v,x0,x1,x2,hN⟩:=hx
  exact ⟨b,o,e,x0⟩)
 have hpp:g.prods.length ≤ 40:=hg.prods
 have cS:=hid (CI.start g l)
 have cZ:=hid (fun out (h:CI g l out) => CR.start h)
 have cG:=hid (fun out0 out (k:Nat) more (h:CR g l out0 k out more) (hk:k < g.prods.length) (hn:out.contains ((k:Int),(0:Int)) = false) x (hx:x ∈ out) (e:nxtG g x = g.prods[k].left) => h.grow hk hn hx e)
 have cT:=hid (fun out0 out (k:Nat) more (h:CR g l out0 k out more) (hk:k < g.prods.length) (hc:out.contains ((k:Int),(0:Int)) = true ∨ ∀ x ∈ out,nxtG g x ≠ g.prods[k].left) => h.still hk hc)
 have cE:=hid (fun out0 out (h:CR g l out0 g.prods.length out false) => h.done)
 have cL:=hid (fun out (h:CI g l out) => h.len)
 have cI:=hid (fun out (h:CI g l out) => h.items hr.all)
 have hI1:=hid (hI.keep hB1)
 have hO0:=hid (OwnIt.nil0 W W.heap.size)
 clear hV hb hg hB1 k1 hI hr
 obtain ⟨pp,hp9⟩:∃ n,Hid (g.prods.length = n):=⟨_,hid rfl⟩
 rw [hp9.out] at GN GO hk1 hpp hW cE ⊢
 obtain ⟨ln,hln⟩:∃ n,Hid (l.length = n):=⟨_,hid rfl⟩
 rw [hln.out] at hl hI1 ⊢
 rw [hp9.out,hln.out] at cL
 generalize g.start = st at *
 go_enter Tryz.func19,Tryz.ntmps19
 go_wp2_with (at_builtin;refine wp_appI _ rfl _ _ rfl W.heap.size [] l _ _ rfl rfl hO0.out hI1.out (by rw [hln.out];simp;omega) (Nat.le_refl _) ?_;intro v1 w1 hO1 hb1;have hO1:=hid hO1;have hb1:=hid hb1)
 rw [List.nil_append] at hO1
 clear hW hO0 hI1
 go_loopw [5,6] (fun v m wr => ∃ (out:List It) (more:Bool),m = .bool more ∧ Hid (OwnIt wr W.heap.size v out) ∧ Hid (CI g l out) ∧ Hid (more = false → ofI g out = cloL g l) ∧ Hid (Below W.heap.size W wr)) (fun v m _ => 2 * (ln + pp - itLen v) + boolN m)
 case atStart => exact ⟨l,true,rfl,hO1,cS,hid (fun h => by cases h),hb1⟩
 case round =>
  clear hO1 hb1 cS
  obtain ⟨out,more,rfl,hO,hC,hF,hbl⟩:=hrel
  cases more with
  | false =>
   have hlo:=cL.out out hC.out
   have G:=hid (GO.out wr (bl_step hB.out hbl.out) _ out (by omega) (Its.of_row hO.out))
   obtain ⟨y0,y1,y2,y3,y4⟩:=hk1.out wr hbl.out
   rw [hF.out rfl] at G
   clear hO
   go_wp2_with (go_at_call 22;refine G.out.mono ?_;clear G;rintro e w5 ⟨v5,rfl,hO5,hc5⟩;have hO5:=hid hO5;have hc5:=hid hc5)
   go_ret
   exact ⟨_,rfl,own_base hO5.out (bl_step hB.out hbl.out).size,bl_step hB.out (bl_step hbl.out hc5.out)⟩
  | true =>
   clear hF
   have hR0:=hid (cZ.out out hC.out)
   have hlen0:=hid (itLen_own hO.out)
   have hlo0:=hid (cL.out out hC.out)
   go_wp2
   go_loopw [5,6,7] (fun v m p u => ∃ (k:Nat) (o2:List It) (m2:Bool),k ≤ pp ∧ p = .int .i64 (k:Int) ∧ m = .bool m2 ∧ Hid (OwnIt u W.heap.size v o2) ∧ Hid (CR g l out k o2 m2) ∧ Hid (Below W.heap.size W u)) (fun _ _ p _ => pp - (intOf p).toNat)
   case atStart => exact ⟨0,out,false,Nat.zero_le _,rfl,rfl,hO,hR0,hbl⟩
   case round =>
    clear hO hbl hR0
    obtain ⟨k,o2,m2,hk,rfl,rfl,hO,hR,hbl⟩:=hrel
    obtain ⟨y0,y1,y2,y3,y4⟩:=hk1.out _ hbl.out
    by_cases hlt:k < pp
    · have hltz:(k:Int) < (pp:Int):=by omega
      have hkl:k < g.prods.length:=by rw [hp9.out];exact hlt
      obtain ⟨wo,hwo⟩:∃ x,x = wr:=⟨_,rfl⟩
      subst hwo
      obtain ⟨oa,oc,rfl⟩:=(Its.of_row hO.out).shape
      have hlo2:=hid (cL.out o2 hR.out.ci)
      have hal:=al' wo (.cells #[.int .i64 (k:Int),.int .i64 0] 29)
      have kx:=hid (heap_new wo (.cells #[.int .i64 (k:Int),.int .i64 0] 29))
      have hO1:=hid (own_below hO.out hal)
      have hb1:=hid (bl_step hbl.out hal)
      obtain ⟨ol,hol⟩:∃ n,Hid (o2.length = n):=⟨_,hid rfl⟩
      have hol9:ol ≤ 200000:=by rw [← hol.out];have:=hlo2.out;omega
      have GH:=hid (refHasI _ o2 ((k:Int),0) (wo.alloc (.cells #[.int .i64 (k:Int),.int .i64 0] 29)) (by rw [hol.out];omega) (Its.of_row hO1.out))
      rw [hol.out] at GH ⊢
      clear hal
      cases hc:o2.contains ((k:Int),0) with
      | true =>
       rw [hc] at GH
       have hT:=hid (cT.out _ _ _ _ hR.out hkl (.inl hc))
       clear hc kx hO hbl hR
       go_wp2_with (go_at_call 23;refine GH.out.mono ?_;clear GH;rintro e w4 ⟨rfl,hc4⟩;have hO4:=hid (own_below hO1.out hc4);have hb4:=hid (bl_step hb1.out hc4);clear hc4 hO1 hb1)
       go_roundw
       case rel => exact ⟨k + 1,o2,m2,by omega,by go_num,rfl,by rw [← hol.out];exact hO4,hT,hb4⟩
       case measure => simp [intOf];omega
      | false =>
       rw [hc] at GH
       have hcH:=hid hc
       clear hc hO hbl
       go_wp2_with (go_at_call 23;refine GH.out.mono ?_;clear GH;rintro e w4 ⟨rfl,hc4⟩;have hO4:=hid (own_below hO1.out hc4);have hb4:=hid (bl_step hb1.out hc4);have kx4:=hid (hs_keep kx.out hc4);clear hc4 hO1 hb1 y0 y1 y2 y3 y4)
       clear kx
       have b40:=hid (Below.refl w4.heap.size w4)
       go_loopw [5,6,9] (fun v5 m6 i u => ∃ ii:Nat,v5 = .slice oa ol oc ∧ m6 = .bool m2 ∧ ii ≤ ol ∧ i = .int .i64 (ii:Int) ∧ Hid (∀ j,j < ii → ∀ hj:j < o2.length,nxtG g o2[j] ≠ g.prods[k].left) ∧ Hid (Below w4.heap.size w4 u)) (fun _ _ i _ => ol - (intOf i).toNat)
       case atStart => exact ⟨0,rfl,rfl,Nat.zero_le _,rfl,hid (fun j hj => absurd hj (Nat.not_lt_zero _)),b40⟩
       case round =>
        clear b40
        obtain ⟨ii,rfl,rfl,hi,rfl,hN,hbu⟩:=hrel
        have hb5:=hid (bl_step hb4.out hbu.out)
        have hO5:=hid (own_below hO4.out hbu.out)
        by_cases hlt2:ii < ol
        · have hltz2:(ii:Int) < (ol:Int):=by omega
          have hil:ii < o2.length:=by rw [hol.out];exact hlt2
          obtain ⟨pb,po,pe,zp⟩:=hKp.out wr (bl_step hB.out hb5.out) k hkl
          subst pe
          have hat:=Its.of_row hO5.out
          rw [hol.out] at hat
          obtain ⟨b,o,e,-,z0,z1⟩:=Lst.at hat hil
          subst e
          obtain ⟨y0,y1,y2,y3,y4⟩:=hk1.out _ hb5.out
          have hx:=cI.out o2 hR.out.ci _ (List.getElem_mem hil)
          have cA:Hid (∀ d os,Calls Tryz.prog 16 #[gmA rv nv lv (.slice (some ⟨pb,po,none⟩) pp pc) st,itV o2[ii]] (grow (redrawn wr d) os) fun e w'' => e = .returned (.int .i64 (nxtG g o2[ii])) ∧ ∃ p:Regrown,w'' = grow (redrawn wr p.d) p.os):=hid (fun d os => Calls.regrown_of (GN.out _ (bl_step hB.out (bl_step hb5.out (below_regrown wr d os))) _ hx))
          have z0:=cell_regrown z0
          have z1:=cell_regrown z1
          have zp:=cell_regrown zp
          have y0:=cell_regrown y0
          have y1:=cell_regrown y1
          have y2:=cell_regrown y2
          have y3:=cell_regrown y3
          have y4:=cell_regrown y4
          have hyes:=hid (fun h => cG.out _ _ _ _ hR.out hkl hcH.out _ (List.getElem_mem hil) h)
          clear hat hx
          by_cases hd:nxtG g o2[ii] = g.prods[k].left
          · have hq:(nxtG g o2[ii] == g.prods[k].left) = true:=beq_iff_eq.2 hd
            have hT:=hid (hyes.out hd)
            clear hyes hd hN
            generalize nxtG g o2[ii] = nx at *
            generalize g.prods[k].left = lf at *
            go_wp2_with fail
            refine wp_region_quiet_below (by kernel_rfl) (by kernel_rfl) ?_
            repeat (first | go_big_quiet_step (exact cA.out _ _) | quiet_step (exact cA.out _ _))
            refine wpQuiet_nil ?_
            intro _ hw'
            obtain ⟨⟨dq,osq⟩,hw''⟩:=hw'
            subst hw''
            have hb6:=hid (bl_step hb5.out (below_regrown wr dq osq))
            have hO6:=hid (own_below hO5.out (below_regrown wr dq osq))
            have kx6:=hid (hs_keep kx4.out (bl_step hbu.out (below_regrown wr dq osq)))
            generalize grow (redrawn wr dq) osq = w6 at *
            obtain ⟨f0,f1⟩:=cells2h kx6.out
            have hal:=al' w6 (.cells #[.int .i64 (k:Int),.int .i64 0] 29)
            have hOa:Hid (OwnIt (w6.alloc (.cells #[.int .i64 (k:Int),.int .i64 0] 29)) W.heap.size (.slice (some ⟨b,o,none⟩) ol oc) o2):=hid (by rw [← hol.out];exact own_below hO6.out hal)
            have hDa:=hid (Its.lit1 w6 (k:Int) 0)
            have hBa:=hid (bl_step hb6.out hal)
            clear z0 z1 zp y0 y1 y2 y3 y4 hal hq cA hO5 hO6 kx6 hb5 hO4 hbu
            go_wp2_with (at_builtin;refine wp_appI _ rfl _ _ rfl W.heap.size o2 [((k:Int),0)] _ _ rfl rfl hOa.out hDa.out (by rw [hol.out];simp;omega) hBa.out.size ?_;intro v9 w9 hO9 hb9;have hO9:=hid hO9;have hb9:=hid (hBa.out.trans hb9))
            go_roundw
            case rel => exact ⟨k + 1,_,true,by omega,by go_num,rfl,hO9,hT,hb9⟩
            case measure => simp [intOf];omega
          · have hq:(nxtG g o2[ii] == g.prods[k].left) = false:=beq_eq_false_iff_ne.2 hd
            have hN9:Hid (∀ j,j < ii + 1 → ∀ hj:j < o2.length,nxtG g o2[j] ≠ g.prods[k].left):=hid (fun j hj1 hj => by
             rcases Nat.lt_or_ge j ii with h | h
             · exact hN.out j h hj
             · obtain rfl:j = ii:=by omega
               exact hd)
            clear hyes hd hN
            generalize nxtG g o2[ii] = nx at *
            obtain ⟨lf,hlf⟩:∃ x,Hid (g.prods[k].left = x):=⟨_,hid rfl⟩
            rw [hlf.out] at hq zp
            go_wp2_with fail
            refine wp_region_quiet_below (by kernel_rfl) (by kernel_rfl) ?_
            repeat (first | go_big_quiet_step (exact cA.out _ _) | quiet_step (exact cA.out _ _))
            refine wpQuiet_nil ?_
            intro _ hw'
            obtain ⟨⟨dq,osq⟩,hw''⟩:=hw'
            subst hw''
            have hb6:=hid (bl_step hbu.out (below_regrown wr dq osq))
            generalize grow (redrawn wr dq) osq = w6 at *
            clear z0 z1 zp y0 y1 y2 y3 y4 hq cA hO5 hb5
            go_wp2
            go_roundw
            case rel => exact ⟨ii + 1,rfl,rfl,by omega,by go_num,hN9,hb6⟩
            case measure => simp [intOf];omega
        · have hltz2:¬ (ii:Int) < (ol:Int):=by omega
          obtain rfl:ii = ol:=by omega
          have hT:=hid (cT.out _ _ _ _ hR.out hkl (.inr fun x hx => by
           obtain ⟨j,hj,rfl⟩:=List.getElem_of_mem hx
           exact hN.out j (by rw [← hol.out];exact hj) hj))
          go_wp2
          go_roundw
          case rel => exact ⟨k + 1,o2,m2,by omega,by go_num,rfl,by rw [← hol.out];exact hO5,hT,hb5⟩
          case measure => simp [intOf];omega
    · have hltz:¬ (k:Int) < (pp:Int):=by omega
      obtain rfl:k = pp:=by omega
      have hl2:=hid (itLen_own hO.out)
      have hlo2:=hid (cL.out o2 hR.out.ci)
      have hF2:Hid (m2 = false → ofI g o2 = cloL g l):=hid (fun h => by subst h;exact cE.out _ _ hR.out)
      have hms:Hid (2 * (ln + k - o2.length) + boolN (.bool m2) < 2 * (ln + k - out.length) + 1):=hid (by
       cases m2 with
       | true => have:=hR.out.yes rfl;have:=hlo2.out;show _ + 1 < _;omega
       | false => rw [(hR.out.no rfl).1];show _ + 0 < _;omega)
      go_wp2
      go_roundw
      case rel => exact ⟨o2,m2,rfl,hO,hid hR.out.ci,hF2,hbl⟩
      case measure => have:=hms.out;rw [hl2.out,hlen0.out];exact this
end Go.Proofs.YtbpnioehmohbcaaGreat
namespace Go.Proofs.YtbpnioehmohbcaaGreat
open Go.RowKit Go.Maps Go.Sort
structure RestI (R:Prop):Prop where
 out:R
theorem collapseI {R G:Prop} (h:RestI R → G) (pf:R):G:=h ⟨pf⟩
set_option maxRecDepth 20000 in
theorem step_runI {ops:Array Oper} {o:Oper} {a:Act} {w:World} {K:Act → World → Prop} {Q:Exit → Act → World → Prop} {E:Prop} (hgd:o.guard = none) (s x:Operand) (t:TypeId)
 (ho:o.op = .call { callee:=.builtin .append,args:=#[s,x],argTypes:=#[t,t] }) (v vx:Value) (hs:a.eval s = v) (hx:a.eval x = vx) {v':Value} {w':World}
 (hr:(Builtin.append_ #[t,t] o.type #[v,vx]).run Tryz.prog w = .ok v' w') (h:K (a.put o.dst v') w'):if Region.wanted o (yielded ops a.tmps) = true then Oper.wp Tryz.prog o a w K Q else E:=by
 have hw:Region.wanted o (yielded ops a.tmps) = true:=by simp [Region.wanted,hgd]
 rw [if_pos hw]
 unfold Oper.wp
 simp [execOp,ho,resolve,invoke,builtin,hs,hx,hr,Result.andThen]
 exact h
theorem step_callW {P:Program} {ops:Array Oper} {o:Oper} {a:Act} {w:World} {K:Act → World → Prop} {Q:Exit → Act → World → Prop} {E:Prop} (hw:Region.wanted o (yielded ops a.tmps) = true) (f:FuncId) (args:Array Value)
 (hrun:(execOp a.eval o).run P w = .ok (.enter f args) w) {R:Ending → World → Prop} (hc:Calls P f args w R) (h:∀ e w',R e w' → ∃ v,e = .returned v ∧ K (a.put o.dst v) w') :
 if Region.wanted o (yielded ops a.tmps) = true then Oper.wp P o a w K Q else E:=by
 rw [if_pos hw]
 unfold Oper.wp
 rw [hrun,Oper.upon_enter]
 refine hc.mono fun e w' hr => ?_
 obtain ⟨v,rfl,hk⟩:=h e w' hr
 exact hk
set_option maxRecDepth 20000 in
theorem run_appI1 {B:Nat} {l:List It} {v:Value} {x y:Int} {u:World} (hO:OwnIt u B v l) (hl:l.length ≤ 1000000) (hB:B ≤ u.heap.size) :
 ∃ g c w',(Builtin.append_ #[36,36] 36 #[v,.slice (some ⟨u.heap.size,0,none⟩) 1 1]).run Tryz.prog ((u.alloc (.cells #[.int .i64 x,.int .i64 y] 29)).drew) = .ok (.slice (some ⟨g,0,none⟩) (l.length + 1) c) w' ∧ OwnIt w' B (.slice (some ⟨g,0,none⟩) (l.length + 1) c) (l ++ [(x,y)]) ∧ Below B u w':=by
 obtain ⟨i0,hi,hz0,hz1,hz2⟩:=info_parts infoIt
 have hal:=al' u (.cells #[.int .i64 x,.int .i64 y] 29)
 have hd:Below u.heap.size u ((u.alloc (.cells #[.int .i64 x,.int .i64 y] 29)).drew):=hal.drew
 have hO1:=own_below hO hd
 have k1:((u.alloc (.cells #[.int .i64 x,.int .i64 y] 29)).drew).heap[u.heap.size]? = some (.cells #[.int .i64 x,.int .i64 y] 29):=heap_new u (.cells #[.int .i64 x,.int .i64 y] 29)
 obtain ⟨v',w',hr,hO',hg,hnil⟩:=run_append_own (P:=Tryz.prog) ((u.alloc (.cells #[.int .i64 x,.int .i64 y] 29)).drew) B 36 36 29 i0 (.agg #[.int .i64 0,.int .i64 0]) 2 16 Tryz.underlying36 hi hz0 hz1 hz2 rfl (by decide) _ _ _ hO1 ⟨u.heap.size,0,none⟩ 1 1 [.int .i64 x,.int .i64 y] rfl (World.news_of_block k1) (by simp [Value.oneCell']) (by unfold maxLen;omega) (by omega) (Nat.le_trans hB hd.size)
 have hO2:OwnIt w' B v' (l ++ [(x,y)]):=by
  unfold OwnIt
  rw [itCells_app,List.length_append]
  exact hO'
 obtain ⟨a,c,e⟩:=(Its.of_row hO2).shape
 rw [List.length_append,List.length_singleton] at e
 rcases hO2.2 with ⟨e0,h0⟩ | ⟨g,cap,cur,e1,_⟩
 · rw [List.length_append,List.length_singleton] at h0;omega
 · rw [e1] at hO2 hr
   rw [List.length_append,List.length_singleton] at hO2 hr
   exact ⟨g,cap,w',hr,hO2,(hd.mono hB).grown hg (Nat.le_trans hB hd.size) (fun k hk => (hO1.lt k hk).1)⟩
end Go.Proofs.YtbpnioehmohbcaaGreat
