/- The reference: names. The reference: Sound. The reader: giveUp, atName, atSign, inAlternative, take, takeName, takeSign. One more in a row of the reader: what an append and a store leave. -/
import Derived.Test.YtfhokapfkclckaaGreatK24
import Derived.Test.YtfhokapfkclckaaGreatK15
import Derived.Test.YtfhokapfkclckaaGreatK17
namespace Go.Proofs.YtfhokapfkclckaaGreat
open Go.RowKit Go.Maps Go.Sort
def namesB (g:Gm):Bool:=(g.rules.all fun r => rightB r.re) && (g.allN.all namB && decide g.allN.Nodup)
theorem namesB_right {g:Gm} {k:Nat} (hk:k < g.rules.length) (h:rightB g.rules[k].re = false):namesB g = false:=by
 unfold namesB
 have:(g.rules.all fun r => rightB r.re) = false:=by
  rw [List.all_eq_false]
  exact ⟨_,List.getElem_mem hk,by rw [h];decide⟩
 rw [this];rfl
theorem namesB_named {g:Gm} {k:Nat} (hk:k < g.allN.length) (h:namB g.allN[k] = false):namesB g = false:=by
 unfold namesB
 have:g.allN.all namB = false:=by
  rw [List.all_eq_false]
  exact ⟨_,List.getElem_mem hk,by rw [h];decide⟩
 rw [this,Bool.false_and,Bool.and_false]
theorem namesB_twice {g:Gm} {k i:Nat} (hi:i < g.allN.length) (hk:k < i) (h:g.allN[k]'(by omega) = g.allN[i]):namesB g = false:=by
 unfold namesB
 have:decide g.allN.Nodup = false:=decide_eq_false fun hn => by
  have:=List.pairwise_iff_getElem.1 hn k i (by omega) hi hk
  exact this h
 rw [this,Bool.and_false,Bool.and_false]
theorem namesB_yes {g:Gm} (h1:∀ k (hk:k < g.rules.length),rightB g.rules[k].re = true) (h2:∀ k (hk:k < g.allN.length),namB g.allN[k] = true) (h3:∀ k i (hi:i < g.allN.length) (hk:k < i),g.allN[k]'(by omega) ≠ g.allN[i]):namesB g = true:=by
 unfold namesB
 have e1:(g.rules.all fun r => rightB r.re) = true:=by
  rw [List.all_eq_true]
  intro r hr
  obtain ⟨k,hk,rfl⟩:=List.getElem_of_mem hr
  exact h1 k hk
 have e2:g.allN.all namB = true:=by
  rw [List.all_eq_true]
  intro r hr
  obtain ⟨k,hk,rfl⟩:=List.getElem_of_mem hr
  exact h2 k hk
 have e3:decide g.allN.Nodup = true:=decide_eq_true (List.pairwise_iff_getElem.2 fun k i hk hi hki => h3 k i hi hki)
 rw [e1,e2,e3];rfl
theorem strT_beq2 (s t:Txt):((strT s).toList == (strT t).toList) = decide (s = t):=by
 rw [strT_toL,strT_toL]
 by_cases h:s = t
 · subst h;simp
 · simp [h]
set_option maxRecDepth 20000 in
set_option maxHeartbeats 16000000 in
theorem namesC (g:Gm) (rv nv lv pv:Value) (w:World) (hV:GmV w rv nv lv pv g) (hr:g.rules.length ≤ 1000) (hn:g.nonts.length ≤ 1000) (hnl:∀ t ∈ g.allN,t.length ≤ 1000000) :
 Calls Tryz.prog 25 #[gmA rv nv lv pv g.start] w fun e w' => e = .returned (.bool (namesB g)) ∧ Below w.heap.size w w':=by
 obtain ⟨ra,rc,rfl⟩:=hV.rules.shape
 obtain ⟨na,nc,rfl⟩:=hV.nonts.shape
 have hB1:=al' w (.cells #[.slice ra g.rules.length rc,.slice na g.nonts.length nc,lv,pv,.int .i64 g.start] 27)
 have k1:=heap_new w (.cells #[.slice ra g.rules.length rc,.slice na g.nonts.length nc,lv,pv,.int .i64 g.start] 27)
 obtain ⟨W,hW⟩:∃ x,w.alloc (.cells #[.slice ra g.rules.length rc,.slice na g.nonts.length nc,lv,pv,.int .i64 g.start] 27) = x:=⟨_,rfl⟩
 rw [hW] at hB1 k1
 have hk1:Hid (∀ u,Below W.heap.size W u → u.cell? ⟨w.heap.size,0,none⟩ = some (.slice ra g.rules.length rc) ∧ u.cell? ⟨w.heap.size,1,none⟩ = some (.slice na g.nonts.length nc)):=hid (fun u hu => ⟨blk_cell (hs_keep k1 hu) rfl,blk_cell (hs_keep k1 hu) rfl⟩)
 have hB:=hid hB1
 have hKr:Hid (∀ u,Below w.heap.size w u → ∀ k (hk:k < g.rules.length),∃ b o q1 q3,ra = some ⟨b,o,none⟩ ∧ u.cell? ⟨b,o + k * 3,none⟩ = some (.string (strT g.rules[k].name)) ∧ u.cell? ⟨b,o + k * 3 + 1,none⟩ = some (.slice q1 g.rules[k].re.length q3) ∧ Calls Tryz.prog 49 #[.slice q1 g.rules[k].re.length q3] u fun e w' => e = .returned (.bool (rightB g.rules[k].re)) ∧ w' = u):=hid (fun u hu k hk => by
  obtain ⟨b,o,e,-,hx⟩:=(hV.keep hu).rules.at hk
  obtain ⟨v,x0,x1,x2,hN⟩:=hx
  have hN2:=hN
  obtain ⟨q1,q3,rfl,_⟩:=hN2
  exact ⟨b,o,q1,q3,e,x0,x1,rightC _ _ u hN⟩)
 have hKn:Hid (∀ u,Below w.heap.size w u → Lst 1 TxtAt u (.slice na g.nonts.length nc) g.nonts):=hid (fun u hu => (hV.keep hu).nonts)
 have hbr:=hid (fun k (hk:k < g.rules.length) h => namesB_right hk h)
 have hbn:=hid (fun k (hk:k < g.allN.length) h => namesB_named hk h)
 have hbt:=hid (fun k i (hi:i < g.allN.length) (hk:k < i) h => namesB_twice hi hk h)
 have hby:=hid (fun h1 h2 h3 => namesB_yes (g:=g) h1 h2 h3)
 have GN:=hid (fun k (hk:k < g.allN.length) u => namedC g.allN[k] u (hnl _ (List.getElem_mem hk)))
 obtain ⟨F1,hF1⟩:∃ F:Nat → List Txt,Hid (∀ k,(g.rules.take k).map Rl.name = F k):=⟨_,hid (fun _ => rfl)⟩
 have s1:Hid (∀ k (hk:k < g.rules.length),F1 (k + 1) = F1 k ++ [g.rules[k].name]):=hid (fun k hk => by
  rw [← hF1.out,← hF1.out,List.take_add_one,List.getElem?_eq_getElem hk,Option.toList_some,List.map_append]
  rfl)
 have l1:Hid (∀ k,(F1 k).length ≤ 1000):=hid (fun k => by rw [← hF1.out,List.length_map,List.length_take];omega)
 have e1:Hid (F1 g.rules.length ++ g.nonts = g.allN):=hid (by rw [← hF1.out,List.take_length];rfl)
 have hO0:Hid (OwnT W W.heap.size (.slice none 0 0) (F1 0)):=hid (by rw [← hF1.out];exact World.ownsRow_nil _ _ _ _)
 have lA:g.allN.length ≤ 2000:=by unfold Gm.allN;rw [List.length_append,List.length_map];omega
 clear hV hB1 k1 hF1 hnl
 generalize namesB g = R at *
 obtain ⟨rn,hrn⟩:∃ n,Hid (g.rules.length = n):=⟨_,hid rfl⟩
 obtain ⟨nn,hnn⟩:∃ n,Hid (g.nonts.length = n):=⟨_,hid rfl⟩
 rw [hrn.out] at hr hk1 hW e1 ⊢
 rw [hnn.out] at hn hk1 hW hKn ⊢
 generalize g.start = st at *
 go_enter Tryz.func25,Tryz.ntmps25
 go_wp2
 clear hW
 go_loopw [3,4] (fun v i wr => ∃ k:Nat,k ≤ rn ∧ i = .int .i64 (k:Int) ∧ Hid (OwnT wr W.heap.size v (F1 k)) ∧ Hid (∀ j (hj:j < g.rules.length),j < k → rightB g.rules[j].re = true) ∧ Hid (Below W.heap.size W wr)) (fun _ i _ => rn - (intOf i).toNat)
 case atStart => exact ⟨0,Nat.zero_le _,rfl,hO0,hid (fun _ _ h => absurd h (Nat.not_lt_zero _)),hid (Below.refl _ _)⟩
 case round =>
  obtain ⟨k,hk,rfl,hO,hrt,hbl⟩:=hrel
  have hbw:=hid (bl_step hB.out hbl.out)
  obtain ⟨y0,y1⟩:=hk1.out wr hbl.out
  by_cases hlt:k < rn
  · have hltz:(k:Int) < (rn:Int):=by omega
    have hkl:k < g.rules.length:=by rw [hrn.out];exact hlt
    obtain ⟨b,o,q1,q3,e,x0,x1,-⟩:=hKr.out wr hbw.out k hkl
    subst e
    have hal:=al' wr (.cells #[.string (strT g.rules[k].name)] 9)
    have hOa:=hid (own_below hO.out hal)
    have hDa:=hid (txt_one wr g.rules[k].name)
    have hBa:=hid (bl_step hbl.out hal)
    have hs:=hid (s1.out k hkl)
    have hln:=l1.out k
    have hap:=hid (fun u (hu:Below W.heap.size W u) => hKr.out u (bl_step hB.out hu) k hkl)
    have hmore:Hid (rightB g.rules[k].re = true → ∀ j (hj:j < g.rules.length),j < k + 1 → rightB g.rules[j].re = true):=hid (fun h j hj h9 => by
     rcases Nat.lt_or_ge j k with h8 | h8
     · exact hrt.out j hj h8
     · obtain rfl:j = k:=by omega
       exact h)
    have hb9:=hid (fun h => hbr.out k hkl h)
    clear hal hO hrt hbr
    generalize g.rules[k].name = nm at *
    generalize g.rules[k].re.length = rl at *
    cases hrb:rightB g.rules[k].re with
    | true =>
     have hm9:=hid (hmore.out hrb)
     rw [hrb] at hap
     clear hmore hb9
     go_wp2_with (first
      | (at_builtin;refine wp_appT _ rfl _ _ rfl W.heap.size (F1 k) [nm] _ _ rfl rfl hOa.out hDa.out (by simp;omega) hBa.out.size ?_;intro v3 w3 hO3 hb3;have hO4:Hid (OwnT w3 W.heap.size v3 (F1 (k + 1))):=(by rw [hs.out];exact hid hO3);have hb4:=hid (hBa.out.trans hb3);obtain ⟨z0,z1⟩:=hk1.out w3 hb4.out;obtain ⟨b',o',q1',q3',e',x0',x1',G'⟩:=hap.out w3 hb4.out;injection e' with e';injection e' with e' e'' _;subst e' e'';have G':=hid G';clear hO3 hb3 hap hOa hDa)
      | (go_at_call 49;refine G'.out.mono ?_;clear G';rintro e w4 ⟨rfl,hc4⟩;subst w4))
     go_roundw
     case rel => exact ⟨k + 1,by omega,by go_num,hO4,hm9,hb4⟩
     case measure => simp [intOf];omega
    | false =>
     obtain rfl:=hb9.out hrb
     rw [hrb] at hap
     clear hmore hb9
     go_wp2_with (first
      | (at_builtin;refine wp_appT _ rfl _ _ rfl W.heap.size (F1 k) [nm] _ _ rfl rfl hOa.out hDa.out (by simp;omega) hBa.out.size ?_;intro v3 w3 hO3 hb3;have hb4:=hid (hBa.out.trans hb3);obtain ⟨z0,z1⟩:=hk1.out w3 hb4.out;obtain ⟨b',o',q1',q3',e',x0',x1',G'⟩:=hap.out w3 hb4.out;injection e' with e';injection e' with e' e'' _;subst e' e'';have G':=hid G';clear hO3 hb3 hap hOa hDa)
      | (go_at_call 49;refine G'.out.mono ?_;clear G';rintro e w4 ⟨rfl,hc4⟩;subst w4))
     go_ret
     exact ⟨rfl,bl_step hB.out hb4.out⟩
  · have hltz:¬ (k:Int) < (rn:Int):=by omega
    obtain rfl:k = rn:=by omega
    have hD:=hid (hKn.out wr hbw.out)
    have hln:=l1.out k
    have hrt9:=hid (fun j (hj:j < g.rules.length) => hrt.out j hj (by rw [hrn.out] at hj;exact hj))
    clear hrt hKr hbr s1 l1
    go_wp2_with (at_builtin;refine wp_appT _ rfl _ _ rfl W.heap.size (F1 k) g.nonts _ _ rfl rfl hO.out hD.out (by rw [hnn.out];omega) hbl.out.size ?_;intro v3 w3 hO3 hb3;rw [e1.out] at hO3;obtain ⟨va,vc,hve⟩:=own_shape hO3;subst hve;have hb4:=hid (hbl.out.trans hb3);have hO4:=hid hO3;clear hO3 hb3 hO hD)
    clear hltz hlt hk hbl hbw y0 y1 hKn hln hk1
    have hcell:Hid (∀ u,Below w3.heap.size w3 u → ∀ j (hj:j < g.allN.length),∃ gb,va = some ⟨gb,0,none⟩ ∧ u.cell? ⟨gb,j,none⟩ = some (.string (strT g.allN[j]))):=hid (fun u hu j hj => by
     obtain ⟨gb,e,hc⟩:=OwnT.at (own_below hO4.out hu) hj
     refine ⟨gb,e,?_⟩
     rw [hc,List.getD_eq_getElem?_getD,List.getElem?_eq_getElem hj]
     rfl)
    obtain ⟨n,hnA⟩:∃ n,Hid (g.allN.length = n):=⟨_,hid rfl⟩
    have hB4:=hid (bl_step hB.out hb4.out)
    rw [hnA.out] at lA ⊢
    clear hO4
    go_loopw [5] (fun i wr => ∃ k:Nat,k ≤ n ∧ i = .int .i64 (k:Int) ∧ Hid (∀ j (hj:j < g.allN.length),j < k → namB g.allN[j] = true) ∧ Hid (∀ a b (hb:b < g.allN.length) (hab:a < b),b < k → g.allN[a]'(by omega) ≠ g.allN[b]) ∧ Hid (Below w3.heap.size w3 wr)) (fun i _ => n - (intOf i).toNat)
    case atStart => exact ⟨0,Nat.zero_le _,rfl,hid (fun _ _ h => absurd h (Nat.not_lt_zero _)),hid (fun _ _ _ _ h => absurd h (Nat.not_lt_zero _)),hid (Below.refl _ _)⟩
    case round =>
     obtain ⟨k2,hk2,rfl,hq1,hq2,hbl⟩:=hrel
     by_cases hlt:k2 < n
     · have hltz:(k2:Int) < (n:Int):=by omega
       have hkl:k2 < g.allN.length:=by rw [hnA.out];exact hlt
       obtain ⟨gb,e,x0⟩:=hcell.out _ hbl.out k2 hkl
       subst e
       have G:=hid (GN.out k2 hkl wr)
       have hbn9:=hid (fun h => hbn.out k2 hkl h)
       cases hnb:namB g.allN[k2] with
       | false =>
        obtain rfl:=hbn9.out hnb
        rw [hnb] at G
        clear hnb hq1 hq2 hbn9
        generalize g.allN[k2] = tx at *
        go_wp2_with (go_at_call 50;refine G.out.mono ?_;clear G;rintro e w4 ⟨rfl,hc4⟩;subst w4)
        go_ret
        exact ⟨rfl,bl_step hB4.out hbl.out⟩
       | true =>
        rw [hnb] at G
        have hq3:Hid (∀ j (hj:j < g.allN.length),j < k2 + 1 → namB g.allN[j] = true):=hid (fun j hj h9 => by
         rcases Nat.lt_or_ge j k2 with h8 | h8
         · exact hq1.out j hj h8
         · obtain rfl:j = k2:=by omega
           exact hnb)
        clear hnb hq1 hbn9
        go_wp2_with (go_at_call 50;refine G.out.mono ?_;clear G;rintro e w4 ⟨rfl,hc4⟩;subst w4)
        clear x0 hltz
        go_loopw [6] (fun i wr => ∃ m:Nat,m ≤ k2 ∧ i = .int .i64 (m:Int) ∧ Hid (∀ a (ha:a < k2),a < m → g.allN[a]'(by omega) ≠ g.allN[k2]) ∧ Hid (Below w3.heap.size w3 wr)) (fun i _ => k2 - (intOf i).toNat)
        case atStart => exact ⟨0,Nat.zero_le _,rfl,hid (fun _ _ h => absurd h (Nat.not_lt_zero _)),hbl⟩
        case round =>
         clear hbl
         obtain ⟨m,hm,rfl,hq4,hbl⟩:=hrel
         by_cases hlm:m < k2
         · have hlmz:(m:Int) < (k2:Int):=by omega
           have hmn:(m:Int) < (n:Int):=by omega
           have hkn:(k2:Int) < (n:Int):=by omega
           have hml:m < g.allN.length:=by omega
           obtain ⟨gb1,e1,x1⟩:=hcell.out _ hbl.out m hml
           obtain ⟨gb2,e2,x2⟩:=hcell.out _ hbl.out k2 hkl
           injection e1 with e1
           injection e1 with e1 _ _
           injection e2 with e2
           injection e2 with e2 _ _
           subst e1 e2
           by_cases he:g.allN[m] = g.allN[k2]
           · obtain rfl:=hbt.out m k2 hkl hlm he
             have hz:((strT g.allN[m]).toList == (strT g.allN[k2]).toList) = true:=by rw [strT_beq2];exact decide_eq_true he
             clear hq4 hq2 he hq3
             generalize strT g.allN[m] = s1 at *
             generalize strT g.allN[k2] = s2 at *
             go_wp2_with fail
             go_quiet (fail)
             go_wp2
             go_ret
             exact ⟨rfl,by first | exact bl_step hB4.out (belowN hbl.out) | exact bl_step hB4.out (belowN (belowN hbl.out))⟩
           · have hq5:Hid (∀ a (ha:a < k2),a < m + 1 → g.allN[a]'(by omega) ≠ g.allN[k2]):=hid (fun a ha h9 => by
              rcases Nat.lt_or_ge a m with h8 | h8
              · exact hq4.out a ha h8
              · obtain rfl:a = m:=by omega
                exact he)
             have hz:((strT g.allN[m]).toList == (strT g.allN[k2]).toList) = false:=by rw [strT_beq2];exact decide_eq_false he
             clear hq4 he
             generalize strT g.allN[m] = s1 at *
             generalize strT g.allN[k2] = s2 at *
             go_wp2_with fail
             go_quiet (fail)
             go_wp2
             go_roundw
             case rel => exact ⟨m + 1,by omega,by go_num,hq5,hid (by first | exact belowN hbl.out | exact belowN (belowN hbl.out))⟩
             case measure => simp [intOf];omega
         · have hlmz:¬ (m:Int) < (k2:Int):=by omega
           have hq6:Hid (∀ a b (hb:b < g.allN.length) (hab:a < b),b < k2 + 1 → g.allN[a]'(by omega) ≠ g.allN[b]):=hid (fun a b hb hab h9 => by
            rcases Nat.lt_or_ge b k2 with h8 | h8
            · exact hq2.out a b hb hab h8
            · obtain rfl:b = k2:=by omega
              exact hq4.out a hab (by omega))
           clear hq4 hq2
           go_wp2
           go_roundw
           case rel => exact ⟨k2 + 1,by omega,by go_num,hq3,hq6,hbl⟩
           case measure => simp [intOf];omega
     · have hltz:¬ (k2:Int) < (n:Int):=by omega
       obtain rfl:=hby.out hrt9.out (fun j hj => hq1.out j hj (by rw [hnA.out] at hj;omega)) (fun a b hb hab => hq2.out a b hb hab (by rw [hnA.out] at hb;omega))
       clear hq1 hq2
       go_wp2
       go_ret
       exact ⟨rfl,bl_step hB4.out hbl.out⟩
theorem namesB_iff (g:Gm):namesB g = true ↔ (∀ r ∈ g.rules,rightB r.re = true) ∧ (∀ t ∈ g.allN,namB t = true) ∧ g.allN.Nodup:=by
 unfold namesB
 simp only [Bool.and_eq_true,List.all_eq_true,decide_eq_true_eq]
noncomputable def soundB (g:Gm):Bool:=open Classical in decide (SndG g)
theorem soundB_no {g:Gm} (h:¬ SndG g):soundB g = false:=by unfold soundB;exact @decide_eq_false _ (Classical.propDecidable _) h
theorem soundB_yes {g:Gm} (h:SndG g):soundB g = true:=by unfold soundB;exact @decide_eq_true _ (Classical.propDecidable _) h
theorem lvB_no {i:Nat} {l:Int × Int} (h1:¬ (l.1 = 0 ∧ l.2 = 0)) (h2:¬ (0 < l.1 ∧ 0 < l.2 ∧ l.2 < 4 ∧ i ≠ 0)):lvB i l = false:=by
 rw [Bool.eq_false_iff]
 intro h
 unfold lvB at h
 simp only [Bool.or_eq_true,Bool.and_eq_true,decide_eq_true_eq] at h
 rcases h with h | h
 · exact h1 h
 · exact h2 ⟨h.1.1.1,h.1.1.2,h.1.2,h.2⟩
theorem lvB_yes {i:Nat} {l:Int × Int} (h:(l.1 = 0 ∧ l.2 = 0) ∨ (0 < l.1 ∧ 0 < l.2 ∧ l.2 < 4 ∧ i ≠ 0)):lvB i l = true:=by
 unfold lvB
 simp only [Bool.or_eq_true,Bool.and_eq_true,decide_eq_true_eq]
 rcases h with h | h
 · exact .inl h
 · exact .inr ⟨⟨⟨h.1,h.2.1⟩,h.2.2.1⟩,h.2.2.2⟩
theorem pdB_parts (g:Gm) (p:Pd):((p.left ≤ (g.terms:Int) ∨ (g.all:Int) < p.left ∨ 8 < p.right.length ∨ p.prec < 0 ∨ (g.terms:Int) < p.prec ∨ ∃ j,∃ hj:j < p.right.length,p.right[j] < 1 ∨ (g.all:Int) < p.right[j]) → pdB g p = false) ∧
 (¬ p.left ≤ (g.terms:Int) → ¬ (g.all:Int) < p.left → ¬ 8 < p.right.length → ¬ p.prec < 0 → ¬ (g.terms:Int) < p.prec → (∀ j (hj:j < p.right.length),1 ≤ p.right[j] ∧ p.right[j] ≤ (g.all:Int)) → pdB g p = true):=by
 refine ⟨fun h => ?_,fun h1 h2 h3 h4 h5 h6 => ?_⟩
 · rw [Bool.eq_false_iff]
   intro hp
   unfold pdB at hp
   simp only [Bool.and_eq_true,decide_eq_true_eq,List.all_eq_true] at hp
   obtain ⟨⟨⟨⟨⟨p1,p2⟩,p3⟩,p4⟩,p5⟩,p6⟩:=hp
   rcases h with h | h | h | h | h | ⟨j,hj,h⟩
   · omega
   · omega
   · omega
   · omega
   · omega
   · have:=p6 _ (List.getElem_mem hj)
     omega
 · unfold pdB
   simp only [Bool.and_eq_true,decide_eq_true_eq,List.all_eq_true]
   refine ⟨⟨⟨⟨⟨by omega,by omega⟩,by omega⟩,by omega⟩,by omega⟩,fun k hk => ?_⟩
   obtain ⟨j,hj,rfl⟩:=List.getElem_of_mem hk
   exact h6 j hj
theorem cells3h {w:World} {b t:Nat} {x0 x1 x2:Value} (h:w.heap[b]? = some (.cells #[x0,x1,x2] t (0,0))):w.cell? ⟨b,0,none⟩ = some x0 ∧ w.cell? ⟨b,1,none⟩ = some x1 ∧ w.cell? ⟨b,2,none⟩ = some x2:=⟨blk_cell h rfl,blk_cell h rfl,blk_cell h rfl⟩
set_option maxRecDepth 20000 in
set_option maxHeartbeats 16000000 in
theorem refSound (g:Gm) (rv nv lv pv:Value) (w:World) (hV:GmV w rv nv lv pv g) (hb:BndG g) (hnl:∀ t ∈ g.allN,t.length ≤ 1000000) :
 Calls Tryz.prog 11 #[gmA rv nv lv pv g.start] w fun e w' => e = .returned (.bool (soundB g)) ∧ Below w.heap.size w w':=by
 obtain ⟨ra,rc,rfl⟩:=hV.rules.shape
 obtain ⟨na,nc,rfl⟩:=hV.nonts.shape
 obtain ⟨la,lc,rfl⟩:=hV.levels.shape
 obtain ⟨pa,pc,rfl⟩:=hV.prods.shape
 have hB1:=al' w (.cells #[.slice ra g.rules.length rc,.slice na g.nonts.length nc,.slice la g.levels.length lc,.slice pa g.prods.length pc,.int .i64 g.start] 27)
 have k1:=heap_new w (.cells #[.slice ra g.rules.length rc,.slice na g.nonts.length nc,.slice la g.levels.length lc,.slice pa g.prods.length pc,.int .i64 g.start] 27)
 obtain ⟨W,hW⟩:∃ x,w.alloc (.cells #[.slice ra g.rules.length rc,.slice na g.nonts.length nc,.slice la g.levels.length lc,.slice pa g.prods.length pc,.int .i64 g.start] 27) = x:=⟨_,rfl⟩
 rw [hW] at hB1 k1
 have hk1:=hid (fun u (hu:Below W.heap.size W u) => cells5m (hs_keep k1 hu))
 have hB:=hid hB1
 have b1:=hb.rules
 have b2:=hb.nonts
 have b3:=hb.levels
 have b4:=hb.prods
 have hKl:Hid (∀ u,Below w.heap.size w u → ∀ k (hk:k < g.levels.length),∃ b o,la = some ⟨b,o,none⟩ ∧ u.cell? ⟨b,o + k * 2,none⟩ = some (.int .i64 g.levels[k].1) ∧ u.cell? ⟨b,o + k * 2 + 1,none⟩ = some (.int .i64 g.levels[k].2)):=hid (fun u hu k hk => by
  obtain ⟨b,o,e,-,hx⟩:=(hV.keep hu).levels.at hk
  exact ⟨b,o,e,hx.1,hx.2⟩)
 have hKp:Hid (∀ u,Below w.heap.size w u → ∀ k (hk:k < g.prods.length),∃ b o q1 q3,pa = some ⟨b,o,none⟩ ∧ u.cell? ⟨b,o + k * 3,none⟩ = some (.int .i64 g.prods[k].left) ∧ u.cell? ⟨b,o + k * 3 + 1,none⟩ = some (.slice q1 g.prods[k].right.length q3) ∧ u.cell? ⟨b,o + k * 3 + 2,none⟩ = some (.int .i64 g.prods[k].prec) ∧ Nums u (.slice q1 g.prods[k].right.length q3) g.prods[k].right):=hid (fun u hu k hk => by
  obtain ⟨b,o,e,-,hx⟩:=(hV.keep hu).prods.at hk
  obtain ⟨v,x0,x1,x2,hN⟩:=hx
  have hN2:=hN
  obtain ⟨q1,q3,rfl,_⟩:=hN2
  exact ⟨b,o,q1,q3,e,x0,x1,x2,hN⟩)
 have GM:=hid (fun u (hu:Below w.heap.size w u) => namesC g _ _ _ _ u (hV.keep hu) b1 b2 hnl)
 have GT:=hid (fun u (hu:Below w.heap.size w u) => refTermsC _ _ _ _ g u (hV.keep hu) (by omega))
 have hall:Hid ((g.all:Int) = (g.terms:Int) + (g.nonts.length:Int)):=hid (by unfold Gm.all;omega)
 have btm:g.terms ≤ 1000:=Nat.le_trans (trmK_le _ _) b1
 have f1:=hid (fun (h:16 < g.rules.length) => soundB_no (g:=g) (fun hs => by have:=hs.rules;omega))
 have f2:=hid (fun (h:16 < g.nonts.length) => soundB_no (g:=g) (fun hs => by have:=hs.nonts;omega))
 have f3:=hid (fun (h:40 < g.prods.length) => soundB_no (g:=g) (fun hs => by have:=hs.prods;omega))
 have f4:=hid (fun (h:namesB g = false) => soundB_no (g:=g) (fun hs => by
  have:=(namesB_iff g).2 ⟨hs.right,hs.named,hs.once⟩
  rw [h] at this
  cases this))
 have f5:=hid (fun (h:g.levels.length ≠ g.terms + 1) => soundB_no (g:=g) (fun hs => h hs.levels))
 have f6:=hid (fun k (hk:k < g.levels.length) (h:lvB k g.levels[k] = false) => soundB_no (g:=g) (fun hs => by
  have:=hs.lev k hk
  rw [h] at this
  cases this))
 have f7:=hid (fun (h0:g.nonts.length = 0) (h:g.start ≠ 0) => soundB_no (g:=g) (fun hs => h (hs.none h0)))
 have f8:=hid (fun (h0:0 < g.nonts.length) (h:¬ ((g.terms:Int) < g.start ∧ g.start ≤ (g.all:Int))) => soundB_no (g:=g) (fun hs => h (hs.start h0)))
 have hfp:=hid (fun k (hk:k < g.prods.length) (h:pdB g g.prods[k] = false) => soundB_no (g:=g) (fun hs => by
  have:=hs.prod _ (List.getElem_mem hk)
  rw [h] at this
  cases this))
 have fy:=hid (fun (h1:¬ 16 < g.rules.length) (h2:¬ 16 < g.nonts.length) (h3:¬ 40 < g.prods.length) (h4:namesB g = true) (h5:g.levels.length = g.terms + 1) (h6:∀ k (hk:k < g.levels.length),lvB k g.levels[k] = true) (h7:g.nonts.length = 0 → g.start = 0) (h8:0 < g.nonts.length → (g.terms:Int) < g.start ∧ g.start ≤ (g.all:Int)) (h9:∀ k (hk:k < g.prods.length),pdB g g.prods[k] = true) => soundB_yes (g:=g) ⟨by omega,by omega,by omega,((namesB_iff g).1 h4).1,((namesB_iff g).1 h4).2.1,((namesB_iff g).1 h4).2.2,h5,h6,h7,h8,fun p hp => by
  obtain ⟨k,hk,rfl⟩:=List.getElem_of_mem hp
  exact h9 k hk⟩)
 clear hV hb hB1 k1 hnl
 generalize soundB g = R at *
 obtain ⟨y0,y1,y2,y3,y4⟩:=hk1.out W (Below.refl _ _)
 obtain ⟨rn,hrn⟩:∃ n,Hid (g.rules.length = n):=⟨_,hid rfl⟩
 obtain ⟨nn,hnn⟩:∃ n,Hid (g.nonts.length = n):=⟨_,hid rfl⟩
 obtain ⟨ll,hll⟩:∃ n,Hid (g.levels.length = n):=⟨_,hid rfl⟩
 obtain ⟨pp,hpp⟩:∃ n,Hid (g.prods.length = n):=⟨_,hid rfl⟩
 obtain ⟨tm,htm⟩:∃ n,Hid (g.terms = n):=⟨_,hid rfl⟩
 rw [hrn.out] at b1 hk1 GM GT hW f1 fy y0 ⊢
 rw [hnn.out] at b2 hk1 GM GT hW f2 f7 f8 fy hall y1 ⊢
 rw [hll.out] at b3 hk1 GM GT hW f5 y2 ⊢
 rw [hpp.out] at b4 hk1 GM GT hW f3 y3 ⊢
 rw [htm.out] at f5 f8 hall btm GT
 have hpd0:Hid (∀ p,((p.left ≤ (tm:Int) ∨ (g.all:Int) < p.left ∨ 8 < p.right.length ∨ p.prec < 0 ∨ (tm:Int) < p.prec ∨ ∃ j,∃ hj:j < p.right.length,p.right[j] < 1 ∨ (g.all:Int) < p.right[j]) → pdB g p = false) ∧ (¬ p.left ≤ (tm:Int) → ¬ (g.all:Int) < p.left → ¬ 8 < p.right.length → ¬ p.prec < 0 → ¬ (tm:Int) < p.prec → (∀ j (hj:j < p.right.length),1 ≤ p.right[j] ∧ p.right[j] ≤ (g.all:Int)) → pdB g p = true)):=hid (fun p => by have:=pdB_parts g p;rw [htm.out] at this;exact this)
 by_cases c1:(16:Int) < (rn:Int)
 · obtain rfl:=f1.out (by omega)
   clear GM GT f2 f3 f4 f5 f6 f7 f8 hfp fy
   generalize g.start = st at *
   go_enter Tryz.func11,Tryz.ntmps11
   go_wp2
   go_ret
   exact ⟨rfl,hB.out⟩
 by_cases c2:(16:Int) < (nn:Int)
 · obtain rfl:=f2.out (by omega)
   clear GM GT f1 f3 f4 f5 f6 f7 f8 hfp fy
   generalize g.start = st at *
   go_enter Tryz.func11,Tryz.ntmps11
   go_wp2
   go_ret
   exact ⟨rfl,hB.out⟩
 by_cases c3:(40:Int) < (pp:Int)
 · obtain rfl:=f3.out (by omega)
   clear GM GT f1 f2 f4 f5 f6 f7 f8 hfp fy
   generalize g.start = st at *
   go_enter Tryz.func11,Tryz.ntmps11
   go_wp2
   go_ret
   exact ⟨rfl,hB.out⟩
 have G1:=hid (GM.out W hB.out)
 cases hnm:namesB g with
 | false =>
  obtain rfl:=f4.out hnm
  rw [hnm] at G1
  clear GM GT f1 f2 f3 f5 f6 f7 f8 hfp fy hnm f4
  generalize g.start = st at *
  go_enter Tryz.func11,Tryz.ntmps11
  go_wp2_with (go_at_call 25;refine G1.out.mono ?_;clear G1;rintro e w1 ⟨rfl,hc1⟩;have hc1:=hid hc1)
  go_ret
  exact ⟨rfl,bl_step hB.out hc1.out⟩
 | true =>
  rw [hnm] at G1
  have fy1:=hid (fun h5 h6 h7 h8 h9 => fy.out (by omega) (by have:=hnn.out;omega) (by have:=hpp.out;omega) hnm h5 h6 h7 h8 h9)
  have GT1:=hid (fun u (hu:Below W.heap.size W u) => GT.out u (bl_step hB.out hu))
  clear GM GT f1 f2 f3 f4 fy hnm
  by_cases c5:ll = tm + 1
  · have c5z:((ll:Int) != (tm:Int) + 1) = false:=by rw [c5];simp
    have c5H:=hid c5
    clear c5
    have hst:=hid (rfl:g.start = g.start)
    clear hst
    generalize hgs:g.start = st at *
    have hgs:=hid hgs
    go_enter Tryz.func11,Tryz.ntmps11
    go_wp2_with (first
     | (go_at_call 25;refine G1.out.mono ?_;clear G1;rintro e w1 ⟨rfl,hc1⟩;have hc1:=hid hc1;obtain ⟨x0,x1,x2,x3,x4⟩:=hk1.out w1 hc1.out)
     | (go_at_call 21;refine (GT1.out w1 hc1.out).mono ?_;clear GT1;rintro e w2 ⟨rfl,hc2⟩;have hc2:=hid (bl_step hc1.out hc2);obtain ⟨z0,z1,z2,z3,z4⟩:=hk1.out w2 hc2.out))
    clear c5z hW y0 y1 y2 y3 y4 x0 x1 x2 x3 x4 z0 z1 z2 z3 z4 c1 c3
    generalize hal:(tm:Int) + (nn:Int) = al at *
    have hal:=hid hal
    go_loopw [5] (fun i wr => ∃ k:Nat,k ≤ ll ∧ i = .int .i64 (k:Int) ∧ Hid (∀ j (hj:j < g.levels.length),j < k → lvB j g.levels[j] = true) ∧ Hid (Below W.heap.size W wr)) (fun i _ => ll - (intOf i).toNat)
    case atStart => exact ⟨0,Nat.zero_le _,rfl,hid (fun _ _ h => absurd h (Nat.not_lt_zero _)),hc2⟩
    case round =>
     clear hc1 hc2
     obtain ⟨k,hk,rfl,hq,hbl⟩:=hrel
     have hbw:=hid (bl_step hB.out hbl.out)
     obtain ⟨y0,y1,y2,y3,y4⟩:=hk1.out wr hbl.out
     by_cases hlt:k < ll
     · have hltz:(k:Int) < (ll:Int):=by omega
       have hkl:k < g.levels.length:=by rw [hll.out];exact hlt
       obtain ⟨b,o,e,x0,x1⟩:=hKl.out wr hbw.out k hkl
       subst e
       have hno:=hid (fun h1 h2 => f6.out k hkl (lvB_no h1 h2))
       have hok:=hid (fun (h:(g.levels[k].1 = 0 ∧ g.levels[k].2 = 0) ∨ (0 < g.levels[k].1 ∧ 0 < g.levels[k].2 ∧ g.levels[k].2 < 4 ∧ k ≠ 0)) => (fun j hj h9 => by
        rcases Nat.lt_or_ge j k with h8 | h8
        · exact hq.out j hj h8
        · obtain rfl:j = k:=by omega
          exact lvB_yes h:∀ j (hj:j < g.levels.length),j < k + 1 → lvB j g.levels[j] = true))
       have hb1:=hid (bl_step hbl.out (al' wr (.cells #[.int .i64 g.levels[k].1,.int .i64 g.levels[k].2] 53)))
       clear hq
       generalize g.levels[k] = lx at *
       obtain ⟨p,d⟩:=lx
       dsimp only at *
       by_cases a1:p = 0
       · have a1z:(p == 0) = true:=by rw [a1];rfl
         by_cases a2:d = 0
         · have a2z:(d == 0) = true:=by rw [a2];rfl
           have a3:¬ 0 < p:=by omega
           have hq9:=hid (hok.out (.inl ⟨a1,a2⟩))
           clear hok hno a1 a2
           go_wp2
           go_roundw
           case rel => exact ⟨k + 1,by omega,by go_num,hq9,hb1⟩
           case measure => simp [intOf];omega
         · have a2z:(d == 0) = false:=by rw [beq_eq_false_iff_ne];exact a2
           have a3:¬ 0 < p:=by omega
           obtain rfl:=hno.out (fun h => a2 h.2) (fun h => a3 h.1)
           clear hok hno a1 a2
           go_wp2
           go_ret
           exact ⟨rfl,bl_step hB.out hb1.out⟩
       have a1z:(p == 0) = false:=by rw [beq_eq_false_iff_ne];exact a1
       by_cases a3:0 < p
       · by_cases a4:0 < d
         · by_cases a5:d < 4
           · rcases Nat.eq_zero_or_pos k with a6 | a6
             · have a6z:((k:Int) == 0) = true:=by rw [a6];rfl
               obtain rfl:=hno.out (fun h => a1 h.1) (fun h => h.2.2.2 a6)
               clear hok hno a1 a6
               go_wp2
               go_ret
               exact ⟨rfl,bl_step hB.out hb1.out⟩
             · have a6z:((k:Int) == 0) = false:=by rw [beq_eq_false_iff_ne];omega
               have hq9:=hid (hok.out (.inr ⟨a3,a4,a5,by omega⟩))
               clear hok hno a1
               go_wp2
               go_roundw
               case rel => exact ⟨k + 1,by omega,by go_num,hq9,hb1⟩
               case measure => simp [intOf];omega
           · obtain rfl:=hno.out (fun h => a1 h.1) (fun h => a5 h.2.2.1)
             clear hok hno a1
             go_wp2
             go_ret
             exact ⟨rfl,bl_step hB.out hb1.out⟩
         · obtain rfl:=hno.out (fun h => a1 h.1) (fun h => a4 h.2.1)
           clear hok hno a1
           go_wp2
           go_ret
           exact ⟨rfl,bl_step hB.out hb1.out⟩
       · obtain rfl:=hno.out (fun h => a1 h.1) (fun h => a3 h.1)
         clear hok hno a1
         go_wp2
         go_ret
         exact ⟨rfl,bl_step hB.out hb1.out⟩
     · have hltz:¬ (k:Int) < (ll:Int):=by omega
       have fy2:=hid (fun h7 h8 h9 => fy1.out (by rw [hll.out,htm.out];exact c5H.out) (fun j hj => hq.out j hj (by rw [hll.out] at hj;omega)) h7 h8 h9)
       clear hq fy1 f6 f5
       rcases Nat.eq_zero_or_pos nn with n0 | n0
       · have n0z:((nn:Int) == 0) = true:=by rw [n0];rfl
         have n0y:¬ (0:Int) < (nn:Int):=by omega
         by_cases s0:st = 0
         · have s0z:(st != 0) = false:=by rw [s0];rfl
           have hfin:=hid (fun h9 => fy2.out (fun _ => s0) (fun h => absurd h (by omega)) h9)
           clear fy2 f7 f8 s0 n0
           go_wp2
           clear hltz hlt hk hbw y0 y1 y2 y3 y4 s0z n0z n0y
           go_loopw [9] (fun i wr => ∃ k:Nat,k ≤ pp ∧ i = .int .i64 (k:Int) ∧ Hid (∀ j (hj:j < g.prods.length),j < k → pdB g g.prods[j] = true) ∧ Hid (Below W.heap.size W wr)) (fun i _ => pp - (intOf i).toNat)
           case atStart => exact ⟨0,Nat.zero_le _,rfl,hid (fun _ _ h => absurd h (Nat.not_lt_zero _)),hbl⟩
           case round =>
            clear hbl
            obtain ⟨k,hk,rfl,hq,hbl⟩:=hrel
            have hbw:=hid (bl_step hB.out hbl.out)
            obtain ⟨y0,y1,y2,y3,y4⟩:=hk1.out wr hbl.out
            by_cases hlt:k < pp
            · have hltz:(k:Int) < (pp:Int):=by omega
              have hkl:k < g.prods.length:=by rw [hpp.out];exact hlt
              obtain ⟨b,o,q1,q3,e,x0,x1,x2,hN⟩:=hKp.out wr hbw.out k hkl
              subst e
              have hf9:=hid (fun h => hfp.out k hkl h)
              have hpd:=hid (hpd0.out g.prods[k])
              have hmore:Hid (pdB g g.prods[k] = true → ∀ j (hj:j < g.prods.length),j < k + 1 → pdB g g.prods[j] = true):=hid (fun h j hj h9 => by
               rcases Nat.lt_or_ge j k with h8 | h8
               · exact hq.out j hj h8
               · obtain rfl:j = k:=by omega
                 exact h)
              have hal:=al' wr (.cells #[.int .i64 g.prods[k].left,.slice q1 g.prods[k].right.length q3,.int .i64 g.prods[k].prec] 43)
              obtain ⟨u0,u1,u2⟩:=cells3h (heap_new wr (.cells #[.int .i64 g.prods[k].left,.slice q1 g.prods[k].right.length q3,.int .i64 g.prods[k].prec] 43))
              have hb1:=hid (bl_step hbl.out hal)
              have hbx:Hid (∀ u,Below (wr.alloc (.cells #[.int .i64 g.prods[k].left,.slice q1 g.prods[k].right.length q3,.int .i64 g.prods[k].prec] 43)).heap.size (wr.alloc (.cells #[.int .i64 g.prods[k].left,.slice q1 g.prods[k].right.length q3,.int .i64 g.prods[k].prec] 43)) u → u.cell? ⟨wr.heap.size,1,none⟩ = some (.slice q1 g.prods[k].right.length q3)):=hid (fun u hu => keep_cell hu u1)
              have hNk:=hid (fun u hu => hN.keep (w':=u) (bl_step hal hu))
              obtain ⟨W3,hW3⟩:∃ x,wr.alloc (.cells #[.int .i64 g.prods[k].left,.slice q1 g.prods[k].right.length q3,.int .i64 g.prods[k].prec] 43) = x:=⟨_,rfl⟩
              rw [hW3] at hb1 u0 u1 u2 hbx hNk
              clear hq hal hN
              obtain ⟨rl,hrl⟩:∃ n,Hid (g.prods[k].right.length = n):=⟨_,hid rfl⟩
              rw [hrl.out] at x1 u1 hW3 hbx hNk
              generalize g.prods[k].left = xl at *
              generalize g.prods[k].prec = xp at *
              by_cases c1:xl ≤ (tm:Int)
              · obtain rfl:=hf9.out (hpd.out.1 (.inl c1))
                clear hmore hf9 hpd hNk hbx
                go_wp2
                go_ret
                exact ⟨rfl,bl_step hB.out hb1.out⟩
              by_cases c2:al < xl
              · obtain rfl:=hf9.out (hpd.out.1 (.inr (.inl (by have:=hall.out;omega))))
                clear hmore hf9 hpd hNk hbx
                go_wp2
                go_ret
                exact ⟨rfl,bl_step hB.out hb1.out⟩
              have c1b:decide (xl ≤ (tm:Int)) = false:=decide_eq_false c1
              have c2b:decide (al < xl) = false:=decide_eq_false c2
              have c12:=hid (⟨c1,c2⟩:¬ xl ≤ (tm:Int) ∧ ¬ al < xl)
              clear c1 c2
              by_cases c3:(8:Int) < (rl:Int)
              · obtain rfl:=hf9.out (hpd.out.1 (.inr (.inr (.inl (by have:=hrl.out;omega)))))
                clear hmore hf9 hpd hNk hbx
                go_wp2
                go_ret
                exact ⟨rfl,bl_step hB.out hb1.out⟩
              by_cases c4:xp < 0
              · obtain rfl:=hf9.out (hpd.out.1 (.inr (.inr (.inr (.inl c4)))))
                clear hmore hf9 hpd hNk hbx
                go_wp2
                go_ret
                exact ⟨rfl,bl_step hB.out hb1.out⟩
              by_cases c5:(tm:Int) < xp
              · obtain rfl:=hf9.out (hpd.out.1 (.inr (.inr (.inr (.inr (.inl c5))))))
                clear hmore hf9 hpd hNk hbx
                go_wp2
                go_ret
                exact ⟨rfl,bl_step hB.out hb1.out⟩
              have hok:=hid (fun h => hmore.out (hpd.out.2 (by have:=c12.out;omega) (by have:=c12.out;have:=hall.out;omega) (by have:=hrl.out;omega) (by omega) (by omega) h))
              have hno:=hid (fun j (hj:j < g.prods[k].right.length) h => hf9.out (hpd.out.1 (.inr (.inr (.inr (.inr (.inr ⟨j,hj,h⟩)))))))
              clear hmore hf9 hpd
              go_wp2
              clear c1b c2b c12 c4 c5 x0 x1 x2 u0 u1 u2 hltz y0 y1 y2 y3 y4 hW3
              go_loopw [11] (fun i wr => ∃ m:Nat,m ≤ rl ∧ i = .int .i64 (m:Int) ∧ Hid (∀ j (hj:j < g.prods[k].right.length),j < m → 1 ≤ g.prods[k].right[j] ∧ g.prods[k].right[j] ≤ (g.all:Int)) ∧ Hid (Below W3.heap.size W3 wr)) (fun i _ => rl - (intOf i).toNat)
              case atStart => exact ⟨0,Nat.zero_le _,rfl,hid (fun _ _ h => absurd h (Nat.not_lt_zero _)),hid (Below.refl _ _)⟩
              case round =>
               obtain ⟨m,hm,rfl,hq,hbm⟩:=hrel
               have z1:=hbx.out _ hbm.out
               have hbz:=hid (bl_step hb1.out hbm.out)
               by_cases hlm:m < rl
               · have hlmz:(m:Int) < (rl:Int):=by omega
                 have hml:m < g.prods[k].right.length:=by rw [hrl.out];exact hlm
                 obtain ⟨a',c',e,-,-,hat⟩:=hNk.out _ hbm.out
                 injection e with e _ _
                 subst e
                 obtain ⟨b2,o2,e2,hb2,hx2⟩:=hat m hml
                 subst e2
                 have hno9:=hid (fun h => hno.out m hml h)
                 have hq9:Hid (1 ≤ g.prods[k].right[m] ∧ g.prods[k].right[m] ≤ (g.all:Int) → ∀ j (hj:j < g.prods[k].right.length),j < m + 1 → 1 ≤ g.prods[k].right[j] ∧ g.prods[k].right[j] ≤ (g.all:Int)):=hid (fun h j hj h9 => by
                  rcases Nat.lt_or_ge j m with h8 | h8
                  · exact hq.out j hj h8
                  · obtain rfl:j = m:=by omega
                    exact h)
                 clear hat hb2 hq
                 generalize g.prods[k].right[m] = x at *
                 by_cases d1:x < 1
                 · obtain rfl:=hno9.out (.inl d1)
                   clear hq9 hno9
                   go_wp2
                   go_ret
                   exact ⟨rfl,bl_step hB.out hbz.out⟩
                 by_cases d2:al < x
                 · obtain rfl:=hno9.out (.inr (by have:=hall.out;omega))
                   clear hq9 hno9
                   go_wp2
                   go_ret
                   exact ⟨rfl,bl_step hB.out hbz.out⟩
                 have hq8:=hid (hq9.out ⟨by omega,by have:=hall.out;omega⟩)
                 clear hq9 hno9
                 go_wp2
                 go_roundw
                 case rel => exact ⟨m + 1,by omega,by go_num,hq8,hid (by first | exact hbm.out | exact belowN hbm.out)⟩
                 case measure => simp [intOf];omega
               · have hlmz:¬ (m:Int) < (rl:Int):=by omega
                 have hq8:=hid (hok.out (fun j hj => hq.out j hj (by rw [hrl.out] at hj;omega)))
                 clear hq
                 go_wp2
                 go_roundw
                 case rel => exact ⟨k + 1,by omega,by go_num,hq8,hbz⟩
                 case measure => simp [intOf];omega
            · have hltz:¬ (k:Int) < (pp:Int):=by omega
              obtain rfl:=hfin.out (fun j hj => hq.out j hj (by rw [hpp.out] at hj;omega))
              clear hq
              go_wp2
              go_ret
              exact ⟨rfl,bl_step hB.out hbl.out⟩
         · have s0z:(st != 0) = true:=bne_iff_ne.2 s0
           obtain rfl:=f7.out n0 s0
           clear fy2 f8 f7 s0 n0
           go_wp2
           go_ret
           exact ⟨rfl,hbw.out⟩
       · have n0z:((nn:Int) == 0) = false:=by rw [beq_eq_false_iff_ne];omega
         have n0y:(0:Int) < (nn:Int):=by omega
         by_cases s1:st ≤ (tm:Int)
         · obtain rfl:=f8.out n0 (fun h => by have:=h.1;omega)
           clear fy2 f7 f8
           go_wp2
           go_ret
           exact ⟨rfl,hbw.out⟩
         by_cases s2:al < st
         · obtain rfl:=f8.out n0 (fun h => by have:=h.2;have:=hall.out;omega)
           clear fy2 f7 f8
           go_wp2
           go_ret
           exact ⟨rfl,hbw.out⟩
         have hfin:=hid (fun h9 => fy2.out (fun h => absurd h (by omega)) (fun _ => ⟨by have:=htm.out;omega,by have:=hall.out;omega⟩) h9)
         clear fy2 f7 f8
         go_wp2
         clear hltz hlt hk hbw y0 y1 y2 y3 y4 s1 s2 n0z n0y
         go_loopw [9] (fun i wr => ∃ k:Nat,k ≤ pp ∧ i = .int .i64 (k:Int) ∧ Hid (∀ j (hj:j < g.prods.length),j < k → pdB g g.prods[j] = true) ∧ Hid (Below W.heap.size W wr)) (fun i _ => pp - (intOf i).toNat)
         case atStart => exact ⟨0,Nat.zero_le _,rfl,hid (fun _ _ h => absurd h (Nat.not_lt_zero _)),hbl⟩
         case round =>
          clear hbl
          obtain ⟨k,hk,rfl,hq,hbl⟩:=hrel
          have hbw:=hid (bl_step hB.out hbl.out)
          obtain ⟨y0,y1,y2,y3,y4⟩:=hk1.out wr hbl.out
          by_cases hlt:k < pp
          · have hltz:(k:Int) < (pp:Int):=by omega
            have hkl:k < g.prods.length:=by rw [hpp.out];exact hlt
            obtain ⟨b,o,q1,q3,e,x0,x1,x2,hN⟩:=hKp.out wr hbw.out k hkl
            subst e
            have hf9:=hid (fun h => hfp.out k hkl h)
            have hpd:=hid (hpd0.out g.prods[k])
            have hmore:Hid (pdB g g.prods[k] = true → ∀ j (hj:j < g.prods.length),j < k + 1 → pdB g g.prods[j] = true):=hid (fun h j hj h9 => by
             rcases Nat.lt_or_ge j k with h8 | h8
             · exact hq.out j hj h8
             · obtain rfl:j = k:=by omega
               exact h)
            have hal:=al' wr (.cells #[.int .i64 g.prods[k].left,.slice q1 g.prods[k].right.length q3,.int .i64 g.prods[k].prec] 43)
            obtain ⟨u0,u1,u2⟩:=cells3h (heap_new wr (.cells #[.int .i64 g.prods[k].left,.slice q1 g.prods[k].right.length q3,.int .i64 g.prods[k].prec] 43))
            have hb1:=hid (bl_step hbl.out hal)
            have hbx:Hid (∀ u,Below (wr.alloc (.cells #[.int .i64 g.prods[k].left,.slice q1 g.prods[k].right.length q3,.int .i64 g.prods[k].prec] 43)).heap.size (wr.alloc (.cells #[.int .i64 g.prods[k].left,.slice q1 g.prods[k].right.length q3,.int .i64 g.prods[k].prec] 43)) u → u.cell? ⟨wr.heap.size,1,none⟩ = some (.slice q1 g.prods[k].right.length q3)):=hid (fun u hu => keep_cell hu u1)
            have hNk:=hid (fun u hu => hN.keep (w':=u) (bl_step hal hu))
            obtain ⟨W3,hW3⟩:∃ x,wr.alloc (.cells #[.int .i64 g.prods[k].left,.slice q1 g.prods[k].right.length q3,.int .i64 g.prods[k].prec] 43) = x:=⟨_,rfl⟩
            rw [hW3] at hb1 u0 u1 u2 hbx hNk
            clear hq hal hN
            obtain ⟨rl,hrl⟩:∃ n,Hid (g.prods[k].right.length = n):=⟨_,hid rfl⟩
            rw [hrl.out] at x1 u1 hW3 hbx hNk
            generalize g.prods[k].left = xl at *
            generalize g.prods[k].prec = xp at *
            by_cases c1:xl ≤ (tm:Int)
            · obtain rfl:=hf9.out (hpd.out.1 (.inl c1))
              clear hmore hf9 hpd hNk hbx
              go_wp2
              go_ret
              exact ⟨rfl,bl_step hB.out hb1.out⟩
            by_cases c2:al < xl
            · obtain rfl:=hf9.out (hpd.out.1 (.inr (.inl (by have:=hall.out;omega))))
              clear hmore hf9 hpd hNk hbx
              go_wp2
              go_ret
              exact ⟨rfl,bl_step hB.out hb1.out⟩
            have c1b:decide (xl ≤ (tm:Int)) = false:=decide_eq_false c1
            have c2b:decide (al < xl) = false:=decide_eq_false c2
            have c12:=hid (⟨c1,c2⟩:¬ xl ≤ (tm:Int) ∧ ¬ al < xl)
            clear c1 c2
            by_cases c3:(8:Int) < (rl:Int)
            · obtain rfl:=hf9.out (hpd.out.1 (.inr (.inr (.inl (by have:=hrl.out;omega)))))
              clear hmore hf9 hpd hNk hbx
              go_wp2
              go_ret
              exact ⟨rfl,bl_step hB.out hb1.out⟩
            by_cases c4:xp < 0
            · obtain rfl:=hf9.out (hpd.out.1 (.inr (.inr (.inr (.inl c4)))))
              clear hmore hf9 hpd hNk hbx
              go_wp2
              go_ret
              exact ⟨rfl,bl_step hB.out hb1.out⟩
            by_cases c5:(tm:Int) < xp
            · obtain rfl:=hf9.out (hpd.out.1 (.inr (.inr (.inr (.inr (.inl c5))))))
              clear hmore hf9 hpd hNk hbx
              go_wp2
              go_ret
              exact ⟨rfl,bl_step hB.out hb1.out⟩
            have hok:=hid (fun h => hmore.out (hpd.out.2 (by have:=c12.out;omega) (by have:=c12.out;have:=hall.out;omega) (by have:=hrl.out;omega) (by omega) (by omega) h))
            have hno:=hid (fun j (hj:j < g.prods[k].right.length) h => hf9.out (hpd.out.1 (.inr (.inr (.inr (.inr (.inr ⟨j,hj,h⟩)))))))
            clear hmore hf9 hpd
            go_wp2
            clear c1b c2b c12 c4 c5 x0 x1 x2 u0 u1 u2 hltz y0 y1 y2 y3 y4 hW3
            go_loopw [11] (fun i wr => ∃ m:Nat,m ≤ rl ∧ i = .int .i64 (m:Int) ∧ Hid (∀ j (hj:j < g.prods[k].right.length),j < m → 1 ≤ g.prods[k].right[j] ∧ g.prods[k].right[j] ≤ (g.all:Int)) ∧ Hid (Below W3.heap.size W3 wr)) (fun i _ => rl - (intOf i).toNat)
            case atStart => exact ⟨0,Nat.zero_le _,rfl,hid (fun _ _ h => absurd h (Nat.not_lt_zero _)),hid (Below.refl _ _)⟩
            case round =>
             obtain ⟨m,hm,rfl,hq,hbm⟩:=hrel
             have z1:=hbx.out _ hbm.out
             have hbz:=hid (bl_step hb1.out hbm.out)
             by_cases hlm:m < rl
             · have hlmz:(m:Int) < (rl:Int):=by omega
               have hml:m < g.prods[k].right.length:=by rw [hrl.out];exact hlm
               obtain ⟨a',c',e,-,-,hat⟩:=hNk.out _ hbm.out
               injection e with e _ _
               subst e
               obtain ⟨b2,o2,e2,hb2,hx2⟩:=hat m hml
               subst e2
               have hno9:=hid (fun h => hno.out m hml h)
               have hq9:Hid (1 ≤ g.prods[k].right[m] ∧ g.prods[k].right[m] ≤ (g.all:Int) → ∀ j (hj:j < g.prods[k].right.length),j < m + 1 → 1 ≤ g.prods[k].right[j] ∧ g.prods[k].right[j] ≤ (g.all:Int)):=hid (fun h j hj h9 => by
                rcases Nat.lt_or_ge j m with h8 | h8
                · exact hq.out j hj h8
                · obtain rfl:j = m:=by omega
                  exact h)
               clear hat hb2 hq
               generalize g.prods[k].right[m] = x at *
               by_cases d1:x < 1
               · obtain rfl:=hno9.out (.inl d1)
                 clear hq9 hno9
                 go_wp2
                 go_ret
                 exact ⟨rfl,bl_step hB.out hbz.out⟩
               by_cases d2:al < x
               · obtain rfl:=hno9.out (.inr (by have:=hall.out;omega))
                 clear hq9 hno9
                 go_wp2
                 go_ret
                 exact ⟨rfl,bl_step hB.out hbz.out⟩
               have hq8:=hid (hq9.out ⟨by omega,by have:=hall.out;omega⟩)
               clear hq9 hno9
               go_wp2
               go_roundw
               case rel => exact ⟨m + 1,by omega,by go_num,hq8,hid (by first | exact hbm.out | exact belowN hbm.out)⟩
               case measure => simp [intOf];omega
             · have hlmz:¬ (m:Int) < (rl:Int):=by omega
               have hq8:=hid (hok.out (fun j hj => hq.out j hj (by rw [hrl.out] at hj;omega)))
               clear hq
               go_wp2
               go_roundw
               case rel => exact ⟨k + 1,by omega,by go_num,hq8,hbz⟩
               case measure => simp [intOf];omega
          · have hltz:¬ (k:Int) < (pp:Int):=by omega
            obtain rfl:=hfin.out (fun j hj => hq.out j hj (by rw [hpp.out] at hj;omega))
            clear hq
            go_wp2
            go_ret
            exact ⟨rfl,bl_step hB.out hbl.out⟩
  · have c5z:((ll:Int) != (tm:Int) + 1) = true:=bne_iff_ne.2 (by omega)
    obtain rfl:=f5.out c5
    clear f5 f6 f7 f8 hfp fy1 c5
    generalize g.start = st at *
    go_enter Tryz.func11,Tryz.ntmps11
    go_wp2_with (first
     | (go_at_call 25;refine G1.out.mono ?_;clear G1;rintro e w1 ⟨rfl,hc1⟩;have hc1:=hid hc1;obtain ⟨x0,x1,x2,x3,x4⟩:=hk1.out w1 hc1.out)
     | (go_at_call 21;refine (GT1.out w1 hc1.out).mono ?_;clear GT1;rintro e w2 ⟨rfl,hc2⟩;have hc2:=hid (bl_step hc1.out hc2);obtain ⟨z0,z1,z2,z3,z4⟩:=hk1.out w2 hc2.out))
    go_ret
    exact ⟨rfl,bl_step hB.out hc2.out⟩
abbrev wdA (x:Wd):Value:=.agg #[.int .i64 (x.1:Int),.int .i64 (x.2.1:Int),.string (strT x.2.2)]
theorem RdV.word {B rb:Nat} {T:Nat → Nat} {w:World} {X:RX} {st:RS} (h:RdV B T w rb X st) :
 ∃ b o n cap,X.wv = .slice (some ⟨b,o,none⟩) (n + 1) cap ∧ st.ws.length = n + 1 ∧ n + 1 ≤ cap ∧ T b = 0 ∧ b < w.heap.size ∧ Wd3 w b o st.hd:=by
 have hn:=h.wf.ne
 obtain ⟨b,o,cap,e,h1,h2,h3,h4⟩:=h.words
 cases hw:st.ws with
 | nil => exact absurd hw hn
 | cons x l =>
  have hl:st.ws.length = l.length + 1:=by rw [hw];rfl
  refine ⟨b,o,l.length,cap,by rw [e,hl],rfl,by omega,h2,h3,?_⟩
  have h5:=h4 0 (by omega)
  have e0:st.ws[0]'(by omega) = st.hd:=by unfold RS.hd;simp [hw]
  rw [e0,Nat.zero_mul,Nat.add_zero] at h5
  exact h5
theorem RS.give_ws (st:RS) (p:Nat) (e:Int):(st.give p e).ws = st.ws:=by unfold RS.give;split <;> rfl
structure Mov (B:Nat) (T:Nat → Nat) (w:World) (rb:Nat) (X:RX) (st:RS) (w':World) (wv:Value):Prop where
 rd:RdV B T w' rb { X with wv:=wv } st
 kept:Kept (oneBlk rb) w w'
theorem Mov.below {B rb:Nat} {T:Nat → Nat} {w w0 w':World} {X:RX} {st:RS} {wv:Value} (h:Mov B T w0 rb X st w' wv) (hw:Below w.heap.size w w0):Mov B T w rb X st w' wv:=⟨h.rd,(Kept.of_below hw).step h.kept (fun _ _ h => h)⟩
theorem Mov.chg {B rb:Nat} {T:Nat → Nat} {w w':World} {X:RX} {st:RS} {wv:Value} (h:Mov B T w rb X st w' wv):Chg T T w w':=⟨h.kept.mono (fun k _ e => by rw [show k = rb from e,h.rd.rt];decide),fun _ _ => rfl⟩
theorem RdV.same {B rb:Nat} {T:Nat → Nat} {w:World} {X:RX} {st:RS} (h:RdV B T w rb X st):Mov B T w rb X st w X.wv:=⟨h,Kept.refl _ _⟩
set_option maxRecDepth 20000 in
set_option maxHeartbeats 2000000 in
theorem giveC {B rb:Nat} {T:Nat → Nat} {w:World} {X:RX} {st:RS} (h:RdV B T w rb X st) (p:Nat) (e:Int) (he:e ≠ 0) :
 Calls Tryz.prog 63 #[ptr0 rb,.int .i64 (p:Int),.int .i64 e] w fun r w' => r = .returned (.tuple #[]) ∧ Mov B T w rb X (st.give p e) w' X.wv:=by
 have hb0:=h.blk
 by_cases h0:st.err = 0
 · have hg:st.give p e = { st with pl:=p,err:=e }:=if_pos h0
   rw [hg]
   have hb1:=heap_setCell (o:=16) (v:=.int .i64 (p:Int)) hb0
   have hb2:=heap_setCell (o:=17) (v:=.int .i64 e) hb1
   have hk:Kept (oneBlk rb) w ((w.setCell ⟨rb,16,none⟩ (.int .i64 (p:Int))).setCell ⟨rb,17,none⟩ (.int .i64 e)):=((Kept.refl (oneBlk rb) w).setCell (a:=⟨rb,16,none⟩) (fun _ => rfl)).setCell (a:=⟨rb,17,none⟩) (fun _ => rfl)
   have hP:Hid (Mov B T w rb X { st with pl:=p,err:=e } ((w.setCell ⟨rb,16,none⟩ (.int .i64 (p:Int))).setCell ⟨rb,17,none⟩ (.int .i64 e)) X.wv):=hid ⟨h.put (hk.mono (fun _ _ e => .inl e)) hb2 (h.ws1 hk) h.wf rfl rfl rfl rfl rfl rfl rfl (fun e9 => absurd e9 he) rfl rfl rfl rfl rfl rfl rfl rfl rfl,hk⟩
   rw [h0] at hb0
   obtain ⟨x0,x1,x2,x3,x4,x5,x6,x7,x8,x9,x10,x15,x16,x17⟩:=rd18 hb0
   have y17:(w.setCell ⟨rb,16,none⟩ (.int .i64 (p:Int))).cell? ⟨rb,17,none⟩ = some (.int .i64 0):=by
    have:=blk_cell (o:=17) hb1 rfl
    rw [this];show some (Value.int .i64 st.err) = _;rw [h0]
   have f16:=blk_frozen hb0 16
   have f17:=blk_frozen hb1 17
   clear x0 x1 x2 x3 x4 x5 x6 x7 x8 x9 x10 x15 hb0 hb1 hb2 hk hg h0 h
   go_enter Tryz.func63,Tryz.ntmps63
   go_wp2
   go_end0
   exact ⟨rfl,hP.out⟩
 · have hg:st.give p e = st:=if_neg h0
   rw [hg]
   obtain ⟨x0,x1,x2,x3,x4,x5,x6,x7,x8,x9,x10,x15,x16,x17⟩:=rd18 hb0
   have hP:Hid (Mov B T w rb X st w X.wv):=hid h.same
   clear x0 x1 x2 x3 x4 x5 x6 x7 x8 x9 x10 x15 x16 hb0 hg h
   have h0b:(st.err == 0) = false:=beq_eq_false_iff_ne.2 h0
   generalize st.err = er at *
   go_enter Tryz.func63,Tryz.ntmps63
   go_wp2
   go_end0
   exact ⟨rfl,hP.out⟩
structure Ahd (w:World) (rb:Nat) (st:RS) (b o n cap:Nat):Prop where
 c0:w.cell? ⟨rb,0,none⟩ = some (.slice (some ⟨b,o,none⟩) (n + 1) cap)
 k:w.cell? ⟨b,o,none⟩ = some (.int .i64 (st.hd.1:Int))
 p:w.cell? ⟨b,o + 1,none⟩ = some (.int .i64 (st.hd.2.1:Int))
 t:w.cell? ⟨b,o + 2,none⟩ = some (.string (strT st.hd.2.2))
 le:n + 1 ≤ cap
 l1:rb < w.heap.size
 l2:b < w.heap.size
theorem RdV.ahd {B rb:Nat} {T:Nat → Nat} {w:World} {X:RX} {st:RS} (h:RdV B T w rb X st):∃ b o n cap,Ahd w rb st b o n cap ∧ X.wv = .slice (some ⟨b,o,none⟩) (n + 1) cap ∧ st.ws.length = n + 1:=by
 obtain ⟨b,o,n,cap,e,hl,h1,h2,h3,x0,x1,x2⟩:=h.word
 exact ⟨b,o,n,cap,⟨by rw [← e];exact (rd18 h.blk).1,x0,x1,x2,h1,blk_lt h.blk,h3⟩,e,hl⟩
set_option maxRecDepth 20000 in
set_option maxHeartbeats 2000000 in
theorem atNC {B rb:Nat} {T:Nat → Nat} {w:World} {X:RX} {st:RS} (h:RdV B T w rb X st) :
 Calls Tryz.prog 114 #[ptr0 rb] w fun r w' => r = .returned (.bool st.atN) ∧ Below w.heap.size w w':=by
 obtain ⟨b,o,n,cap,⟨c0,k,p,t,le,l1,l2⟩,-,-⟩:=h.ahd
 have GK:=hid (fun u => keywordC st.hd.2.2 u)
 obtain ⟨R,hR⟩:∃ R,Hid (st.atN = R):=⟨_,hid rfl⟩
 rw [hR.out]
 unfold RS.atN at hR
 clear h
 generalize st.hd = H at *
 obtain ⟨hk,hp,ht⟩:=H
 dsimp only at k p t GK hR
 generalize kwB ht = kb at *
 generalize strT ht = S at *
 have n1:rb ≠ w.heap.size:=by omega
 have n2:b ≠ w.heap.size:=by omega
 have hal:=hid (al' w (.cells #[.int .i64 (hk:Int),.int .i64 (hp:Int),.string S] 70))
 by_cases h1:hk = 1
 · subst h1
   cases kb
   · obtain rfl:true = R:=hR.out
     clear hR
     go_enter Tryz.func114,Tryz.ntmps114
     go_wp2_with (go_at_call 128;refine (GK.out _).mono ?_;clear GK;rintro e w2 ⟨rfl,hc2⟩;have hc2:=hid (bl_step hal.out hc2))
     go_ret
     exact ⟨rfl,hc2.out⟩
   · obtain rfl:false = R:=hR.out
     clear hR
     go_enter Tryz.func114,Tryz.ntmps114
     go_wp2_with (go_at_call 128;refine (GK.out _).mono ?_;clear GK;rintro e w2 ⟨rfl,hc2⟩;have hc2:=hid (bl_step hal.out hc2))
     go_ret
     exact ⟨rfl,hc2.out⟩
 · have h1b:((hk:Int) == 1) = false:=by rw [beq_eq_false_iff_ne];omega
   obtain rfl:false = R:=by have:=hR.out;rw [decide_eq_false h1,Bool.false_and] at this;exact this
   clear hR h1
   go_enter Tryz.func114,Tryz.ntmps114
   go_wp2_with fail
   go_ret
   exact ⟨rfl,hal.out⟩
set_option maxRecDepth 20000 in
set_option maxHeartbeats 2000000 in
theorem atSC {B rb:Nat} {T:Nat → Nat} {w:World} {X:RX} {st:RS} (h:RdV B T w rb X st) (u:Txt) :
 Calls Tryz.prog 117 #[ptr0 rb,.string (strT u)] w fun r w' => r = .returned (.bool (st.atS u)) ∧ Below w.heap.size w w':=by
 obtain ⟨b,o,n,cap,⟨c0,k,p,t,le,l1,l2⟩,-,-⟩:=h.ahd
 obtain ⟨R,hR⟩:∃ R,Hid (st.atS u = R):=⟨_,hid rfl⟩
 rw [hR.out]
 unfold RS.atS at hR
 clear h
 generalize st.hd = H at *
 obtain ⟨hk,hp,ht⟩:=H
 dsimp only at k p t hR
 have n1:rb ≠ w.heap.size:=by omega
 have n2:b ≠ w.heap.size:=by omega
 have hal:=hid (al' w (.cells #[.int .i64 (hk:Int),.int .i64 (hp:Int),.string (strT ht)] 70))
 by_cases h1:hk = 3
 · subst h1
   have hb:Hid (((strT ht).toList == (strT u).toList) = R):=hid (by
    rw [strT_toL,strT_toL,← hR.out]
    rw [Bool.eq_iff_iff,beq_iff_eq,Bool.and_eq_true,decide_eq_true_iff,decide_eq_true_iff]
    exact ⟨fun h => ⟨rfl,h⟩,fun h => h.2⟩)
   clear hR
   generalize strT ht = S at *
   generalize strT u = U at *
   go_enter Tryz.func117,Tryz.ntmps117
   go_wp2_with fail
   go_ret
   exact ⟨by rw [hb.out];rfl,hal.out⟩
 · have h1b:((hk:Int) == 3) = false:=by rw [beq_eq_false_iff_ne];omega
   obtain rfl:false = R:=by have:=hR.out;rw [decide_eq_false h1,Bool.false_and] at this;exact this
   clear hR h1
   generalize strT ht = S at *
   go_enter Tryz.func117,Tryz.ntmps117
   go_wp2_with fail
   go_ret
   exact ⟨rfl,hal.out⟩
set_option maxRecDepth 20000 in
set_option maxHeartbeats 2000000 in
theorem inAC {B rb:Nat} {T:Nat → Nat} {w:World} {X:RX} {st:RS} (h:RdV B T w rb X st) :
 Calls Tryz.prog 129 #[ptr0 rb] w fun r w' => r = .returned (.bool st.inA) ∧ Below w.heap.size w w':=by
 have G1:=hid (atNC h)
 have G2:=hid (fun u (hu:Below w.heap.size w u) => atSC (h.keep hu) [37])
 have G3:=hid (fun u (hu:Below w.heap.size w u) => atSC (h.keep hu) [124])
 have G4:=hid (fun u (hu:Below w.heap.size w u) => atSC (h.keep hu) [59])
 obtain ⟨R,hR⟩:∃ R,Hid (st.inA = R):=⟨_,hid rfl⟩
 rw [hR.out]
 unfold RS.inA at hR
 rw [show strT [37] = ⟨#[37]⟩ from rfl] at G2
 rw [show strT [124] = ⟨#[124]⟩ from rfl] at G3
 rw [show strT [59] = ⟨#[59]⟩ from rfl] at G4
 generalize st.atN = b1 at *
 generalize st.atS [37] = b2 at *
 generalize st.atS [124] = b3 at *
 generalize st.atS [59] = b4 at *
 clear h
 cases b1 <;> cases b2 <;> cases b3 <;> cases b4
 all_goals
  obtain rfl:=hR.out
  clear hR
  go_enter Tryz.func129,Tryz.ntmps129
  go_wp2_with (first
   | (go_at_call 114;refine G1.out.mono ?_;clear G1;rintro e w1 ⟨rfl,hc⟩;have hc:=hid hc)
   | (go_at_call 117;refine (G2.out _ hc.out).mono ?_;clear G2;rintro e w2 ⟨rfl,hd⟩;have hc:=hid (bl_step hc.out hd))
   | (go_at_call 117;refine (G3.out _ hc.out).mono ?_;clear G3;rintro e w3 ⟨rfl,hd⟩;have hc:=hid (bl_step hc.out hd))
   | (go_at_call 117;refine (G4.out _ hc.out).mono ?_;clear G4;rintro e w4 ⟨rfl,hd⟩;have hc:=hid (bl_step hc.out hd)))
  go_ret
  exact ⟨rfl,hc.out⟩
theorem WsV.tail {T:Nat → Nat} {w:World} {b o n cap:Nat} {ws:List Wd} (h:WsV T w (.slice (some ⟨b,o,none⟩) (n + 1) cap) ws):WsV T w (.slice (some ⟨b,o + 3,none⟩) n (cap - 1)) ws.tail:=by
 obtain ⟨b',o',cap',e,h1,h2,h3,h4⟩:=h
 injection e with e1 e2 e3
 injection e1 with e1
 injection e1 with e1 e4 _
 subst e1 e3 e4
 have hl:ws.tail.length = n:=by rw [List.length_tail];omega
 refine ⟨b,o + 3,cap - 1,by rw [hl],by omega,h2,h3,fun j hj => ?_⟩
 have h5:=h4 (j + 1) (by omega)
 have e5:ws.tail[j] = ws[j + 1]'(by omega):=by rw [List.getElem_tail]
 rw [e5,show o + 3 + j * 3 = o + (j + 1) * 3 by omega]
 exact h5
set_option maxRecDepth 20000 in
set_option maxHeartbeats 4000000 in
theorem takeC {B rb:Nat} {T:Nat → Nat} {w:World} {X:RX} {st:RS} (h:RdV B T w rb X st) (may:Bool) (hm:may = true → st.hd.1 ≠ 0) :
 Calls Tryz.prog 102 #[ptr0 rb,.bool may] w fun r w' => r = .returned (wdA st.hd) ∧ ∃ wv,Mov B T w rb X (st.take may) w' wv:=by
 obtain ⟨b,o,n,cap,⟨c0,k,p,t,le,l1,l2⟩,hwv,hwl⟩:=h.ahd
 obtain ⟨W1,hW1⟩:∃ x,w.alloc (.cells #[.int .i64 0,.int .i64 0,.string ⟨#[]⟩] 70) = x:=⟨_,rfl⟩
 have hz1:W1.heap.size = w.heap.size + 1:=by rw [← hW1];exact World.size_alloc ..
 have hB1:Below w.heap.size w W1:=by rw [← hW1];exact al' w _
 have hr1:W1.heap[w.heap.size]? = some (.cells #[.int .i64 0,.int .i64 0,.string ⟨#[]⟩] 70 (0,0)):=by rw [← hW1];exact heap_new w _
 obtain ⟨W2,hW2⟩:∃ x,W1.alloc (.cells #[.int .i64 (st.hd.1:Int),.int .i64 (st.hd.2.1:Int),.string (strT st.hd.2.2)] 70) = x:=⟨_,rfl⟩
 have hB2:Below W1.heap.size W1 W2:=by rw [← hW2];exact al' W1 _
 have hv2:W2.heap[w.heap.size + 1]? = some (boxW st.hd):=by rw [← hW2,← hz1];exact heap_new W1 _
 have hB:Below w.heap.size w W2:=bl_step hB1 hB2
 have hr2:=hs_keep hr1 hB2
 have h2:=h.keep hB
 have c0a:=keep_cell hB1 c0
 have ka:=keep_cell hB1 k
 have pa:=keep_cell hB1 p
 have ta:=keep_cell hB1 t
 have c0':=keep_cell hB c0
 have n1:rb ≠ w.heap.size + 1:=by omega
 have n2:rb ≠ w.heap.size:=by omega
 cases may with
 | true =>
  have hn2:2 ≤ st.ws.length:=h.wf.two (hm rfl)
  have hn1:1 ≤ n:=by omega
  have hc1:¬ cap = 1:=by omega
  obtain ⟨U,hU⟩:∃ x,W2.setCell ⟨rb,0,none⟩ (.slice (some ⟨b,o + 3,none⟩) n (cap - 1)) = x:=⟨_,rfl⟩
  have hUk:Kept (oneBlk rb) W2 U:=by rw [← hU];exact (Kept.refl (oneBlk rb) W2).setCell (a:=⟨rb,0,none⟩) (fun _ => rfl)
  have hUb:U.heap[rb]? = some (rdO { X with wv:=.slice (some ⟨b,o + 3,none⟩) n (cap - 1) } st.levels st.starts st.pl st.err):=by rw [← hU];exact heap_setCell h2.blk
  have hUr:=hUk.blk hr2 (fun e => n2 (show w.heap.size = rb from e).symm)
  have hUv:=hUk.blk hv2 (fun e => n1 (show w.heap.size + 1 = rb from e).symm)
  have f0:W2.frozen? ⟨rb,0,none⟩ = false:=blk_frozen h2.blk 0
  obtain ⟨⟨q0,q1⟩,⟨q2,q3⟩,⟨q4,q5⟩,q6,q7,q8⟩:=putT3 hUr (.int .i64 (st.hd.1:Int)) (.int .i64 (st.hd.2.1:Int)) (.string (strT st.hd.2.2))
  obtain ⟨F,hF⟩:∃ x,((U.setCell ⟨w.heap.size,0,none⟩ (.int .i64 (st.hd.1:Int))).setCell ⟨w.heap.size,1,none⟩ (.int .i64 (st.hd.2.1:Int))).setCell ⟨w.heap.size,2,none⟩ (.string (strT st.hd.2.2)) = x:=⟨_,rfl⟩
  have hFk:Kept (oneBlk rb) w F:=by
   rw [← hF]
   exact ((((Kept.of_below hB).step hUk (fun _ _ h => h)).setCell (a:=⟨w.heap.size,0,none⟩) (fun h9 => absurd h9 (Nat.lt_irrefl _))).setCell (a:=⟨w.heap.size,1,none⟩) (fun h9 => absurd h9 (Nat.lt_irrefl _))).setCell (a:=⟨w.heap.size,2,none⟩) (fun h9 => absurd h9 (Nat.lt_irrefl _))
  have hFb:F.heap[rb]? = some (rdO { X with wv:=.slice (some ⟨b,o + 3,none⟩) n (cap - 1) } st.levels st.starts st.pl st.err):=by
   rw [← hF,Below.heap_setCell _ _ _ _ n2,Below.heap_setCell _ _ _ _ n2,Below.heap_setCell _ _ _ _ n2]
   exact hUb
  have hws:WsV T F (.slice (some ⟨b,o + 3,none⟩) n (cap - 1)) st.ws.tail:=by
   have:=h.words
   rw [hwv] at this
   exact this.tail.keep (h.chg1 hFk)
  have hP:Hid (∃ wv,Mov B T w rb X (st.take true) F wv):=hid ⟨.slice (some ⟨b,o + 3,none⟩) n (cap - 1),h.put (hFk.mono (fun _ _ e => .inl e)) hFb hws (h.wf.tail hn2) rfl rfl rfl rfl rfl rfl rfl id rfl rfl rfl rfl rfl rfl rfl rfl rfl,hFk⟩
  obtain ⟨v0,v1,v2,-,-⟩:=rd3 hUv
  rw [hF] at q6 q7 q8
  clear h h2 hUk hUb hUr hUv hFk hFb hws hwv hr1 hr2 hv2 hB hB1 hB2 hm
  generalize st.hd = H at *
  obtain ⟨hk,hp,ht⟩:=H
  dsimp only at *
  go_enter Tryz.func102,Tryz.ntmps102
  go_wp2
  refine bodyPost_ret (v:=wdA (hk,hp,ht)) (by simp [results,Tryz.results102,go_sem,q6,q7,q8]) rfl ⟨rfl,?_⟩
  exact hP.out
 | false =>
  have GG:=hid (giveC h2 st.hd.2.1 1 (by decide))
  have hfin:Hid (∀ U,Mov B T W2 rb X (st.give st.hd.2.1 1) U X.wv → U.heap[w.heap.size]? = some (.cells #[.int .i64 0,.int .i64 0,.string ⟨#[]⟩] 70 (0,0)) ∧ U.heap[w.heap.size + 1]? = some (boxW st.hd) ∧ ∃ wv,Mov B T w rb X (st.take false) (((U.setCell ⟨w.heap.size,0,none⟩ (.int .i64 (st.hd.1:Int))).setCell ⟨w.heap.size,1,none⟩ (.int .i64 (st.hd.2.1:Int))).setCell ⟨w.heap.size,2,none⟩ (.string (strT st.hd.2.2))) wv):=hid (fun U hU => by
   refine ⟨hU.kept.blk hr2 (fun e => n2 (show w.heap.size = rb from e).symm),hU.kept.blk hv2 (fun e => n1 (show w.heap.size + 1 = rb from e).symm),X.wv,?_⟩
   have hFk:=((((Kept.of_below hB).step hU.kept (fun _ _ h => h)).setCell (a:=⟨w.heap.size,0,none⟩) (v:=.int .i64 (st.hd.1:Int)) (fun h9 => absurd h9 (Nat.lt_irrefl _))).setCell (a:=⟨w.heap.size,1,none⟩) (v:=.int .i64 (st.hd.2.1:Int)) (fun h9 => absurd h9 (Nat.lt_irrefl _))).setCell (a:=⟨w.heap.size,2,none⟩) (v:=.string (strT st.hd.2.2)) (fun h9 => absurd h9 (Nat.lt_irrefl _))
   refine ⟨h.put (hFk.mono (fun _ _ e => .inl e)) ?_ ?_ ?_ ?_ ?_ ?_ ?_ ?_ ?_ ?_ ?_ rfl rfl rfl rfl rfl rfl rfl rfl rfl,hFk⟩
   · rw [Below.heap_setCell _ _ _ _ n2,Below.heap_setCell _ _ _ _ n2,Below.heap_setCell _ _ _ _ n2]
     exact hU.rd.blk
   · have e9:(st.take false).ws = st.ws:=RS.give_ws st _ _
     rw [e9]
     exact h.ws1 hFk
   · have e9:(st.take false).ws = st.ws:=RS.give_ws st _ _
     rw [e9]
     exact h.wf
   all_goals (unfold RS.take RS.give;rw [if_neg (by decide)];split <;> (try rfl))
   · intro e9;exact absurd (show (1:Int) = 0 from e9) (by decide)
   · exact id)
  obtain ⟨u0,u1,u2,-,-⟩:=rd3 hv2
  clear h h2 hwv hr1 hr2 hv2 hB hB1 hB2 hm c0'
  generalize hX9:X.wv = wv9 at *
  generalize hS9:st.give st.hd.2.1 1 = st9 at *
  generalize hT9:st.take false = st8 at *
  clear hS9 hT9 hX9
  generalize st.hd = H at *
  obtain ⟨hk,hp,ht⟩:=H
  dsimp only at *
  go_enter Tryz.func102,Tryz.ntmps102
  go_wp2_with (go_at_call 63;refine GG.out.mono ?_;clear GG;rintro e U ⟨rfl,hM⟩;obtain ⟨hUr,hUv,hP⟩:=hfin.out U hM;clear hfin hM;have hP:=hid hP;obtain ⟨⟨q0,q1⟩,⟨q2,q3⟩,⟨q4,q5⟩,q6,q7,q8⟩:=putT3 hUr (.int .i64 (hk:Int)) (.int .i64 (hp:Int)) (.string (strT ht));obtain ⟨v0,v1,v2,-,-⟩:=rd3 hUv;clear hUr hUv)
  refine bodyPost_ret (v:=wdA (hk,hp,ht)) (by simp [results,Tryz.results102,go_sem,q6,q7,q8]) rfl ⟨rfl,?_⟩
  exact hP.out
theorem RS.atN_hd {st:RS} (h:st.atN = true):st.hd.1 ≠ 0:=fun e => by
 unfold RS.atN at h
 rw [e] at h
 cases h
theorem RS.atS_hd {st:RS} {t:Txt} (h:st.atS t = true):st.hd.1 ≠ 0:=fun e => by
 unfold RS.atS at h
 rw [e] at h
 cases h
set_option maxRecDepth 20000 in
set_option maxHeartbeats 4000000 in
theorem tkSC {B rb:Nat} {T:Nat → Nat} {w:World} {X:RX} {st:RS} (h:RdV B T w rb X st) (u:Txt) :
 Calls Tryz.prog 105 #[ptr0 rb,.string (strT u)] w fun r w' => r = .returned (.tuple #[]) ∧ ∃ wv,Mov B T w rb X (st.tkS u) w' wv:=by
 have G1:=hid (atSC h u)
 have G2:=hid (fun x (hx:Below w.heap.size w x) => takeC (h.keep hx) (st.atS u) (fun e => RS.atS_hd e))
 have G3:Hid (∀ x,Below w.heap.size w x → ∀ w',(∃ wv,Mov B T x rb X (st.take (st.atS u)) w' wv) → ∃ wv,Mov B T w rb X (st.tkS u) w' wv):=hid (fun x hx w' h9 => by
  obtain ⟨wv,h9⟩:=h9
  exact ⟨wv,h9.below hx⟩)
 clear h
 generalize st.take (st.atS u) = st1 at *
 generalize st.tkS u = st2 at *
 generalize st.atS u = bb at *
 generalize strT u = U at *
 generalize st.hd = H at *
 obtain ⟨hk,hp,ht⟩:=H
 go_enter Tryz.func105,Tryz.ntmps105
 go_wp2_with (first
  | (go_at_call 117;refine G1.out.mono ?_;clear G1;rintro e w1 ⟨rfl,hc⟩;have hc:=hid hc)
  | (go_at_call 102;refine (G2.out _ hc.out).mono ?_;clear G2;rintro e w2 ⟨rfl,hd⟩;have hd:=hid (G3.out _ hc.out _ hd)))
 go_end0
 exact ⟨rfl,hd.out⟩
theorem Mov.res {B rb q:Nat} {T:Nat → Nat} {w W1 x U:World} {X:RX} {st0 st:RS} {wv v0 v1 v2:Value} (h:RdV B T w rb X st0) (hB:Below w.heap.size w W1) (hq:w.heap.size = q) (hx:Below W1.heap.size W1 x) (h9:Mov B (tagT T q 77) x rb X st U wv) :
 Mov B T w rb X st (((U.setCell ⟨q,0,none⟩ v0).setCell ⟨q,1,none⟩ v1).setCell ⟨q,2,none⟩ v2) wv:=by
 subst hq
 have hF:∀ u,Kept (oneBlk w.heap.size) u (((u.setCell ⟨w.heap.size,0,none⟩ v0).setCell ⟨w.heap.size,1,none⟩ v1).setCell ⟨w.heap.size,2,none⟩ v2):=fun u => (((Kept.refl (oneBlk w.heap.size) u).setCell (a:=⟨w.heap.size,0,none⟩) (fun _ => rfl)).setCell (a:=⟨w.heap.size,1,none⟩) (fun _ => rfl)).setCell (a:=⟨w.heap.size,2,none⟩) (fun _ => rfl)
 refine ⟨h9.rd.wrote (hF U) (h.fresh (Nat.le_refl _)),?_⟩
 exact ((Kept.of_below (bl_step hB hx)).step h9.kept (fun _ _ h => h)).step (hF U) (fun k hk e => absurd hk (by rw [show k = w.heap.size from e];exact Nat.lt_irrefl _))
set_option maxRecDepth 20000 in
set_option maxHeartbeats 4000000 in
theorem tkNC {B rb:Nat} {T:Nat → Nat} {w:World} {X:RX} {st:RS} (h:RdV B T w rb X st) :
 Calls Tryz.prog 103 #[ptr0 rb] w fun r w' => r = .returned (wdA st.hd) ∧ ∃ wv,Mov B T w rb X st.tkN w' wv:=by
 obtain ⟨W1,hW1⟩:∃ x,w.alloc (.cells #[.int .i64 0,.int .i64 0,.string ⟨#[]⟩] 70) = x:=⟨_,rfl⟩
 have hz1:W1.heap.size = w.heap.size + 1:=by rw [← hW1];exact World.size_alloc ..
 have hB1:Below w.heap.size w W1:=by rw [← hW1];exact al' w _
 have hr1:W1.heap[w.heap.size]? = some (.cells #[.int .i64 0,.int .i64 0,.string ⟨#[]⟩] 70 (0,0)):=by rw [← hW1];exact heap_new w _
 have hrb:=blk_lt h.blk
 have n2:rb ≠ w.heap.size:=by omega
 obtain ⟨h1,-⟩:=h.aside (q:=w.heap.size) hB1 (Nat.le_refl _) (by omega)
 have G1:=hid (atNC h1)
 have G2:=hid (fun x (hx:Below W1.heap.size W1 x) => takeC (h1.keep hx) st.atN (fun e => RS.atN_hd e))
 have G3:Hid (∀ x,Below W1.heap.size W1 x → ∀ U,(∃ wv,Mov B (tagT T w.heap.size 77) x rb X (st.take st.atN) U wv) → U.heap[w.heap.size]? = some (.cells #[.int .i64 0,.int .i64 0,.string ⟨#[]⟩] 70 (0,0)) ∧ ∃ wv,Mov B T w rb X st.tkN (((U.setCell ⟨w.heap.size,0,none⟩ (.int .i64 (st.hd.1:Int))).setCell ⟨w.heap.size,1,none⟩ (.int .i64 (st.hd.2.1:Int))).setCell ⟨w.heap.size,2,none⟩ (.string (strT st.hd.2.2))) wv):=hid (fun x hx U h9 => by
  obtain ⟨wv,h9⟩:=h9
  exact ⟨h9.kept.blk (hs_keep hr1 hx) (fun e => n2 (show w.heap.size = rb from e).symm),wv,Mov.res h hB1 rfl hx h9⟩)
 clear h h1 hB1 hr1 hz1 hrb n2
 generalize st.take st.atN = st1 at *
 generalize st.tkN = st2 at *
 generalize st.atN = bb at *
 generalize tagT T w.heap.size 77 = T2 at *
 generalize st.hd = H at *
 obtain ⟨hk,hp,ht⟩:=H
 dsimp only at *
 go_enter Tryz.func103,Tryz.ntmps103
 go_wp2_with (first
  | (go_at_call 114;refine G1.out.mono ?_;clear G1;rintro e w1 ⟨rfl,hc⟩;have hc:=hid hc)
  | (go_at_call 102;refine (G2.out _ hc.out).mono ?_;clear G2;rintro e U ⟨rfl,hd⟩;obtain ⟨hUr,hP⟩:=G3.out _ hc.out _ hd;clear hd;have hP:=hid hP;obtain ⟨⟨q0,q1⟩,⟨q2,q3⟩,⟨q4,q5⟩,q6,q7,q8⟩:=putT3 hUr (.int .i64 (hk:Int)) (.int .i64 (hp:Int)) (.string (strT ht));clear hUr G3))
 refine bodyPost_ret (v:=wdA (hk,hp,ht)) (by simp [results,Tryz.results103,go_sem,q6,q7,q8]) rfl ⟨rfl,?_⟩
 exact hP.out
set_option maxRecDepth 20000 in
theorem Tryz.infSt:(Tryz.prog.info? 106).map (fun i => (i.zero,i.size,i.bytes)) = some (some (.agg #[.int .i64 0,.nilFunc]),2,16):=by kernel_rfl
def tagV (T:Nat → Nat) (v:Value) (i:Nat):Nat → Nat:=fun b => if v.ownBlock = some b then i else T b
set_option maxRecDepth 20000 in
theorem own_appI {tS ty tE:TypeId} {i0:TypeInfo} {z:Value} {sz bytes:Nat} (ht:Tryz.prog.underlying tS = some (.slice tE)) (hi:Tryz.prog.info? tE = some i0) (hz:i0.zero = some z) (hs:i0.size = sz) (hb:i0.bytes = bytes) (hzs:z.cells.size = sz) (hsz:0 < sz)
 {w:World} {B i n:Nat} {T:Nat → Nat} {v:Value} {xs:List Value} (h:OwnI w B T i tE sz v n xs) (ys:Array Value) (hys:ys.size = sz) (h1:∀ u ∈ ys.toList,u.oneCell' = true) (hn:n ≤ 100000) (hbn:bytes ≤ 1000) (hB:B ≤ w.heap.size) (hfr:∀ b,w.heap.size ≤ b → T b = 0) :
 ∃ a c w',(Builtin.append_ #[tS,tS] ty #[v,.slice (some ⟨w.heap.size,0,none⟩) 1 1]).run Tryz.prog (w.alloc (.cells ys tE)) = .ok (.slice a (n + 1) c) w' ∧ OwnI w' B (tagV T (.slice a (n + 1) c) i) i tE sz (.slice a (n + 1) c) (n + 1) (xs ++ ys.toList) ∧ Kept (fun b => v.ownBlock = some b) w w' ∧
  (∀ b,b < w.heap.size → tagV T (.slice a (n + 1) c) i b = T b) ∧ (∀ b,tagV T (.slice a (n + 1) c) i b ≠ 0 → T b ≠ 0 ∨ B ≤ b ∧ b < w'.heap.size):=by
 have hal:=al' w (.cells ys tE)
 have hO:=own_below h.1 hal
 obtain ⟨v',w',hr,hO',hg,-,hat⟩:=run_append_own_at (P:=Tryz.prog) (w:=w.alloc (.cells ys tE)) B tS ty tE i0 z sz bytes ht hi hz hs hb hzs hsz v n xs hO ⟨w.heap.size,0,none⟩ 1 1 ys.toList (by rw [Array.length_toList,hys,Nat.one_mul]) (fun j u hj => by
  have ea:(⟨w.heap.size,0,none⟩:Addr).add j = ⟨w.heap.size,j,none⟩:=by rw [Go.WideShapes.add_plain,Nat.zero_add]
  rw [ea]
  exact blk_cell (heap_new w _) (by rw [← hj];simp)) h1 (by unfold maxLen;omega) (by have:=Nat.mul_le_mul (show n + 1 ≤ 100001 by omega) hbn;omega) (Nat.le_trans hB hal.size)
 obtain ⟨a,c,rfl⟩:=own_shape hO'
 have hsz1:w.heap.size < (w.alloc (.cells ys tE)).heap.size:=by rw [World.size_alloc];omega
 have hk:Kept (fun b => v.ownBlock = some b) w w':=(Kept.of_below hal).step (Kept.of_grown hg) (fun _ _ h => h)
 have hold:∀ b,b < w.heap.size → tagV T (.slice a (n + 1) c) i b = T b:=fun b hb9 => by
  unfold tagV
  split
  · rename_i e
    rcases hat with h9 | h9
    · rw [e] at h9
      exact (h.2 b h9.symm).symm
    · rw [e] at h9
      injection h9 with h9
      omega
  · rfl
 refine ⟨a,c,w',hr,⟨hO',fun b e => if_pos e⟩,hk,hold,fun b hn9 => ?_⟩
 rcases Nat.lt_or_ge b w.heap.size with h9 | h9
 · rw [hold b h9] at hn9
   exact .inl hn9
 · refine .inr ⟨Nat.le_trans hB h9,?_⟩
   unfold tagV at hn9
   split at hn9
   · rename_i e
     exact (hO'.lt b e).2
   · exact absurd (hfr b h9) hn9
theorem zip_snoc {α β:Type} (l:List α) (m:List β) (a:α) (b:β) (h:m.length = l.length):(l ++ [a]).zip (m ++ [b]) = l.zip m ++ [(a,b)]:=by rw [List.zip_append h.symm];rfl
theorem one_R (t:Txt) (b:Bool) {v:Value} (h:v.oneCell' = true):∀ u ∈ (#[.string (strT t),v,.bool b]:Array Value).toList,u.oneCell' = true:=fun u hu => by
 simp at hu
 rcases hu with rfl | rfl | rfl
 · rfl
 · exact h
 · rfl
theorem one_S (n:Int) {v:Value} (h:v.oneCell' = true):∀ u ∈ (#[.int .i64 n,v]:Array Value).toList,u.oneCell' = true:=fun u hu => by
 simp at hu
 rcases hu with rfl | rfl
 · rfl
 · exact h
theorem one_W (x:Wd):∀ u ∈ (#[.int .i64 (x.1:Int),.int .i64 (x.2.1:Int),.string (strT x.2.2)]:Array Value).toList,u.oneCell' = true:=fun u hu => by
 simp at hu
 rcases hu with rfl | rfl | rfl <;> rfl
set_option maxRecDepth 20000 in
theorem RdV.app_rules {B rb:Nat} {T:Nat → Nat} {w:World} {X:RX} {st:RS} (h:RdV B T w rb X st) (r:Rl) (v:Value) (hv:RuC T w st.err v r.re) (h1v:v.oneCell' = true) (hn:st.rules.length ≤ 100000) :
 ∃ a c w',(Builtin.append_ #[22,22] 22 #[X.rv,.slice (some ⟨w.heap.size,0,none⟩) 1 1]).run Tryz.prog (w.alloc (.cells #[.string (strT r.name),v,.bool r.skip] 49)) = .ok (.slice a (st.rules.length + 1) c) w' ∧ w'.heap[rb]? = w.heap[rb]? ∧
  ∃ T' X',RdV B T' (w'.setCell ⟨rb,1,none⟩ (.slice a (st.rules.length + 1) c)) rb X' (st.addR r) ∧ Chg T T' w (w'.setCell ⟨rb,1,none⟩ (.slice a (st.rules.length + 1) c)):=by
 obtain ⟨i0,hi0,za,zb,zc⟩:=info_parts Tryz.infRl
 obtain ⟨a,c,w',hrun,hO,hk,hold,hown⟩:=own_appI (tS:=22) (ty:=22) Tryz.underlying22 hi0 za zb zc rfl (by decide) h.rules #[.string (strT r.name),v,.bool r.skip] rfl (one_R r.name r.skip h1v) hn (by decide) h.base (fun b hb => h.fresh hb)
 have hrb:=blk_lt h.blk
 have hnr:∀ b,X.rv.ownBlock = some b → T b = 1:=h.rules.2
 have hbk:w'.heap[rb]? = w.heap[rb]?:=hk.block rb hrb (fun e => by have:=hnr rb e;rw [h.rt] at this;cases this)
 refine ⟨a,c,w',hrun,hbk,tagV T (.slice a (st.rules.length + 1) c) 1,{ X with rv:=.slice a (st.rules.length + 1) c,rl:=X.rl ++ [v] },?_⟩
 generalize hTT:tagV T (.slice a (st.rules.length + 1) c) 1 = T' at *
 have hrt:T' rb = 99:=(hold rb hrb).trans h.rt
 have hkF:Kept (fun b => X.rv.ownBlock = some b ∨ b = rb) w (w'.setCell ⟨rb,1,none⟩ (.slice a (st.rules.length + 1) c)):=(hk.mono (fun _ _ e => .inl e)).setCell (fun _ => .inr rfl)
 have hF:∀ j,j ≠ 99 → j ≠ 1 → ∀ b,X.rv.ownBlock = some b ∨ b = rb → T b ≠ j:=fun j h9 h8 b e => by
  rcases e with e | e
  · rw [hnr b e];exact h8.symm
  · rw [e,h.rt];exact h9.symm
 have hc:Chg T T' w (w'.setCell ⟨rb,1,none⟩ (.slice a (st.rules.length + 1) c)):=⟨hkF.mono (fun b _ e => by
  rcases e with e | e
  · rw [hnr b e];decide
  · rw [show b = rb from e,h.rt];decide),hold⟩
 have hsz:(w'.setCell ⟨rb,1,none⟩ (.slice a (st.rules.length + 1) c)).heap.size = w'.heap.size:=by simp
 have hown2:(w'.setCell ⟨rb,1,none⟩ (.slice a (st.rules.length + 1) c)).ownsRow B 49 3 (.slice a (st.rules.length + 1) c) (st.rules.length + 1) _:=own_set hO.1 (fun e => by have:=hO.2 rb e;rw [hrt] at this;cases this)
 have hblk:(w'.setCell ⟨rb,1,none⟩ (.slice a (st.rules.length + 1) c)).heap[rb]? = _:=heap_setCell (hbk.trans h.blk)
 refine ⟨⟨hblk,hrt,fun b hn9 => ?_,by rw [hsz];exact Nat.le_trans h.base hk.size,h.words.keep hc,h.wf,?_,(by show (X.rl ++ [v]).length = (st.rules ++ [r]).length;rw [List.length_append,List.length_append,h.rlen];rfl),(fun x hx => by
  have hx:x ∈ (st.rules ++ [r]).zip (X.rl ++ [v]):=hx
  rw [zip_snoc _ _ _ _ h.rlen,List.mem_append,List.mem_singleton] at hx
  rcases hx with hx | rfl
  · exact (h.rre x hx).keep hc
  · exact hv.keep hc),h.nonts.kept hkF (hF 2 (by decide) (by decide)) hold,h.prods.kept hkF (hF 4 (by decide) (by decide)) hold,h.skips.kept hkF (hF 8 (by decide) (by decide)) hold,h.terms.kept hkF (hF 9 (by decide) (by decide)) hold,h.nons.kept hkF (hF 10 (by decide) (by decide)) hold,h.later.kept hkF (hF 15 (by decide) (by decide)) hold,h.flen,(fun x hx => (h.fst x hx).keep hc)⟩,hc⟩
 · rw [hsz]
   rcases hown b hn9 with h9 | h9
   · exact ⟨(h.own b h9).1,Nat.lt_of_lt_of_le (h.own b h9).2 hk.size⟩
   · exact h9
 · have e1:((st.rules ++ [r]).zip (X.rl ++ [v])).flatMap (fun x => rlV x.1 x.2) = (st.rules.zip X.rl).flatMap (fun x => rlV x.1 x.2) ++ [.string (strT r.name),v,.bool r.skip]:=by rw [zip_snoc _ _ _ _ h.rlen,List.flatMap_append,List.flatMap_singleton];rfl
   have e2:(st.rules ++ [r]).length = st.rules.length + 1:=by rw [List.length_append];rfl
   refine ⟨?_,hO.2⟩
   show World.ownsRow _ _ _ _ _ (st.rules ++ [r]).length (((st.rules ++ [r]).zip (X.rl ++ [v])).flatMap (fun x => rlV x.1 x.2))
   rw [e1,e2]
   exact hown2
set_option maxRecDepth 20000 in
theorem RdV.app_nonts {B rb:Nat} {T:Nat → Nat} {w:World} {X:RX} {st:RS} (h:RdV B T w rb X st) (t:Txt) (hn:st.nonts.length ≤ 100000) :
 ∃ a c w',(Builtin.append_ #[23,23] 23 #[X.nv,.slice (some ⟨w.heap.size,0,none⟩) 1 1]).run Tryz.prog (w.alloc (.cells #[.string (strT t)] 9)) = .ok (.slice a (st.nonts.length + 1) c) w' ∧ w'.heap[rb]? = w.heap[rb]? ∧
  ∃ T' X',RdV B T' (w'.setCell ⟨rb,2,none⟩ (.slice a (st.nonts.length + 1) c)) rb X' (st.addN t) ∧ Chg T T' w (w'.setCell ⟨rb,2,none⟩ (.slice a (st.nonts.length + 1) c)):=by
 obtain ⟨i0,hi0,za,zb,zc⟩:=info_parts Tryz.infoTx
 obtain ⟨a,c,w',hrun,hO,hk,hold,hown⟩:=own_appI (tS:=23) (ty:=23) Tryz.underlying23 hi0 za zb zc rfl (by decide) h.nonts #[.string (strT t)] rfl (fun u hu => by simp at hu;rw [hu];rfl) hn (by decide) h.base (fun b hb => h.fresh hb)
 have hrb:=blk_lt h.blk
 have hnr:∀ b,X.nv.ownBlock = some b → T b = 2:=h.nonts.2
 have hbk:w'.heap[rb]? = w.heap[rb]?:=hk.block rb hrb (fun e => by have:=hnr rb e;rw [h.rt] at this;cases this)
 refine ⟨a,c,w',hrun,hbk,tagV T (.slice a (st.nonts.length + 1) c) 2,{ X with nv:=.slice a (st.nonts.length + 1) c },?_⟩
 generalize hTT:tagV T (.slice a (st.nonts.length + 1) c) 2 = T' at *
 have hrt:T' rb = 99:=(hold rb hrb).trans h.rt
 have hkF:Kept (fun b => X.nv.ownBlock = some b ∨ b = rb) w (w'.setCell ⟨rb,2,none⟩ (.slice a (st.nonts.length + 1) c)):=(hk.mono (fun _ _ e => .inl e)).setCell (fun _ => .inr rfl)
 have hF:∀ j,j ≠ 99 → j ≠ 2 → ∀ b,X.nv.ownBlock = some b ∨ b = rb → T b ≠ j:=fun j h9 h8 b e => by
  rcases e with e | e
  · rw [hnr b e];exact h8.symm
  · rw [e,h.rt];exact h9.symm
 have hc:Chg T T' w (w'.setCell ⟨rb,2,none⟩ (.slice a (st.nonts.length + 1) c)):=⟨hkF.mono (fun b _ e => by
  rcases e with e | e
  · rw [hnr b e];decide
  · rw [show b = rb from e,h.rt];decide),hold⟩
 have hsz:(w'.setCell ⟨rb,2,none⟩ (.slice a (st.nonts.length + 1) c)).heap.size = w'.heap.size:=by simp
 have hown2:(w'.setCell ⟨rb,2,none⟩ (.slice a (st.nonts.length + 1) c)).ownsRow B 9 1 (.slice a (st.nonts.length + 1) c) (st.nonts.length + 1) _:=own_set hO.1 (fun e => by have:=hO.2 rb e;rw [hrt] at this;cases this)
 have hblk:(w'.setCell ⟨rb,2,none⟩ (.slice a (st.nonts.length + 1) c)).heap[rb]? = _:=heap_setCell (hbk.trans h.blk)
 refine ⟨⟨hblk,hrt,fun b hn9 => ?_,by rw [hsz];exact Nat.le_trans h.base hk.size,h.words.keep hc,h.wf,h.rules.kept hkF (hF 1 (by decide) (by decide)) hold,h.rlen,(fun x hx => (h.rre x hx).keep hc),?_,h.prods.kept hkF (hF 4 (by decide) (by decide)) hold,h.skips.kept hkF (hF 8 (by decide) (by decide)) hold,h.terms.kept hkF (hF 9 (by decide) (by decide)) hold,h.nons.kept hkF (hF 10 (by decide) (by decide)) hold,h.later.kept hkF (hF 15 (by decide) (by decide)) hold,h.flen,(fun x hx => (h.fst x hx).keep hc)⟩,hc⟩
 · rw [hsz]
   rcases hown b hn9 with h9 | h9
   · exact ⟨(h.own b h9).1,Nat.lt_of_lt_of_le (h.own b h9).2 hk.size⟩
   · exact h9
 · have e1:(st.nonts ++ [t]).flatMap csT = st.nonts.flatMap csT ++ [.string (strT t)]:=by rw [List.flatMap_append,List.flatMap_singleton];rfl
   have e2:(st.nonts ++ [t]).length = st.nonts.length + 1:=by rw [List.length_append];rfl
   refine ⟨?_,hO.2⟩
   show World.ownsRow _ _ _ _ _ (st.nonts ++ [t]).length ((st.nonts ++ [t]).flatMap csT)
   rw [e1,e2]
   exact hown2
set_option maxRecDepth 20000 in
theorem RdV.app_prods {B rb:Nat} {T:Nat → Nat} {w:World} {X:RX} {st:RS} (h:RdV B T w rb X st) (_:True) (hn:st.prods.length ≤ 100000) :
 ∃ a c w',(Builtin.append_ #[25,25] 25 #[X.pv,.slice (some ⟨w.heap.size,0,none⟩) 1 1]).run Tryz.prog (w.alloc (.cells #[.int .i64 (st.nonts.length:Int),.slice none 0 0,.int .i64 0] 43)) = .ok (.slice a (st.prods.length + 1) c) w' ∧ w'.heap[rb]? = w.heap[rb]? ∧
  ∃ T' X',RdV B T' (w'.setCell ⟨rb,4,none⟩ (.slice a (st.prods.length + 1) c)) rb X' (st.addP) ∧ Chg T T' w (w'.setCell ⟨rb,4,none⟩ (.slice a (st.prods.length + 1) c)):=by
 obtain ⟨i0,hi0,za,zb,zc⟩:=info_parts Tryz.infPd
 obtain ⟨a,c,w',hrun,hO,hk,hold,hown⟩:=own_appI (tS:=25) (ty:=25) Tryz.underlying25 hi0 za zb zc rfl (by decide) h.prods #[.int .i64 (st.nonts.length:Int),.slice none 0 0,.int .i64 0] rfl (fun u hu => by simp at hu;rcases hu with rfl | rfl | rfl <;> rfl) hn (by decide) h.base (fun b hb => h.fresh hb)
 have hrb:=blk_lt h.blk
 have hnr:∀ b,X.pv.ownBlock = some b → T b = 4:=h.prods.2
 have hbk:w'.heap[rb]? = w.heap[rb]?:=hk.block rb hrb (fun e => by have:=hnr rb e;rw [h.rt] at this;cases this)
 refine ⟨a,c,w',hrun,hbk,tagV T (.slice a (st.prods.length + 1) c) 4,{ X with pv:=.slice a (st.prods.length + 1) c },?_⟩
 generalize hTT:tagV T (.slice a (st.prods.length + 1) c) 4 = T' at *
 have hrt:T' rb = 99:=(hold rb hrb).trans h.rt
 have hkF:Kept (fun b => X.pv.ownBlock = some b ∨ b = rb) w (w'.setCell ⟨rb,4,none⟩ (.slice a (st.prods.length + 1) c)):=(hk.mono (fun _ _ e => .inl e)).setCell (fun _ => .inr rfl)
 have hF:∀ j,j ≠ 99 → j ≠ 4 → ∀ b,X.pv.ownBlock = some b ∨ b = rb → T b ≠ j:=fun j h9 h8 b e => by
  rcases e with e | e
  · rw [hnr b e];exact h8.symm
  · rw [e,h.rt];exact h9.symm
 have hc:Chg T T' w (w'.setCell ⟨rb,4,none⟩ (.slice a (st.prods.length + 1) c)):=⟨hkF.mono (fun b _ e => by
  rcases e with e | e
  · rw [hnr b e];decide
  · rw [show b = rb from e,h.rt];decide),hold⟩
 have hsz:(w'.setCell ⟨rb,4,none⟩ (.slice a (st.prods.length + 1) c)).heap.size = w'.heap.size:=by simp
 have hown2:(w'.setCell ⟨rb,4,none⟩ (.slice a (st.prods.length + 1) c)).ownsRow B 43 3 (.slice a (st.prods.length + 1) c) (st.prods.length + 1) _:=own_set hO.1 (fun e => by have:=hO.2 rb e;rw [hrt] at this;cases this)
 have hblk:(w'.setCell ⟨rb,4,none⟩ (.slice a (st.prods.length + 1) c)).heap[rb]? = _:=heap_setCell (hbk.trans h.blk)
 refine ⟨⟨hblk,hrt,fun b hn9 => ?_,by rw [hsz];exact Nat.le_trans h.base hk.size,h.words.keep hc,h.wf,h.rules.kept hkF (hF 1 (by decide) (by decide)) hold,h.rlen,(fun x hx => (h.rre x hx).keep hc),h.nonts.kept hkF (hF 2 (by decide) (by decide)) hold,?_,h.skips.kept hkF (hF 8 (by decide) (by decide)) hold,h.terms.kept hkF (hF 9 (by decide) (by decide)) hold,h.nons.kept hkF (hF 10 (by decide) (by decide)) hold,h.later.kept hkF (hF 15 (by decide) (by decide)) hold,h.flen,(fun x hx => (h.fst x hx).keep hc)⟩,hc⟩
 · rw [hsz]
   rcases hown b hn9 with h9 | h9
   · exact ⟨(h.own b h9).1,Nat.lt_of_lt_of_le (h.own b h9).2 hk.size⟩
   · exact h9
 · have e1:(st.prods ++ [st.nonts.length]).flatMap pdV = st.prods.flatMap pdV ++ [.int .i64 (st.nonts.length:Int),.slice none 0 0,.int .i64 0]:=by rw [List.flatMap_append,List.flatMap_singleton];rfl
   have e2:(st.prods ++ [st.nonts.length]).length = st.prods.length + 1:=by rw [List.length_append];rfl
   refine ⟨?_,hO.2⟩
   show World.ownsRow _ _ _ _ _ (st.prods ++ [st.nonts.length]).length ((st.prods ++ [st.nonts.length]).flatMap pdV)
   rw [e1,e2]
   exact hown2
set_option maxRecDepth 20000 in
theorem RdV.app_skips {B rb:Nat} {T:Nat → Nat} {w:World} {X:RX} {st:RS} (h:RdV B T w rb X st) (x:Wd) (hn:st.skips.length ≤ 100000) :
 ∃ a c w',(Builtin.append_ #[66,66] 66 #[X.sk,.slice (some ⟨w.heap.size,0,none⟩) 1 1]).run Tryz.prog (w.alloc (.cells #[.int .i64 (x.1:Int),.int .i64 (x.2.1:Int),.string (strT x.2.2)] 70)) = .ok (.slice a (st.skips.length + 1) c) w' ∧ w'.heap[rb]? = w.heap[rb]? ∧
  ∃ T' X',RdV B T' (w'.setCell ⟨rb,8,none⟩ (.slice a (st.skips.length + 1) c)) rb X' (st.addW x true) ∧ Chg T T' w (w'.setCell ⟨rb,8,none⟩ (.slice a (st.skips.length + 1) c)):=by
 obtain ⟨i0,hi0,za,zb,zc⟩:=info_parts Tryz.infoWd
 obtain ⟨a,c,w',hrun,hO,hk,hold,hown⟩:=own_appI (tS:=66) (ty:=66) Tryz.underlying66 hi0 za zb zc rfl (by decide) h.skips #[.int .i64 (x.1:Int),.int .i64 (x.2.1:Int),.string (strT x.2.2)] rfl (one_W x) hn (by decide) h.base (fun b hb => h.fresh hb)
 have hrb:=blk_lt h.blk
 have hnr:∀ b,X.sk.ownBlock = some b → T b = 8:=h.skips.2
 have hbk:w'.heap[rb]? = w.heap[rb]?:=hk.block rb hrb (fun e => by have:=hnr rb e;rw [h.rt] at this;cases this)
 refine ⟨a,c,w',hrun,hbk,tagV T (.slice a (st.skips.length + 1) c) 8,{ X with sk:=.slice a (st.skips.length + 1) c },?_⟩
 generalize hTT:tagV T (.slice a (st.skips.length + 1) c) 8 = T' at *
 have hrt:T' rb = 99:=(hold rb hrb).trans h.rt
 have hkF:Kept (fun b => X.sk.ownBlock = some b ∨ b = rb) w (w'.setCell ⟨rb,8,none⟩ (.slice a (st.skips.length + 1) c)):=(hk.mono (fun _ _ e => .inl e)).setCell (fun _ => .inr rfl)
 have hF:∀ j,j ≠ 99 → j ≠ 8 → ∀ b,X.sk.ownBlock = some b ∨ b = rb → T b ≠ j:=fun j h9 h8 b e => by
  rcases e with e | e
  · rw [hnr b e];exact h8.symm
  · rw [e,h.rt];exact h9.symm
 have hc:Chg T T' w (w'.setCell ⟨rb,8,none⟩ (.slice a (st.skips.length + 1) c)):=⟨hkF.mono (fun b _ e => by
  rcases e with e | e
  · rw [hnr b e];decide
  · rw [show b = rb from e,h.rt];decide),hold⟩
 have hsz:(w'.setCell ⟨rb,8,none⟩ (.slice a (st.skips.length + 1) c)).heap.size = w'.heap.size:=by simp
 have hown2:(w'.setCell ⟨rb,8,none⟩ (.slice a (st.skips.length + 1) c)).ownsRow B 70 3 (.slice a (st.skips.length + 1) c) (st.skips.length + 1) _:=own_set hO.1 (fun e => by have:=hO.2 rb e;rw [hrt] at this;cases this)
 have hblk:(w'.setCell ⟨rb,8,none⟩ (.slice a (st.skips.length + 1) c)).heap[rb]? = _:=heap_setCell (hbk.trans h.blk)
 refine ⟨⟨hblk,hrt,fun b hn9 => ?_,by rw [hsz];exact Nat.le_trans h.base hk.size,h.words.keep hc,h.wf,h.rules.kept hkF (hF 1 (by decide) (by decide)) hold,h.rlen,(fun x hx => (h.rre x hx).keep hc),h.nonts.kept hkF (hF 2 (by decide) (by decide)) hold,h.prods.kept hkF (hF 4 (by decide) (by decide)) hold,?_,h.terms.kept hkF (hF 9 (by decide) (by decide)) hold,h.nons.kept hkF (hF 10 (by decide) (by decide)) hold,h.later.kept hkF (hF 15 (by decide) (by decide)) hold,h.flen,(fun x hx => (h.fst x hx).keep hc)⟩,hc⟩
 · rw [hsz]
   rcases hown b hn9 with h9 | h9
   · exact ⟨(h.own b h9).1,Nat.lt_of_lt_of_le (h.own b h9).2 hk.size⟩
   · exact h9
 · have e1:(st.skips ++ [x]).flatMap wdV = st.skips.flatMap wdV ++ [.int .i64 (x.1:Int),.int .i64 (x.2.1:Int),.string (strT x.2.2)]:=by rw [List.flatMap_append,List.flatMap_singleton];rfl
   have e2:(st.skips ++ [x]).length = st.skips.length + 1:=by rw [List.length_append];rfl
   refine ⟨?_,hO.2⟩
   show World.ownsRow _ _ _ _ _ (st.skips ++ [x]).length ((st.skips ++ [x]).flatMap wdV)
   rw [e1,e2]
   exact hown2
set_option maxRecDepth 20000 in
theorem RdV.app_terms {B rb:Nat} {T:Nat → Nat} {w:World} {X:RX} {st:RS} (h:RdV B T w rb X st) (x:Wd) (hn:st.terms.length ≤ 100000) :
 ∃ a c w',(Builtin.append_ #[66,66] 66 #[X.te,.slice (some ⟨w.heap.size,0,none⟩) 1 1]).run Tryz.prog (w.alloc (.cells #[.int .i64 (x.1:Int),.int .i64 (x.2.1:Int),.string (strT x.2.2)] 70)) = .ok (.slice a (st.terms.length + 1) c) w' ∧ w'.heap[rb]? = w.heap[rb]? ∧
  ∃ T' X',RdV B T' (w'.setCell ⟨rb,9,none⟩ (.slice a (st.terms.length + 1) c)) rb X' (st.addW x false) ∧ Chg T T' w (w'.setCell ⟨rb,9,none⟩ (.slice a (st.terms.length + 1) c)):=by
 obtain ⟨i0,hi0,za,zb,zc⟩:=info_parts Tryz.infoWd
 obtain ⟨a,c,w',hrun,hO,hk,hold,hown⟩:=own_appI (tS:=66) (ty:=66) Tryz.underlying66 hi0 za zb zc rfl (by decide) h.terms #[.int .i64 (x.1:Int),.int .i64 (x.2.1:Int),.string (strT x.2.2)] rfl (one_W x) hn (by decide) h.base (fun b hb => h.fresh hb)
 have hrb:=blk_lt h.blk
 have hnr:∀ b,X.te.ownBlock = some b → T b = 9:=h.terms.2
 have hbk:w'.heap[rb]? = w.heap[rb]?:=hk.block rb hrb (fun e => by have:=hnr rb e;rw [h.rt] at this;cases this)
 refine ⟨a,c,w',hrun,hbk,tagV T (.slice a (st.terms.length + 1) c) 9,{ X with te:=.slice a (st.terms.length + 1) c },?_⟩
 generalize hTT:tagV T (.slice a (st.terms.length + 1) c) 9 = T' at *
 have hrt:T' rb = 99:=(hold rb hrb).trans h.rt
 have hkF:Kept (fun b => X.te.ownBlock = some b ∨ b = rb) w (w'.setCell ⟨rb,9,none⟩ (.slice a (st.terms.length + 1) c)):=(hk.mono (fun _ _ e => .inl e)).setCell (fun _ => .inr rfl)
 have hF:∀ j,j ≠ 99 → j ≠ 9 → ∀ b,X.te.ownBlock = some b ∨ b = rb → T b ≠ j:=fun j h9 h8 b e => by
  rcases e with e | e
  · rw [hnr b e];exact h8.symm
  · rw [e,h.rt];exact h9.symm
 have hc:Chg T T' w (w'.setCell ⟨rb,9,none⟩ (.slice a (st.terms.length + 1) c)):=⟨hkF.mono (fun b _ e => by
  rcases e with e | e
  · rw [hnr b e];decide
  · rw [show b = rb from e,h.rt];decide),hold⟩
 have hsz:(w'.setCell ⟨rb,9,none⟩ (.slice a (st.terms.length + 1) c)).heap.size = w'.heap.size:=by simp
 have hown2:(w'.setCell ⟨rb,9,none⟩ (.slice a (st.terms.length + 1) c)).ownsRow B 70 3 (.slice a (st.terms.length + 1) c) (st.terms.length + 1) _:=own_set hO.1 (fun e => by have:=hO.2 rb e;rw [hrt] at this;cases this)
 have hblk:(w'.setCell ⟨rb,9,none⟩ (.slice a (st.terms.length + 1) c)).heap[rb]? = _:=heap_setCell (hbk.trans h.blk)
 refine ⟨⟨hblk,hrt,fun b hn9 => ?_,by rw [hsz];exact Nat.le_trans h.base hk.size,h.words.keep hc,h.wf,h.rules.kept hkF (hF 1 (by decide) (by decide)) hold,h.rlen,(fun x hx => (h.rre x hx).keep hc),h.nonts.kept hkF (hF 2 (by decide) (by decide)) hold,h.prods.kept hkF (hF 4 (by decide) (by decide)) hold,h.skips.kept hkF (hF 8 (by decide) (by decide)) hold,?_,h.nons.kept hkF (hF 10 (by decide) (by decide)) hold,h.later.kept hkF (hF 15 (by decide) (by decide)) hold,h.flen,(fun x hx => (h.fst x hx).keep hc)⟩,hc⟩
 · rw [hsz]
   rcases hown b hn9 with h9 | h9
   · exact ⟨(h.own b h9).1,Nat.lt_of_lt_of_le (h.own b h9).2 hk.size⟩
   · exact h9
 · have e1:(st.terms ++ [x]).flatMap wdV = st.terms.flatMap wdV ++ [.int .i64 (x.1:Int),.int .i64 (x.2.1:Int),.string (strT x.2.2)]:=by rw [List.flatMap_append,List.flatMap_singleton];rfl
   have e2:(st.terms ++ [x]).length = st.terms.length + 1:=by rw [List.length_append];rfl
   refine ⟨?_,hO.2⟩
   show World.ownsRow _ _ _ _ _ (st.terms ++ [x]).length ((st.terms ++ [x]).flatMap wdV)
   rw [e1,e2]
   exact hown2
set_option maxRecDepth 20000 in
theorem RdV.app_nons {B rb:Nat} {T:Nat → Nat} {w:World} {X:RX} {st:RS} (h:RdV B T w rb X st) (x:Wd) (hn:st.nons.length ≤ 100000) :
 ∃ a c w',(Builtin.append_ #[66,66] 66 #[X.no,.slice (some ⟨w.heap.size,0,none⟩) 1 1]).run Tryz.prog (w.alloc (.cells #[.int .i64 (x.1:Int),.int .i64 (x.2.1:Int),.string (strT x.2.2)] 70)) = .ok (.slice a (st.nons.length + 1) c) w' ∧ w'.heap[rb]? = w.heap[rb]? ∧
  ∃ T' X',RdV B T' (w'.setCell ⟨rb,10,none⟩ (.slice a (st.nons.length + 1) c)) rb X' (st.addO x) ∧ Chg T T' w (w'.setCell ⟨rb,10,none⟩ (.slice a (st.nons.length + 1) c)):=by
 obtain ⟨i0,hi0,za,zb,zc⟩:=info_parts Tryz.infoWd
 obtain ⟨a,c,w',hrun,hO,hk,hold,hown⟩:=own_appI (tS:=66) (ty:=66) Tryz.underlying66 hi0 za zb zc rfl (by decide) h.nons #[.int .i64 (x.1:Int),.int .i64 (x.2.1:Int),.string (strT x.2.2)] rfl (one_W x) hn (by decide) h.base (fun b hb => h.fresh hb)
 have hrb:=blk_lt h.blk
 have hnr:∀ b,X.no.ownBlock = some b → T b = 10:=h.nons.2
 have hbk:w'.heap[rb]? = w.heap[rb]?:=hk.block rb hrb (fun e => by have:=hnr rb e;rw [h.rt] at this;cases this)
 refine ⟨a,c,w',hrun,hbk,tagV T (.slice a (st.nons.length + 1) c) 10,{ X with no:=.slice a (st.nons.length + 1) c },?_⟩
 generalize hTT:tagV T (.slice a (st.nons.length + 1) c) 10 = T' at *
 have hrt:T' rb = 99:=(hold rb hrb).trans h.rt
 have hkF:Kept (fun b => X.no.ownBlock = some b ∨ b = rb) w (w'.setCell ⟨rb,10,none⟩ (.slice a (st.nons.length + 1) c)):=(hk.mono (fun _ _ e => .inl e)).setCell (fun _ => .inr rfl)
 have hF:∀ j,j ≠ 99 → j ≠ 10 → ∀ b,X.no.ownBlock = some b ∨ b = rb → T b ≠ j:=fun j h9 h8 b e => by
  rcases e with e | e
  · rw [hnr b e];exact h8.symm
  · rw [e,h.rt];exact h9.symm
 have hc:Chg T T' w (w'.setCell ⟨rb,10,none⟩ (.slice a (st.nons.length + 1) c)):=⟨hkF.mono (fun b _ e => by
  rcases e with e | e
  · rw [hnr b e];decide
  · rw [show b = rb from e,h.rt];decide),hold⟩
 have hsz:(w'.setCell ⟨rb,10,none⟩ (.slice a (st.nons.length + 1) c)).heap.size = w'.heap.size:=by simp
 have hown2:(w'.setCell ⟨rb,10,none⟩ (.slice a (st.nons.length + 1) c)).ownsRow B 70 3 (.slice a (st.nons.length + 1) c) (st.nons.length + 1) _:=own_set hO.1 (fun e => by have:=hO.2 rb e;rw [hrt] at this;cases this)
 have hblk:(w'.setCell ⟨rb,10,none⟩ (.slice a (st.nons.length + 1) c)).heap[rb]? = _:=heap_setCell (hbk.trans h.blk)
 refine ⟨⟨hblk,hrt,fun b hn9 => ?_,by rw [hsz];exact Nat.le_trans h.base hk.size,h.words.keep hc,h.wf,h.rules.kept hkF (hF 1 (by decide) (by decide)) hold,h.rlen,(fun x hx => (h.rre x hx).keep hc),h.nonts.kept hkF (hF 2 (by decide) (by decide)) hold,h.prods.kept hkF (hF 4 (by decide) (by decide)) hold,h.skips.kept hkF (hF 8 (by decide) (by decide)) hold,h.terms.kept hkF (hF 9 (by decide) (by decide)) hold,?_,h.later.kept hkF (hF 15 (by decide) (by decide)) hold,h.flen,(fun x hx => (h.fst x hx).keep hc)⟩,hc⟩
 · rw [hsz]
   rcases hown b hn9 with h9 | h9
   · exact ⟨(h.own b h9).1,Nat.lt_of_lt_of_le (h.own b h9).2 hk.size⟩
   · exact h9
 · have e1:(st.nons ++ [x]).flatMap wdV = st.nons.flatMap wdV ++ [.int .i64 (x.1:Int),.int .i64 (x.2.1:Int),.string (strT x.2.2)]:=by rw [List.flatMap_append,List.flatMap_singleton];rfl
   have e2:(st.nons ++ [x]).length = st.nons.length + 1:=by rw [List.length_append];rfl
   refine ⟨?_,hO.2⟩
   show World.ownsRow _ _ _ _ _ (st.nons ++ [x]).length ((st.nons ++ [x]).flatMap wdV)
   rw [e1,e2]
   exact hown2
set_option maxRecDepth 20000 in
theorem RdV.app_later {B rb:Nat} {T:Nat → Nat} {w:World} {X:RX} {st:RS} (h:RdV B T w rb X st) (s:Stp) (v:Value) (hv:StpV T w rb v s) (hn:st.later.length ≤ 100000) :
 ∃ a c w',(Builtin.append_ #[86,86] 86 #[X.la,.slice (some ⟨w.heap.size,0,none⟩) 1 1]).run Tryz.prog (w.alloc (.cells #[.int .i64 (s.w.2.1:Int),v] 106)) = .ok (.slice a (st.later.length + 1) c) w' ∧ w'.heap[rb]? = w.heap[rb]? ∧
  ∃ T' X',RdV B T' (w'.setCell ⟨rb,15,none⟩ (.slice a (st.later.length + 1) c)) rb X' (st.thn s) ∧ Chg T T' w (w'.setCell ⟨rb,15,none⟩ (.slice a (st.later.length + 1) c)):=by
 obtain ⟨i0,hi0,za,zb,zc⟩:=info_parts Tryz.infSt
 obtain ⟨a,c,w',hrun,hO,hk,hold,hown⟩:=own_appI (tS:=86) (ty:=86) Tryz.underlying86 hi0 za zb zc rfl (by decide) h.later #[.int .i64 (s.w.2.1:Int),v] rfl (one_S _ hv.oneCell) hn (by decide) h.base (fun b hb => h.fresh hb)
 have hrb:=blk_lt h.blk
 have hnr:∀ b,X.la.ownBlock = some b → T b = 15:=h.later.2
 have hbk:w'.heap[rb]? = w.heap[rb]?:=hk.block rb hrb (fun e => by have:=hnr rb e;rw [h.rt] at this;cases this)
 refine ⟨a,c,w',hrun,hbk,tagV T (.slice a (st.later.length + 1) c) 15,{ X with la:=.slice a (st.later.length + 1) c,fl:=X.fl ++ [v] },?_⟩
 generalize hTT:tagV T (.slice a (st.later.length + 1) c) 15 = T' at *
 have hrt:T' rb = 99:=(hold rb hrb).trans h.rt
 have hkF:Kept (fun b => X.la.ownBlock = some b ∨ b = rb) w (w'.setCell ⟨rb,15,none⟩ (.slice a (st.later.length + 1) c)):=(hk.mono (fun _ _ e => .inl e)).setCell (fun _ => .inr rfl)
 have hF:∀ j,j ≠ 99 → j ≠ 15 → ∀ b,X.la.ownBlock = some b ∨ b = rb → T b ≠ j:=fun j h9 h8 b e => by
  rcases e with e | e
  · rw [hnr b e];exact h8.symm
  · rw [e,h.rt];exact h9.symm
 have hc:Chg T T' w (w'.setCell ⟨rb,15,none⟩ (.slice a (st.later.length + 1) c)):=⟨hkF.mono (fun b _ e => by
  rcases e with e | e
  · rw [hnr b e];decide
  · rw [show b = rb from e,h.rt];decide),hold⟩
 have hsz:(w'.setCell ⟨rb,15,none⟩ (.slice a (st.later.length + 1) c)).heap.size = w'.heap.size:=by simp
 have hown2:(w'.setCell ⟨rb,15,none⟩ (.slice a (st.later.length + 1) c)).ownsRow B 106 2 (.slice a (st.later.length + 1) c) (st.later.length + 1) _:=own_set hO.1 (fun e => by have:=hO.2 rb e;rw [hrt] at this;cases this)
 have hblk:(w'.setCell ⟨rb,15,none⟩ (.slice a (st.later.length + 1) c)).heap[rb]? = _:=heap_setCell (hbk.trans h.blk)
 refine ⟨⟨hblk,hrt,fun b hn9 => ?_,by rw [hsz];exact Nat.le_trans h.base hk.size,h.words.keep hc,h.wf,h.rules.kept hkF (hF 1 (by decide) (by decide)) hold,h.rlen,(fun x hx => (h.rre x hx).keep hc),h.nonts.kept hkF (hF 2 (by decide) (by decide)) hold,h.prods.kept hkF (hF 4 (by decide) (by decide)) hold,h.skips.kept hkF (hF 8 (by decide) (by decide)) hold,h.terms.kept hkF (hF 9 (by decide) (by decide)) hold,h.nons.kept hkF (hF 10 (by decide) (by decide)) hold,?_,(by show (X.fl ++ [v]).length = (st.later ++ [s]).length;rw [List.length_append,List.length_append,h.flen];rfl),(fun x hx => by
  have hx:x ∈ (st.later ++ [s]).zip (X.fl ++ [v]):=hx
  rw [zip_snoc _ _ _ _ h.flen,List.mem_append,List.mem_singleton] at hx
  rcases hx with hx | rfl
  · exact (h.fst x hx).keep hc
  · exact hv.keep hc)⟩,hc⟩
 · rw [hsz]
   rcases hown b hn9 with h9 | h9
   · exact ⟨(h.own b h9).1,Nat.lt_of_lt_of_le (h.own b h9).2 hk.size⟩
   · exact h9
 · have e1:((st.later ++ [s]).zip (X.fl ++ [v])).flatMap (fun x => spV x.1 x.2) = (st.later.zip X.fl).flatMap (fun x => spV x.1 x.2) ++ [.int .i64 (s.w.2.1:Int),v]:=by rw [zip_snoc _ _ _ _ h.flen,List.flatMap_append,List.flatMap_singleton];rfl
   have e2:(st.later ++ [s]).length = st.later.length + 1:=by rw [List.length_append];rfl
   refine ⟨?_,hO.2⟩
   show World.ownsRow _ _ _ _ _ (st.later ++ [s]).length (((st.later ++ [s]).zip (X.fl ++ [v])).flatMap (fun x => spV x.1 x.2))
   rw [e1,e2]
   exact hown2
end Go.Proofs.YtfhokapfkclckaaGreat
