/- How much the reader may still put down: a number that never grows. The reader: nonterminal. The reader: rule. The reader: rule. -/
import Derived.Test.YtfhokapfkclckaaGreatK41
namespace Go.Proofs.YtfhokapfkclckaaGreat
def RS.lens (st:RS):Nat:=st.rules.length + st.nonts.length + st.prods.length + st.skips.length + st.terms.length + st.nons.length + st.later.length + st.levels + st.starts
def RS.pot (st:RS):Nat:=st.lens + 4 * st.ws.length
theorem SameL.lens {a b:RS} (h:SameL a b):b.lens = a.lens:=by unfold RS.lens;rw [h.rules,h.nonts,h.prods,h.skips,h.terms,h.nons,h.later,h.levels,h.starts]
theorem SameL.pot {a b:RS} (h:SameL a b):b.pot ≤ a.pot:=by unfold RS.pot;rw [h.lens];have:=h.ws;omega
theorem RS.hd_ne {st:RS} (h:st.hd.1 ≠ 0):0 < st.ws.length:=by
 unfold RS.hd at h
 cases hw:st.ws with
 | nil => rw [hw] at h;exact absurd rfl h
 | cons x l => rw [List.length_cons];omega
theorem RS.take_pot {st:RS} (h:st.hd.1 ≠ 0):(st.take true).pot + 4 = st.pot ∧ (st.take true).ws.length + 1 = st.ws.length:=by
 have h0:=RS.hd_ne h
 have e:(st.take true).ws.length + 1 = st.ws.length:=by show st.ws.tail.length + 1 = _;rw [List.length_tail];omega
 refine ⟨?_,e⟩
 unfold RS.pot
 rw [(SameL.take st true).lens]
 omega
theorem RS.tkS_pot {st:RS} {t:Txt} (h:st.atS t = true):(st.tkS t).pot + 4 = st.pot:=by
 unfold RS.tkS
 rw [h]
 exact (RS.take_pot (RS.atS_hd h)).1
theorem RS.tkN_pot {st:RS} (h:st.atN = true):st.tkN.pot + 4 = st.pot:=by
 unfold RS.tkN
 rw [h]
 exact (RS.take_pot (RS.atN_hd h)).1
theorem RS.thn_pot (st:RS) (s:Stp):(st.thn s).pot = st.pot + 1:=by
 unfold RS.thn RS.pot RS.lens
 simp only [List.length_append,List.length_singleton]
 omega
theorem RS.symb_pot (st:RS) (pr:Nat):(st.symb pr).pot ≤ st.pot + 1:=by
 unfold RS.symb
 rw [RS.thn_pot]
 have:=(SameL.tkN st).pot
 omega
theorem RS.prec_pot (st:RS) (pr:Nat):(st.prec pr).pot ≤ st.pot + 1:=by
 unfold RS.prec
 rw [RS.thn_pot]
 have:=(SameL.tkN st).pot
 omega
theorem RS.lvd_pot (st:RS) (p s:Nat):(st.lvd p s).pot ≤ st.pot + 1:=by
 unfold RS.lvd
 rw [RS.thn_pot]
 have:=(SameL.tkN st).pot
 omega
theorem RS.lvds_pot (p s:Nat):∀ (n:Nat) (st:RS),(RS.lvds p s n st).pot ≤ st.pot
 | 0,st => Nat.le_refl _
 | n + 1,st => by
  rw [RS.lvds]
  split
  · rename_i h
    refine Nat.le_trans (RS.lvds_pot p s n _) ?_
    unfold RS.lvd
    rw [RS.thn_pot]
    have:=RS.tkN_pot h
    omega
  · exact Nat.le_refl _
theorem RS.syms_pot (pr:Nat):∀ (f n:Nat) (st:RS),(RS.syms pr f n st).pot ≤ st.pot
 | 0,_,st => Nat.le_refl _
 | f + 1,n,st => by
  rw [RS.syms]
  split
  · rename_i h
    refine Nat.le_trans (RS.syms_pot pr f (n + 1) _) ?_
    unfold RS.symb
    rw [RS.thn_pot]
    have h1:=RS.tkN_pot (st:=st.full (decide (n = 8)) st.hd.2.1) (by rw [RS.atN_of (RS.full_ws _ _ _)];exact h)
    have h2:=(SameL.full st (decide (n = 8)) st.hd.2.1).pot
    omega
  · exact Nat.le_refl _
theorem RS.pct_pot (st:RS) (pr:Nat):(st.pct pr).pot ≤ st.pot:=by
 unfold RS.pct
 split
 · rename_i h
   have h1:=RS.tkS_pot h
   have h2:=RS.prec_pot (st.tkS [37]) pr
   omega
 · exact Nat.le_refl _
theorem RS.addP_pot (st:RS):st.addP.pot = st.pot + 1:=by
 unfold RS.addP RS.pot RS.lens
 simp only [List.length_append,List.length_singleton]
 omega
theorem RS.alt_pot (st:RS):st.alt.pot ≤ st.pot + 1:=by
 unfold RS.alt
 refine Nat.le_trans (RS.pct_pot _ _) (Nat.le_trans (RS.syms_pot _ _ _ _) ?_)
 unfold RS.alt1
 rw [RS.addP_pot]
 have:=(SameL.full st (decide (st.prods.length = 40) && st.inA) st.hd.2.1).pot
 omega
theorem RS.alts_pot:∀ (f:Nat) (st:RS),(RS.alts f st).pot ≤ st.pot
 | 0,st => Nat.le_refl _
 | f + 1,st => by
  rw [RS.alts]
  split
  · rename_i h
    refine Nat.le_trans (RS.alts_pot f _) ?_
    have h1:=RS.tkS_pot h
    have h2:=RS.alt_pot (st.tkS [124])
    omega
  · exact Nat.le_refl _
theorem RS.addN_pot (st:RS) (t:Txt):(st.addN t).pot = st.pot + 1:=by
 unfold RS.addN RS.pot RS.lens
 simp only [List.length_append,List.length_singleton]
 omega
theorem RS.addO_pot (st:RS) (x:Wd):(st.addO x).pot = st.pot + 1:=by
 unfold RS.addO RS.pot RS.lens
 simp only [List.length_append,List.length_singleton]
 omega
theorem RS.addR_pot (st:RS) (r:Rl):(st.addR r).pot = st.pot + 1:=by
 unfold RS.addR RS.pot RS.lens
 simp only [List.length_append,List.length_singleton]
 omega
theorem RS.addW_pot (st:RS) (x:Wd) (sk:Bool):(st.addW x sk).pot = st.pot + 1:=by
 unfold RS.addW
 split
 all_goals
  unfold RS.pot RS.lens
  simp only [List.length_append,List.length_singleton]
  omega
def RS.nont0 (st:RS):RS:=((((st.tkN.full (decide (st.nonts.length = 16)) st.hd.2.1).tkS [58]).addN st.hd.2.2).addO st.hd).once st.hd
theorem RS.nont0_pot (st:RS):st.nont0.pot ≤ st.tkN.pot + 3:=by
 unfold RS.nont0 RS.once
 rw [RS.thn_pot,RS.addO_pot,RS.addN_pot]
 have h1:=(SameL.full st.tkN (decide (st.nonts.length = 16)) st.hd.2.1).pot
 have h2:=(SameL.tkS (st.tkN.full (decide (st.nonts.length = 16)) st.hd.2.1) [58]).pot
 omega
theorem RS.nont_pot {st:RS} (h:st.atN = true):st.nont.pot ≤ st.pot:=by
 unfold RS.nont
 have h1:=(SameL.tkS (RS.alts st.nont1.ws.length st.nont1) [59]).pot
 have h2:=RS.alts_pot st.nont1.ws.length st.nont1
 have h3:st.nont1.pot ≤ st.nont0.pot + 1:=RS.alt_pot st.nont0
 have h4:=RS.nont0_pot st
 have h5:=RS.tkN_pot h
 omega
theorem RS.rule_pot {st:RS} (h:st.hd.1 ≠ 0):st.rule.pot ≤ st.pot:=by
 unfold RS.rule RS.rule2 RS.once
 rw [RS.thn_pot,RS.addW_pot,RS.addR_pot]
 have h1:=(RS.take_pot h).1
 have h2:st.rule1.pot ≤ (st.take true).pot:=(SameL.full _ _ _).pot
 have h3:=(SameL.tkN st.rule1).pot
 have h4:=(SameL.cells st.rule1.tkN).pot
 have h5:=(SameL.tkS st.rule1.tkN.cells [59]).pot
 omega
theorem RS.level_pot {st:RS} (h:st.hd.1 ≠ 0):st.level.pot ≤ st.pot:=by
 unfold RS.level
 have h0:st.lv1.pot = st.pot + 1:=by unfold RS.lv1 RS.pot RS.lens;dsimp only;omega
 have h1:=(RS.take_pot (st:=st.lv1) h).1
 have h2:=RS.lvd_pot (st.lv1.take true) (st.levels + 1) (sdN st.hd.2.2)
 have h3:=RS.lvds_pot (st.levels + 1) (sdN st.hd.2.2) ((st.lv1.take true).lvd (st.levels + 1) (sdN st.hd.2.2)).ws.length ((st.lv1.take true).lvd (st.levels + 1) (sdN st.hd.2.2))
 have h4:=(SameL.tkS (RS.lvds (st.levels + 1) (sdN st.hd.2.2) ((st.lv1.take true).lvd (st.levels + 1) (sdN st.hd.2.2)).ws.length ((st.lv1.take true).lvd (st.levels + 1) (sdN st.hd.2.2))) [59]).pot
 dsimp only
 omega
theorem RS.start_pot {st:RS} (h:st.hd.1 ≠ 0):st.start.pot ≤ st.pot:=by
 unfold RS.start
 dsimp only
 rw [RS.thn_pot]
 have h0:st.st1.pot = st.pot + 1:=by unfold RS.st1 RS.pot RS.lens;dsimp only;omega
 have h1:=(RS.take_pot (st:=st.st1) h).1
 have h2:=RS.thn_pot (st.st1.take true) ⟨3,st.hd,if 1 < st.starts + 1 then 1 else 0,0⟩
 have h3:=(SameL.tkN ((st.st1.take true).thn ⟨3,st.hd,if 1 < st.starts + 1 then 1 else 0,0⟩)).pot
 have h4:=(SameL.tkS ((st.st1.take true).thn ⟨3,st.hd,if 1 < st.starts + 1 then 1 else 0,0⟩).tkN [59]).pot
 omega
theorem sdN_kw {t:Txt} (h1:¬ (t = kTok ∨ t = kSkip)) (h2:¬ t = kStart) (h3:¬ 0 < sdN t):kwB t = false:=by
 unfold kwB
 rw [decide_eq_false (fun e => h1 (.inl e)),decide_eq_false (fun e => h1 (.inr e)),decide_eq_false h2,decide_eq_false h3]
 rfl
theorem RS.item_pot (st:RS):st.item.pot ≤ st.pot:=by
 unfold RS.item
 split
 · exact (SameL.give st _ (by decide)).pot
 · rename_i h1
   have h1:st.hd.1 = 1:=by omega
   have h0:st.hd.1 ≠ 0:=by omega
   split
   · exact RS.rule_pot h0
   · rename_i h2
     split
     · exact RS.start_pot h0
     · rename_i h3
       split
       · exact RS.level_pot h0
       · rename_i h4
         refine RS.nont_pot ?_
         unfold RS.atN
         rw [h1,sdN_kw h2 h3 h4]
         rfl
end Go.Proofs.YtfhokapfkclckaaGreat
namespace Go.Proofs.YtfhokapfkclckaaGreat
open Go.RowKit Go.Maps Go.Sort
theorem RS.pot_le {st:RS} {K:Nat} (h:st.pot ≤ K):st.rules.length ≤ K ∧ st.nonts.length ≤ K ∧ st.prods.length ≤ K ∧ st.skips.length ≤ K ∧ st.terms.length ≤ K ∧ st.nons.length ≤ K ∧ st.later.length + st.ws.length ≤ K ∧ st.levels ≤ K ∧ st.starts ≤ K:=by
 unfold RS.pot RS.lens at h
 omega
def NtP (B:Nat) (T:Nat → Nat) (w:World) (rb:Nat) (x:Wd) (s:RS) (q:Nat) (V:World):Prop:=∃ T1 X1,RdV B T1 V rb X1 s ∧ Chg T T1 w V ∧ Im T1 V q (boxW x)
set_option maxRecDepth 20000 in
theorem nontA {B rb q:Nat} {T:Nat → Nat} {w V:World} {x:Wd} {s1:RS} (h:NtP B T w rb x s1 q V) (hn:s1.nonts.length ≤ 99000) :
 Calls Tryz.prog 105 #[ptr0 rb,.string ⟨#[58]⟩] V fun r u => r = .returned (.tuple #[]) ∧ ∃ rv A C w6,(u.drew.cell? ⟨rb,2,none⟩ = some rv ∧ u.drew.cell? ⟨q,2,none⟩ = some (.string (strT x.2.2))) ∧
  ((u.alloc (.cells #[.string (strT x.2.2)] 9)).drew.cell? ⟨rb,2,none⟩ = some rv ∧ (u.alloc (.cells #[.string (strT x.2.2)] 9)).drew.cell? ⟨q,2,none⟩ = some (.string (strT x.2.2))) ∧
  (Builtin.append_ #[23,23] 23 #[rv,.slice (some ⟨u.heap.size,0,none⟩) 1 1]).run Tryz.prog (u.alloc (.cells #[.string (strT x.2.2)] 9)).drew = .ok (.slice A (s1.nonts.length + 1) C) w6 ∧ w6.cell? ⟨rb,2,none⟩ = some rv ∧ w6.frozen? ⟨rb,2,none⟩ = false ∧
  NtP B T w rb x ((s1.tkS [58]).addN x.2.2) q (w6.setCell ⟨rb,2,none⟩ (.slice A (s1.nonts.length + 1) C)):=by
 obtain ⟨T1,X1,hr,hc,iq⟩:=h
 refine (tkSC hr [58]).mono ?_
 rintro r u ⟨e,wv,hM⟩
 have hbd:Below u.heap.size u u.drew:=(Below.refl _ u).drew
 have hrd:=hM.rd.keep hbd
 have c1:=hM.chg.trans (Chg.of_below (T:=T1) hbd)
 have hnn:(s1.tkS [58]).nonts.length = s1.nonts.length:=by rw [(SameL.tkS s1 [58]).nonts]
 obtain ⟨A,C,w6,hrun,hbk,T',X',hR,hC⟩:=hrd.app_nonts x.2.2 (by rw [hnn];omega)
 rw [hnn] at hrun hR hC
 have jq:=iq.keep c1
 have hbl:=hrd.blk
 have hb6:=hbk.trans hbl
 have hba:Below u.drew.heap.size u.drew (u.alloc (.cells #[.string (strT x.2.2)] 9)).drew:=al' u.drew _
 have d1:u.drew.cell? ⟨rb,2,none⟩ = some X1.nv:=blk_cell hbl rfl
 exact ⟨e,X1.nv,A,C,w6,⟨d1,jq.cell rfl⟩,⟨keep_cell hba d1,keep_cell hba (jq.cell rfl)⟩,hrun,blk_cell hb6 rfl,blk_frozen hb6 2,T',X',hR,(hc.trans c1).trans hC,jq.keep hC⟩
set_option maxRecDepth 20000 in
theorem nontB {B rb q:Nat} {T:Nat → Nat} {w V:World} {x:Wd} {s3:RS} (h:NtP B T w rb x s3 q V) (hn:s3.pot ≤ 90000) :
 (V.drew.cell? ⟨q,0,none⟩ = some (.int .i64 (x.1:Int)) ∧ V.drew.cell? ⟨q,1,none⟩ = some (.int .i64 (x.2.1:Int)) ∧ V.drew.cell? ⟨q,2,none⟩ = some (.string (strT x.2.2))) ∧
 Calls Tryz.prog 115 #[.pointer (some ⟨rb,8,none⟩),wdA x] V.drew fun r u => r = .returned (.tuple #[]) ∧ (u.cell? ⟨q,0,none⟩ = some (.int .i64 (x.1:Int)) ∧ u.cell? ⟨q,1,none⟩ = some (.int .i64 (x.2.1:Int)) ∧ u.cell? ⟨q,2,none⟩ = some (.string (strT x.2.2))) ∧
  Calls Tryz.prog 107 #[ptr0 rb,wdA x] u fun r u2 => r = .returned (.tuple #[]) ∧ Calls Tryz.prog 116 #[ptr0 rb] u2 fun r w' => r = .returned (.tuple #[]) ∧ RdP B T w rb ((s3.addO x).once x).alt w':=by
 obtain ⟨T1,X1,hr,hc,iq⟩:=h
 have hbd:Below V.heap.size V V.drew:=(Below.refl _ V).drew
 have cd:=Chg.of_below (T:=T1) hbd
 have jq:=iq.keep cd
 obtain ⟨-,-,-,-,-,p6,p7,-,-⟩:=RS.pot_le hn
 refine ⟨⟨jq.cell rfl,jq.cell rfl,jq.cell rfl⟩,(addNC (hr.keep hbd) x (by omega)).mono ?_⟩
 rintro r u ⟨e,T',X',hr',hc'⟩
 have lq:=jq.keep hc'
 refine ⟨e,⟨lq.cell rfl,lq.cell rfl,lq.cell rfl⟩,(onceC hr' x (by show s3.later.length ≤ _;omega)).mono ?_⟩
 rintro r u2 ⟨e',T'',X'',hr'',hc''⟩
 have hp:((s3.addO x).once x).pot ≤ 90002:=by
  unfold RS.once
  rw [RS.thn_pot,RS.addO_pot];omega
 obtain ⟨-,-,q3,-,-,-,q7,-,-⟩:=RS.pot_le hp
 refine ⟨e',(altC hr'' (by omega) (by omega)).mono ?_⟩
 rintro r w' ⟨e3,T3,X3,hr3,hc3⟩
 exact ⟨e3,T3,X3,hr3,(((hc.trans cd).trans hc').trans hc'').trans hc3⟩
theorem alts_yes {st:RS} (h:st.atS [124] = true) (hn:st.ws ≠ []):RS.alts st.ws.length st = RS.alts (st.ws.length - 1) (st.tkS [124]).alt:=by
 cases hw:st.ws with
 | nil => exact absurd hw hn
 | cons x l => rw [List.length_cons,RS.alts,h,if_pos rfl];rfl
theorem alts_no {st:RS} (f:Nat) (h:st.atS [124] = false):RS.alts f st = st:=by
 cases f with
 | zero => rfl
 | succ m => rw [RS.alts,h];rfl
theorem syms_ws (pr:Nat):∀ (f n:Nat) (st:RS),(RS.syms pr f n st).ws.length ≤ st.ws.length
 | 0,_,st => Nat.le_refl _
 | f + 1,n,st => by
  rw [RS.syms]
  split
  · rename_i h
    refine Nat.le_trans (syms_ws pr f (n + 1) _) ?_
    rw [symb_ws h,List.length_tail]
    omega
  · exact Nat.le_refl _
theorem alt_ws (st:RS):st.alt.ws.length ≤ st.ws.length:=by
 unfold RS.alt RS.pct
 have h1:=syms_ws st.prods.length st.alt1.ws.length 0 st.alt1
 have h2:st.alt1.ws = st.ws:=RS.full_ws _ _ _
 generalize RS.syms st.prods.length st.alt1.ws.length 0 st.alt1 = s at *
 rw [h2] at h1
 split
 · show ((s.tkS [37]).tkN).ws.length ≤ _
   have h3:=(SameL.tkS s [37]).ws
   have h4:=(SameL.tkN (s.tkS [37])).ws
   omega
 · exact h1
theorem alts_more:∀ (f:Nat) (st:RS),st.ws.length ≤ f → RS.alts f st = RS.alts st.ws.length st
 | 0,st,h => by rw [Nat.le_zero.1 h]
 | f + 1,st,h => by
  cases hs:st.atS [124] with
  | false => rw [alts_no _ hs,alts_no _ hs]
  | true =>
   have h0:=RS.hd_ne (RS.atS_hd hs)
   rw [alts_yes hs (fun e => by rw [e] at h0;exact absurd h0 (Nat.lt_irrefl _)),RS.alts,hs,if_pos rfl]
   have h1:(st.tkS [124]).alt.ws.length ≤ st.ws.length - 1:=by
    have:=alt_ws (st.tkS [124])
    rw [RS.tkS_ws hs,List.length_tail] at this
    exact this
   rw [alts_more f _ (by omega)]
   rcases Nat.lt_or_ge (st.ws.length - 1) f with h9 | h9
   · rw [alts_more (st.ws.length - 1) _ h1]
   · rw [show st.ws.length - 1 = f by omega,alts_more f _ (by omega)]
termination_by f => f
set_option maxRecDepth 20000 in
set_option maxHeartbeats 16000000 in
theorem ruleCa {B rb:Nat} {T:Nat → Nat} {w:World} {X:RX} {st:RS} (h:RdV B T w rb X st) (hm:st.hd.1 ≠ 0) (h16:st.rules.length = 16) (b1:st.rules.length ≤ 99000) (b2:st.skips.length ≤ 99000) (b3:st.terms.length ≤ 99000) (b4:st.later.length ≤ 99000) :
 Calls Tryz.prog 82 #[ptr0 rb] w fun r w' => r = .returned (.tuple #[]) ∧ RdP B T w rb st.rule w':=by
 obtain ⟨ra,rc,hrv⟩:=own_shape h.rules.1
 have G1:=hid (takeC h true (fun _ => hm))
 have G2:Hid (∀ u,(∃ wv,Mov B T w rb X (st.take true) u wv) → (u.alloc (boxW st.hd)).cell? ⟨rb,1,none⟩ = some (.slice ra st.rules.length rc) ∧ (st.rules.length = 16 → Calls Tryz.prog 63 #[ptr0 rb,.int .i64 (st.hd.2.1:Int),.int .i64 3] (u.alloc (boxW st.hd)) fun r w' => r = .returned (.tuple #[]) ∧ (∃ wv,Mov B T w rb X st.rule1 w' wv) ∧ Im T w' u.heap.size (boxW st.hd)) ∧ (¬ st.rules.length = 16 → (∃ wv,Mov B T w rb X st.rule1 (u.alloc (boxW st.hd)) wv) ∧ Im T (u.alloc (boxW st.hd)) u.heap.size (boxW st.hd))):=hid (fun u hu => by
  obtain ⟨wv,hM⟩:=hu
  have hM1:=hM.keep (al' u (boxW st.hd))
  have i1:Im T (u.alloc (boxW st.hd)) u.heap.size (boxW st.hd):=hM.rd.im (Nat.le_refl _) (heap_new u _)
  refine ⟨by rw [← hrv];exact blk_cell hM1.rd.blk rfl,fun e => (giveC hM1.rd st.hd.2.1 3 (by decide)).mono ?_,fun e => ⟨⟨wv,?_⟩,i1⟩⟩
  · rintro r w' ⟨e9,hM2⟩
    refine ⟨e9,⟨wv,?_⟩,i1.keep hM2.chg⟩
    have e8:st.rule1 = (st.take true).give st.hd.2.1 3:=by unfold RS.rule1 RS.full;rw [decide_eq_true e];rfl
    rw [e8]
    exact hM1.trans hM2
  · have e8:st.rule1 = st.take true:=by unfold RS.rule1 RS.full;rw [decide_eq_false e];rfl
    rw [e8]
    exact hM1)
 have G3:Hid (∀ q1 u,(∃ wv,Mov B T w rb X st.rule1 u wv) → Im T u q1 (boxW st.hd) → Calls Tryz.prog 103 #[ptr0 rb] u fun r w' => r = .returned (wdA st.rule1.hd) ∧ (∃ wv,Mov B T w rb X st.rule1.tkN w' wv) ∧ Im T w' q1 (boxW st.hd)):=hid (fun q1 u hu hi => by
  obtain ⟨wv,hM⟩:=hu
  refine (tkNC hM.rd).mono ?_
  rintro r w' ⟨e9,wv',hM2⟩
  exact ⟨e9,⟨wv',hM.trans hM2⟩,hi.keep hM2.chg⟩)
 have hbd:∀ W:World,Below W.heap.size W W.drew:=fun W => (Below.refl _ W).drew
 have G4:Hid (∀ q1 u,(∃ wv,Mov B T w rb X st.rule1.tkN u wv) → Im T u q1 (boxW st.hd) → ∀ W,u.alloc (boxW st.rule1.hd) = W →
  (W.drew.cell? ⟨q1,2,none⟩ = some (.string (strT st.hd.2.2)) ∧ W.drew.cell? ⟨u.heap.size,2,none⟩ = some (.string (strT st.rule1.hd.2.2)) ∧ (W.alloc boxU0).drew.cell? ⟨q1,2,none⟩ = some (.string (strT st.hd.2.2)) ∧ (W.alloc boxU0).drew.cell? ⟨u.heap.size,2,none⟩ = some (.string (strT st.rule1.hd.2.2))) ∧
  (Calls Tryz.prog 104 #[ptr0 rb] W.drew fun r w' => ∃ a m c,r = .returned (.slice a m c) ∧ (w'.cell? ⟨q1,2,none⟩ = some (.string (strT st.hd.2.2)) ∧ w'.cell? ⟨u.heap.size,2,none⟩ = some (.string (strT st.rule1.hd.2.2)) ∧ (w'.alloc boxU0).cell? ⟨q1,2,none⟩ = some (.string (strT st.hd.2.2)) ∧ (w'.alloc boxU0).cell? ⟨u.heap.size,2,none⟩ = some (.string (strT st.rule1.hd.2.2))) ∧
   RuF B T w rb st.hd st.rule1.hd (decide (st.hd.2.2 = kSkip)) (rxA st.rule1.tkN.hd.2.2).1 st.rule1.tkN.cells q1 u.heap.size (w'.alloc (boxU st.rule1.hd.2.2 (.slice a m c) (decide (st.hd.2.2 = kSkip)))) w'.heap.size a m c) ∧
  (Calls Tryz.prog 104 #[ptr0 rb] (W.alloc boxU0).drew fun r w' => ∃ a m c,r = .returned (.slice a m c) ∧ (w'.cell? ⟨q1,2,none⟩ = some (.string (strT st.hd.2.2)) ∧ w'.cell? ⟨u.heap.size,2,none⟩ = some (.string (strT st.rule1.hd.2.2))) ∧ w'.heap[W.heap.size]? = some boxU0 ∧
   RuF B T w rb st.hd st.rule1.hd (decide (st.hd.2.2 = kSkip)) (rxA st.rule1.tkN.hd.2.2).1 st.rule1.tkN.cells q1 u.heap.size (((w'.setCell ⟨W.heap.size,0,none⟩ (.string (strT st.rule1.hd.2.2))).setCell ⟨W.heap.size,1,none⟩ (.slice a m c)).setCell ⟨W.heap.size,2,none⟩ (.bool (decide (st.hd.2.2 = kSkip)))) W.heap.size a m c)):=hid (fun q1 u hu hi W hW => by
  obtain ⟨wv,hM⟩:=hu
  have hal:Below u.heap.size u W:=by rw [← hW];exact al' u _
  have hM1:=(hM.keep hal).keep (hbd W)
  have i1:=(hi.keep (Chg.of_below (T:=T) hal)).keep (Chg.of_below (T:=T) (hbd W))
  have i3:Im T W.drew u.heap.size (boxW st.rule1.hd):=⟨hM.rd.fresh (Nat.le_refl _),hs_keep (by rw [← hW];exact heap_new u _) (hbd W)⟩
  have hal2:Below W.drew.heap.size W.drew (W.alloc boxU0).drew:=al' W.drew boxU0
  refine ⟨⟨i1.cell rfl,i3.cell rfl,keep_cell hal2 (i1.cell rfl),keep_cell hal2 (i3.cell rfl)⟩,(rdCellsC hM1.rd).mono ?_,?_⟩
  · rintro r w' ⟨a,m,c,wv',e9,hM2,hI⟩
    have j1:=i1.keep hM2.chg
    have j3:=i3.keep hM2.chg
    have hal3:=al' w' boxU0
    have hal4:=al' w' (boxU st.rule1.hd.2.2 (.slice a m c) (decide (st.hd.2.2 = kSkip)))
    have c4:=Chg.of_below (T:=T) hal4
    exact ⟨a,m,c,e9,⟨j1.cell rfl,j3.cell rfl,keep_cell hal3 (j1.cell rfl),keep_cell hal3 (j3.cell rfl)⟩,T,_,hM2.rd.keep hal4,(hM1.trans hM2).chg.trans c4,j1.keep c4,j3.keep c4,⟨hM2.rd.fresh (Nat.le_refl _),heap_new w' _⟩,fun e => (hI e).keep c4⟩
  · obtain ⟨h5,c5⟩:=hM1.rd.aside (q:=W.drew.heap.size) (al' W.drew boxU0) (Nat.le_refl _) (by rw [World.size_alloc];omega)
    refine (rdCellsC h5).mono ?_
    rintro r w' ⟨a,m,c,wv',e9,hM2,hI⟩
    have k1:=(i1.keep c5).keep hM2.chg
    have k3:=(i3.keep c5).keep hM2.chg
    have hrb:=blk_lt hM1.rd.blk
    have hne:¬ oneBlk rb W.drew.heap.size:=fun e => absurd hrb (by rw [← show W.drew.heap.size = rb from e];exact Nat.lt_irrefl _)
    have hb0:w'.heap[W.heap.size]? = some boxU0:=hM2.kept.blk (heap_new W.drew boxU0) hne
    obtain ⟨p1,p2⟩:=put3U hb0 (.string (strT st.rule1.hd.2.2)) (.slice a m c) (.bool (decide (st.hd.2.2 = kSkip)))
    obtain ⟨r1,r2,r3,r4,r5⟩:=hM1.rd.boxG hM2 p1 p2
    exact ⟨a,m,c,e9,⟨k1.cell rfl,k3.cell rfl⟩,hb0,T,_,r1,hM1.chg.trans r2,r4 _ _ i1,r4 _ _ i3,r3,fun e => r5 _ _ (hI e)⟩)
 have hfin:st.rule = (((st.rule1.tkN.cells.tkS [59]).addR ⟨st.rule1.hd.2.2,(rxA st.rule1.tkN.hd.2.2).1,decide (st.hd.2.2 = kSkip)⟩).addW st.rule1.hd (decide (st.hd.2.2 = kSkip))).once st.rule1.hd:=rfl
 rw [hfin]
 have hsm:SameL st st.rule1.tkN.cells:=((SameL.rule1 _).trans (SameL.tkN _)).trans (SameL.cells _)
 have hskp:((strT st.hd.2.2).toList == ([115,107,105,112]:Txt)) = decide (st.hd.2.2 = kSkip):=by
  by_cases e:st.hd.2.2 = kSkip
  · rw [decide_eq_true e];exact strT_is e
  · rw [decide_eq_false e];exact strT_isnt e
 have b1':st.rule1.tkN.cells.rules.length ≤ 99000:=by rw [hsm.rules];exact b1
 have b2':st.rule1.tkN.cells.skips.length ≤ 99000:=by rw [hsm.skips];exact b2
 have b3':st.rule1.tkN.cells.terms.length ≤ 99000:=by rw [hsm.terms];exact b3
 have b4':st.rule1.tkN.cells.later.length ≤ 99000:=by rw [hsm.later];exact b4
 clear hsm hfin h hrv b2 b3 b4 hm
 generalize (rxA st.rule1.tkN.hd.2.2).1 = cl at *
 generalize st.rule1.tkN.cells = s3 at *
 generalize st.rule1.tkN = s2 at *
 generalize hH2:st.rule1.hd = H2 at *
 generalize st.rule1 = s1 at *
 generalize st.take true = sA at *
 generalize st.rules.length = nr at *
 generalize hH1:st.hd = H1 at *
 obtain ⟨k1,p1,t1⟩:=H1
 obtain ⟨k2,p2,t2⟩:=H2
 try dsimp only at *
 clear hH1 hH2
 generalize decide (t1 = kSkip) = sk at *
 have H3:Hid (∀ q1 u,(∃ wv,Mov B T w rb X s1 u wv) → Im T u q1 (boxW (k1,p1,t1)) → Calls Tryz.prog 103 #[ptr0 rb] u fun r w' => r = .returned (wdA (k2,p2,t2)) ∧ (∃ wv,Mov B T w rb X s2 w' wv) ∧ Im T w' q1 (boxW (k1,p1,t1))):=G3
 clear G3
 have hz16:((nr:Int) == 16) = true:=by rw [beq_iff_eq];omega
 go_enter Tryz.func82,Tryz.ntmps82
 go_wp2_with (first
  | (go_at_call 102;refine G1.out.mono ?_;clear G1;rintro e u1 ⟨rfl,hu⟩;obtain ⟨z1,g16,gno⟩:=G2.out u1 hu;clear G2 hu;have gno:=hid gno;have g16:=hid g16;obtain ⟨v0,v1,v2,-,-⟩:=rd3 (heap_new u1 (boxW (k1,p1,t1)));obtain ⟨W1,hW1⟩:∃ y,u1.alloc (boxW (k1,p1,t1)) = y:=⟨_,rfl⟩;rw [hW1] at z1 g16 gno v0 v1 v2)
  | (go_at_call 63;refine (g16.out h16).mono ?_;clear g16 gno;rintro e u2 ⟨rfl,hm2,hi2⟩;have hm2:=hid hm2;have hi2:=hid hi2)
  | (go_at_call 103;refine (H3.out _ _ hm2.out hi2.out).mono ?_;clear hm2 hi2;rintro e u3 ⟨rfl,hm3,hi3⟩;obtain ⟨W3,hW3⟩:∃ y,u3.alloc (boxW (k2,p2,t2)) = y:=⟨_,rfl⟩;obtain ⟨⟨y1,y2,y3,y4⟩,GC,GC'⟩:=G4.out _ u3 hm3 hi3 W3 hW3;have GC:=hid GC;have GC':=hid GC';clear hm3 hi3)
  | (go_at_call 103;refine (H3.out _ _ (gno.out h16).1 (gno.out h16).2).mono ?_;rintro e u3 ⟨rfl,hm3,hi3⟩;obtain ⟨W3,hW3⟩:∃ y,u3.alloc (boxW (k2,p2,t2)) = y:=⟨_,rfl⟩;obtain ⟨⟨y1,y2,y3,y4⟩,GC,GC'⟩:=G4.out _ u3 hm3 hi3 W3 hW3;have GC:=hid GC;have GC':=hid GC';clear hm3 hi3))
 clear hW3 G4 H3 hz16
 try clear hW1
 try clear z1 v0 v1 v2
 try clear gno g16
 generalize u1.heap.size = q1 at *
 generalize u3.heap.size = q3 at *
 apply collapse5 (F:=fun V q a m c => RuF B T w rb (k1,p1,t1) (k2,p2,t2) sk cl s3 q1 q3 V q a m c)
 case h =>
  intro rest
  go_region_with (first
   | (go_at_call 104;refine GC.out.mono ?_;rintro e u4 ⟨a,m,c,rfl,⟨x1,x2,x3,x4⟩,hf⟩;have hf9:=hid hf;clear hf)
   | (go_at_call 104;refine GC'.out.mono ?_;rintro e u4 ⟨a,m,c,rfl,⟨x1,x2⟩,hb9,hf⟩;have hf9:=hid hf;clear hf;obtain ⟨⟨m0,m1⟩,⟨m2,m3⟩,⟨m4,m5⟩,m6,m7,m8⟩:=putT3 hb9 (.string (strT t2)) (.slice a m c) (.bool sk);clear hb9 m6 m7 m8))
  all_goals
   have hf:=hf9.out
   clear hf9
   first
    | (generalize ((u4.setCell ⟨W3.heap.size,0,none⟩ (.string (strT t2))).setCell ⟨W3.heap.size,1,none⟩ (.slice a m c)).setCell ⟨W3.heap.size,2,none⟩ (.bool sk) = V at hf ⊢;generalize W3.heap.size = q at hf ⊢;exact rest V q a m c hf)
    | (generalize u4.alloc (boxU t2 (.slice a m c) sk) = V at hf ⊢;generalize u4.heap.size = q at hf ⊢;exact rest V q a m c hf)
 case pf =>
  rintro V q a m c hF
  have G5:=hid (ruleApp hF b1')
  have hS:SameL s3 (s3.tkS [59]):=SameL.tkS _ _
  have e2:((s3.tkS [59]).addR ⟨t2,cl,sk⟩).skips.length ≤ 99000:=by show (s3.tkS [59]).skips.length ≤ _;rw [hS.skips];exact b2'
  have e3:((s3.tkS [59]).addR ⟨t2,cl,sk⟩).terms.length ≤ 99000:=by show (s3.tkS [59]).terms.length ≤ _;rw [hS.terms];exact b3'
  have e4:((s3.tkS [59]).addR ⟨t2,cl,sk⟩).later.length ≤ 99000:=by show (s3.tkS [59]).later.length ≤ _;rw [hS.later];exact b4'
  have G6:=hid (fun V6 (h6:RuP B T w rb (k2,p2,t2) (boxU t2 (.slice a m c) sk) ((s3.tkS [59]).addR ⟨t2,cl,sk⟩) q3 q V6) => ruleAdd h6 e2 e3 e4)
  clear hF GC GC' y1 y2 y3 y4 hS e2 e3 e4 b1' b2' b3' b4'
  generalize s3.rules.length = n5 at *
  go_wp2_with (go_at_call 105;refine G5.out.mono ?_;clear G5;rintro e u5 ⟨rfl,rv,A,C,w6,⟨d0,d1,d2,d3⟩,⟨f0,f1,f2,f3⟩,hrun,g0,g1,hP⟩;have hP:=hid hP)
  apply collapse
  case h =>
   intro rest
   go_region_law ((first
    | (refine step_run (by rfl) (.tmp 35) (.tmp 37) 22 (by rfl) _ _ (by rfl) (by rfl) hrun ?_)
    | fail))
   all_goals exact rest.out
  case pf =>
   obtain ⟨⟨z0,z1,z2,z3⟩,G7⟩:=G6.out _ hP.out
   have G7:=hid G7
   clear G6 hP d0 d1 d2 d3 f0 f1 f2 f3 g0 g1 hrun
   generalize w6.setCell ⟨rb,1,none⟩ (.slice A (n5 + 1) C) = V6 at *
   go_wp2_with fail
   go_region_with (go_at_call 106;refine G7.out.mono ?_;rintro e u7 ⟨rfl,⟨o0,o1,o2⟩,G8⟩;have G8:=hid G8)
   all_goals
    go_wp2_with (go_at_call 107;refine G8.out.mono ?_;clear G8;rintro e u8 ⟨rfl,hQ⟩;have hQ:=hid hQ)
    go_end0
    exact ⟨rfl,hQ.out⟩
set_option maxRecDepth 20000 in
set_option maxHeartbeats 16000000 in
theorem ruleCb {B rb:Nat} {T:Nat → Nat} {w:World} {X:RX} {st:RS} (h:RdV B T w rb X st) (hm:st.hd.1 ≠ 0) (h16:¬ st.rules.length = 16) (b1:st.rules.length ≤ 99000) (b2:st.skips.length ≤ 99000) (b3:st.terms.length ≤ 99000) (b4:st.later.length ≤ 99000) :
 Calls Tryz.prog 82 #[ptr0 rb] w fun r w' => r = .returned (.tuple #[]) ∧ RdP B T w rb st.rule w':=by
 obtain ⟨ra,rc,hrv⟩:=own_shape h.rules.1
 have G1:=hid (takeC h true (fun _ => hm))
 have G2:Hid (∀ u,(∃ wv,Mov B T w rb X (st.take true) u wv) → (u.alloc (boxW st.hd)).cell? ⟨rb,1,none⟩ = some (.slice ra st.rules.length rc) ∧ (st.rules.length = 16 → Calls Tryz.prog 63 #[ptr0 rb,.int .i64 (st.hd.2.1:Int),.int .i64 3] (u.alloc (boxW st.hd)) fun r w' => r = .returned (.tuple #[]) ∧ (∃ wv,Mov B T w rb X st.rule1 w' wv) ∧ Im T w' u.heap.size (boxW st.hd)) ∧ (¬ st.rules.length = 16 → (∃ wv,Mov B T w rb X st.rule1 (u.alloc (boxW st.hd)) wv) ∧ Im T (u.alloc (boxW st.hd)) u.heap.size (boxW st.hd))):=hid (fun u hu => by
  obtain ⟨wv,hM⟩:=hu
  have hM1:=hM.keep (al' u (boxW st.hd))
  have i1:Im T (u.alloc (boxW st.hd)) u.heap.size (boxW st.hd):=hM.rd.im (Nat.le_refl _) (heap_new u _)
  refine ⟨by rw [← hrv];exact blk_cell hM1.rd.blk rfl,fun e => (giveC hM1.rd st.hd.2.1 3 (by decide)).mono ?_,fun e => ⟨⟨wv,?_⟩,i1⟩⟩
  · rintro r w' ⟨e9,hM2⟩
    refine ⟨e9,⟨wv,?_⟩,i1.keep hM2.chg⟩
    have e8:st.rule1 = (st.take true).give st.hd.2.1 3:=by unfold RS.rule1 RS.full;rw [decide_eq_true e];rfl
    rw [e8]
    exact hM1.trans hM2
  · have e8:st.rule1 = st.take true:=by unfold RS.rule1 RS.full;rw [decide_eq_false e];rfl
    rw [e8]
    exact hM1)
 have G3:Hid (∀ q1 u,(∃ wv,Mov B T w rb X st.rule1 u wv) → Im T u q1 (boxW st.hd) → Calls Tryz.prog 103 #[ptr0 rb] u fun r w' => r = .returned (wdA st.rule1.hd) ∧ (∃ wv,Mov B T w rb X st.rule1.tkN w' wv) ∧ Im T w' q1 (boxW st.hd)):=hid (fun q1 u hu hi => by
  obtain ⟨wv,hM⟩:=hu
  refine (tkNC hM.rd).mono ?_
  rintro r w' ⟨e9,wv',hM2⟩
  exact ⟨e9,⟨wv',hM.trans hM2⟩,hi.keep hM2.chg⟩)
 have hbd:∀ W:World,Below W.heap.size W W.drew:=fun W => (Below.refl _ W).drew
 have G4:Hid (∀ q1 u,(∃ wv,Mov B T w rb X st.rule1.tkN u wv) → Im T u q1 (boxW st.hd) → ∀ W,u.alloc (boxW st.rule1.hd) = W →
  (W.drew.cell? ⟨q1,2,none⟩ = some (.string (strT st.hd.2.2)) ∧ W.drew.cell? ⟨u.heap.size,2,none⟩ = some (.string (strT st.rule1.hd.2.2)) ∧ (W.alloc boxU0).drew.cell? ⟨q1,2,none⟩ = some (.string (strT st.hd.2.2)) ∧ (W.alloc boxU0).drew.cell? ⟨u.heap.size,2,none⟩ = some (.string (strT st.rule1.hd.2.2))) ∧
  (Calls Tryz.prog 104 #[ptr0 rb] W.drew fun r w' => ∃ a m c,r = .returned (.slice a m c) ∧ (w'.cell? ⟨q1,2,none⟩ = some (.string (strT st.hd.2.2)) ∧ w'.cell? ⟨u.heap.size,2,none⟩ = some (.string (strT st.rule1.hd.2.2)) ∧ (w'.alloc boxU0).cell? ⟨q1,2,none⟩ = some (.string (strT st.hd.2.2)) ∧ (w'.alloc boxU0).cell? ⟨u.heap.size,2,none⟩ = some (.string (strT st.rule1.hd.2.2))) ∧
   RuF B T w rb st.hd st.rule1.hd (decide (st.hd.2.2 = kSkip)) (rxA st.rule1.tkN.hd.2.2).1 st.rule1.tkN.cells q1 u.heap.size (w'.alloc (boxU st.rule1.hd.2.2 (.slice a m c) (decide (st.hd.2.2 = kSkip)))) w'.heap.size a m c) ∧
  (Calls Tryz.prog 104 #[ptr0 rb] (W.alloc boxU0).drew fun r w' => ∃ a m c,r = .returned (.slice a m c) ∧ (w'.cell? ⟨q1,2,none⟩ = some (.string (strT st.hd.2.2)) ∧ w'.cell? ⟨u.heap.size,2,none⟩ = some (.string (strT st.rule1.hd.2.2))) ∧ w'.heap[W.heap.size]? = some boxU0 ∧
   RuF B T w rb st.hd st.rule1.hd (decide (st.hd.2.2 = kSkip)) (rxA st.rule1.tkN.hd.2.2).1 st.rule1.tkN.cells q1 u.heap.size (((w'.setCell ⟨W.heap.size,0,none⟩ (.string (strT st.rule1.hd.2.2))).setCell ⟨W.heap.size,1,none⟩ (.slice a m c)).setCell ⟨W.heap.size,2,none⟩ (.bool (decide (st.hd.2.2 = kSkip)))) W.heap.size a m c)):=hid (fun q1 u hu hi W hW => by
  obtain ⟨wv,hM⟩:=hu
  have hal:Below u.heap.size u W:=by rw [← hW];exact al' u _
  have hM1:=(hM.keep hal).keep (hbd W)
  have i1:=(hi.keep (Chg.of_below (T:=T) hal)).keep (Chg.of_below (T:=T) (hbd W))
  have i3:Im T W.drew u.heap.size (boxW st.rule1.hd):=⟨hM.rd.fresh (Nat.le_refl _),hs_keep (by rw [← hW];exact heap_new u _) (hbd W)⟩
  have hal2:Below W.drew.heap.size W.drew (W.alloc boxU0).drew:=al' W.drew boxU0
  refine ⟨⟨i1.cell rfl,i3.cell rfl,keep_cell hal2 (i1.cell rfl),keep_cell hal2 (i3.cell rfl)⟩,(rdCellsC hM1.rd).mono ?_,?_⟩
  · rintro r w' ⟨a,m,c,wv',e9,hM2,hI⟩
    have j1:=i1.keep hM2.chg
    have j3:=i3.keep hM2.chg
    have hal3:=al' w' boxU0
    have hal4:=al' w' (boxU st.rule1.hd.2.2 (.slice a m c) (decide (st.hd.2.2 = kSkip)))
    have c4:=Chg.of_below (T:=T) hal4
    exact ⟨a,m,c,e9,⟨j1.cell rfl,j3.cell rfl,keep_cell hal3 (j1.cell rfl),keep_cell hal3 (j3.cell rfl)⟩,T,_,hM2.rd.keep hal4,(hM1.trans hM2).chg.trans c4,j1.keep c4,j3.keep c4,⟨hM2.rd.fresh (Nat.le_refl _),heap_new w' _⟩,fun e => (hI e).keep c4⟩
  · obtain ⟨h5,c5⟩:=hM1.rd.aside (q:=W.drew.heap.size) (al' W.drew boxU0) (Nat.le_refl _) (by rw [World.size_alloc];omega)
    refine (rdCellsC h5).mono ?_
    rintro r w' ⟨a,m,c,wv',e9,hM2,hI⟩
    have k1:=(i1.keep c5).keep hM2.chg
    have k3:=(i3.keep c5).keep hM2.chg
    have hrb:=blk_lt hM1.rd.blk
    have hne:¬ oneBlk rb W.drew.heap.size:=fun e => absurd hrb (by rw [← show W.drew.heap.size = rb from e];exact Nat.lt_irrefl _)
    have hb0:w'.heap[W.heap.size]? = some boxU0:=hM2.kept.blk (heap_new W.drew boxU0) hne
    obtain ⟨p1,p2⟩:=put3U hb0 (.string (strT st.rule1.hd.2.2)) (.slice a m c) (.bool (decide (st.hd.2.2 = kSkip)))
    obtain ⟨r1,r2,r3,r4,r5⟩:=hM1.rd.boxG hM2 p1 p2
    exact ⟨a,m,c,e9,⟨k1.cell rfl,k3.cell rfl⟩,hb0,T,_,r1,hM1.chg.trans r2,r4 _ _ i1,r4 _ _ i3,r3,fun e => r5 _ _ (hI e)⟩)
 have hfin:st.rule = (((st.rule1.tkN.cells.tkS [59]).addR ⟨st.rule1.hd.2.2,(rxA st.rule1.tkN.hd.2.2).1,decide (st.hd.2.2 = kSkip)⟩).addW st.rule1.hd (decide (st.hd.2.2 = kSkip))).once st.rule1.hd:=rfl
 rw [hfin]
 have hsm:SameL st st.rule1.tkN.cells:=((SameL.rule1 _).trans (SameL.tkN _)).trans (SameL.cells _)
 have hskp:((strT st.hd.2.2).toList == ([115,107,105,112]:Txt)) = decide (st.hd.2.2 = kSkip):=by
  by_cases e:st.hd.2.2 = kSkip
  · rw [decide_eq_true e];exact strT_is e
  · rw [decide_eq_false e];exact strT_isnt e
 have b1':st.rule1.tkN.cells.rules.length ≤ 99000:=by rw [hsm.rules];exact b1
 have b2':st.rule1.tkN.cells.skips.length ≤ 99000:=by rw [hsm.skips];exact b2
 have b3':st.rule1.tkN.cells.terms.length ≤ 99000:=by rw [hsm.terms];exact b3
 have b4':st.rule1.tkN.cells.later.length ≤ 99000:=by rw [hsm.later];exact b4
 clear hsm hfin h hrv b2 b3 b4 hm
 generalize (rxA st.rule1.tkN.hd.2.2).1 = cl at *
 generalize st.rule1.tkN.cells = s3 at *
 generalize st.rule1.tkN = s2 at *
 generalize hH2:st.rule1.hd = H2 at *
 generalize st.rule1 = s1 at *
 generalize st.take true = sA at *
 generalize st.rules.length = nr at *
 generalize hH1:st.hd = H1 at *
 obtain ⟨k1,p1,t1⟩:=H1
 obtain ⟨k2,p2,t2⟩:=H2
 try dsimp only at *
 clear hH1 hH2
 generalize decide (t1 = kSkip) = sk at *
 have H3:Hid (∀ q1 u,(∃ wv,Mov B T w rb X s1 u wv) → Im T u q1 (boxW (k1,p1,t1)) → Calls Tryz.prog 103 #[ptr0 rb] u fun r w' => r = .returned (wdA (k2,p2,t2)) ∧ (∃ wv,Mov B T w rb X s2 w' wv) ∧ Im T w' q1 (boxW (k1,p1,t1))):=G3
 clear G3
 have hz16:((nr:Int) == 16) = false:=by rw [beq_eq_false_iff_ne];omega
 go_enter Tryz.func82,Tryz.ntmps82
 go_wp2_with (first
  | (go_at_call 102;refine G1.out.mono ?_;clear G1;rintro e u1 ⟨rfl,hu⟩;obtain ⟨z1,g16,gno⟩:=G2.out u1 hu;clear G2 hu;have gno:=hid gno;have g16:=hid g16;obtain ⟨v0,v1,v2,-,-⟩:=rd3 (heap_new u1 (boxW (k1,p1,t1)));obtain ⟨W1,hW1⟩:∃ y,u1.alloc (boxW (k1,p1,t1)) = y:=⟨_,rfl⟩;rw [hW1] at z1 g16 gno v0 v1 v2)
  | (go_at_call 63;refine (g16.out h16).mono ?_;clear g16 gno;rintro e u2 ⟨rfl,hm2,hi2⟩;have hm2:=hid hm2;have hi2:=hid hi2)
  | (go_at_call 103;refine (H3.out _ _ hm2.out hi2.out).mono ?_;clear hm2 hi2;rintro e u3 ⟨rfl,hm3,hi3⟩;obtain ⟨W3,hW3⟩:∃ y,u3.alloc (boxW (k2,p2,t2)) = y:=⟨_,rfl⟩;obtain ⟨⟨y1,y2,y3,y4⟩,GC,GC'⟩:=G4.out _ u3 hm3 hi3 W3 hW3;have GC:=hid GC;have GC':=hid GC';clear hm3 hi3)
  | (go_at_call 103;refine (H3.out _ _ (gno.out h16).1 (gno.out h16).2).mono ?_;rintro e u3 ⟨rfl,hm3,hi3⟩;obtain ⟨W3,hW3⟩:∃ y,u3.alloc (boxW (k2,p2,t2)) = y:=⟨_,rfl⟩;obtain ⟨⟨y1,y2,y3,y4⟩,GC,GC'⟩:=G4.out _ u3 hm3 hi3 W3 hW3;have GC:=hid GC;have GC':=hid GC';clear hm3 hi3))
 clear hW3 G4 H3 hz16
 try clear hW1
 try clear z1 v0 v1 v2
 try clear gno g16
 generalize u1.heap.size = q1 at *
 generalize u3.heap.size = q3 at *
 apply collapse5 (F:=fun V q a m c => RuF B T w rb (k1,p1,t1) (k2,p2,t2) sk cl s3 q1 q3 V q a m c)
 case h =>
  intro rest
  go_region_with (first
   | (go_at_call 104;refine GC.out.mono ?_;rintro e u4 ⟨a,m,c,rfl,⟨x1,x2,x3,x4⟩,hf⟩;have hf9:=hid hf;clear hf)
   | (go_at_call 104;refine GC'.out.mono ?_;rintro e u4 ⟨a,m,c,rfl,⟨x1,x2⟩,hb9,hf⟩;have hf9:=hid hf;clear hf;obtain ⟨⟨m0,m1⟩,⟨m2,m3⟩,⟨m4,m5⟩,m6,m7,m8⟩:=putT3 hb9 (.string (strT t2)) (.slice a m c) (.bool sk);clear hb9 m6 m7 m8))
  all_goals
   have hf:=hf9.out
   clear hf9
   first
    | (generalize ((u4.setCell ⟨W3.heap.size,0,none⟩ (.string (strT t2))).setCell ⟨W3.heap.size,1,none⟩ (.slice a m c)).setCell ⟨W3.heap.size,2,none⟩ (.bool sk) = V at hf ⊢;generalize W3.heap.size = q at hf ⊢;exact rest V q a m c hf)
    | (generalize u4.alloc (boxU t2 (.slice a m c) sk) = V at hf ⊢;generalize u4.heap.size = q at hf ⊢;exact rest V q a m c hf)
 case pf =>
  rintro V q a m c hF
  have G5:=hid (ruleApp hF b1')
  have hS:SameL s3 (s3.tkS [59]):=SameL.tkS _ _
  have e2:((s3.tkS [59]).addR ⟨t2,cl,sk⟩).skips.length ≤ 99000:=by show (s3.tkS [59]).skips.length ≤ _;rw [hS.skips];exact b2'
  have e3:((s3.tkS [59]).addR ⟨t2,cl,sk⟩).terms.length ≤ 99000:=by show (s3.tkS [59]).terms.length ≤ _;rw [hS.terms];exact b3'
  have e4:((s3.tkS [59]).addR ⟨t2,cl,sk⟩).later.length ≤ 99000:=by show (s3.tkS [59]).later.length ≤ _;rw [hS.later];exact b4'
  have G6:=hid (fun V6 (h6:RuP B T w rb (k2,p2,t2) (boxU t2 (.slice a m c) sk) ((s3.tkS [59]).addR ⟨t2,cl,sk⟩) q3 q V6) => ruleAdd h6 e2 e3 e4)
  clear hF GC GC' y1 y2 y3 y4 hS e2 e3 e4 b1' b2' b3' b4'
  generalize s3.rules.length = n5 at *
  go_wp2_with (go_at_call 105;refine G5.out.mono ?_;clear G5;rintro e u5 ⟨rfl,rv,A,C,w6,⟨d0,d1,d2,d3⟩,⟨f0,f1,f2,f3⟩,hrun,g0,g1,hP⟩;have hP:=hid hP)
  apply collapse
  case h =>
   intro rest
   go_region_law ((first
    | (refine step_run (by rfl) (.tmp 35) (.tmp 37) 22 (by rfl) _ _ (by rfl) (by rfl) hrun ?_)
    | fail))
   all_goals exact rest.out
  case pf =>
   obtain ⟨⟨z0,z1,z2,z3⟩,G7⟩:=G6.out _ hP.out
   have G7:=hid G7
   clear G6 hP d0 d1 d2 d3 f0 f1 f2 f3 g0 g1 hrun
   generalize w6.setCell ⟨rb,1,none⟩ (.slice A (n5 + 1) C) = V6 at *
   go_wp2_with fail
   go_region_with (go_at_call 106;refine G7.out.mono ?_;rintro e u7 ⟨rfl,⟨o0,o1,o2⟩,G8⟩;have G8:=hid G8)
   all_goals
    go_wp2_with (go_at_call 107;refine G8.out.mono ?_;clear G8;rintro e u8 ⟨rfl,hQ⟩;have hQ:=hid hQ)
    go_end0
    exact ⟨rfl,hQ.out⟩
end Go.Proofs.YtfhokapfkclckaaGreat
