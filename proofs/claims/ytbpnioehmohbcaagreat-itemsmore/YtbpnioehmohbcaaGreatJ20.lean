/- How much the reader may still put down: a number that never grows. The reader: nonterminal. Items, one behind the other: each takes a word at least, or gives up. What the reader keeps: its words are those of the text; a symbol's production is there. -/
import Derived.Test.YtbpnioehmohbcaaGreatJ19
namespace Go.Proofs.YtbpnioehmohbcaaGreat
def RS.lens (st:RS):Nat:=st.rules.length + st.nonts.length + st.prods.length + st.skips.length + st.terms.length + st.nons.length + st.later.length + st.levels + st.starts
def RS.pot (st:RS):Nat:=st.lens + 4 * st.ws.length
theorem SameL.lens {a b:RS} (h:SameL a b):b.lens = a.lens:=by unfold RS.lens;rw [h.rules,h.nonts,h.prods,h.skips,h.terms,h.nons,h.later,h.levels,h.starts]
theorem SameL.pot {a b:RS} (h:SameL a b):b.pot ≤ a.pot:=by unfold RS.pot;rw [h.lens];have:=h.ws;omega
theorem RS.hd_ne {st:RS} (h:st.hd.1 ≠ 0):0 < st.ws.length:=by
 unfold RS.hd at h
 cases hw:st.ws with
 | nil => rw [hw] at h;exact absurd rfl h
 | cons x l => rw [List.length_cons];omega
theorem RS.take_pot {st:RS} (h:st.hd.1 ≠ 0):(st.take true).pot + 4 = st.pot ∧ (st.take true).ws.length + 1 = st.ws.length:=by
 have h0:=RS.hd_ne h
 have e:(st.take true).ws.length + 1 = st.ws.length:=by show st.ws.tail.length + 1 = _;rw [List.length_tail];omega
 refine ⟨?_,e⟩
 unfold RS.pot
 rw [(SameL.take st true).lens]
 omega
theorem RS.tkS_pot {st:RS} {t:Txt} (h:st.atS t = true):(st.tkS t).pot + 4 = st.pot:=by
 unfold RS.tkS
 rw [h]
 exact (RS.take_pot (RS.atS_hd h)).1
theorem RS.tkN_pot {st:RS} (h:st.atN = true):st.tkN.pot + 4 = st.pot:=by
 unfold RS.tkN
 rw [h]
 exact (RS.take_pot (RS.atN_hd h)).1
theorem RS.thn_pot (st:RS) (s:Stp):(st.thn s).pot = st.pot + 1:=by
 unfold RS.thn RS.pot RS.lens
 simp only [List.length_append,List.length_singleton]
 omega
theorem RS.symb_pot (st:RS) (pr:Nat):(st.symb pr).pot ≤ st.pot + 1:=by
 unfold RS.symb
 rw [RS.thn_pot]
 have:=(SameL.tkN st).pot
 omega
theorem RS.prec_pot (st:RS) (pr:Nat):(st.prec pr).pot ≤ st.pot + 1:=by
 unfold RS.prec
 rw [RS.thn_pot]
 have:=(SameL.tkN st).pot
 omega
theorem RS.lvd_pot (st:RS) (p s:Nat):(st.lvd p s).pot ≤ st.pot + 1:=by
 unfold RS.lvd
 rw [RS.thn_pot]
 have:=(SameL.tkN st).pot
 omega
theorem RS.lvds_pot (p s:Nat):∀ (n:Nat) (st:RS),(RS.lvds p s n st).pot ≤ st.pot
 | 0,st => Nat.le_refl _
 | n + 1,st => by
  rw [RS.lvds]
  split
  · rename_i h
    refine Nat.le_trans (RS.lvds_pot p s n _) ?_
    unfold RS.lvd
    rw [RS.thn_pot]
    have:=RS.tkN_pot h
    omega
  · exact Nat.le_refl _
theorem RS.syms_pot (pr:Nat):∀ (f n:Nat) (st:RS),(RS.syms pr f n st).pot ≤ st.pot
 | 0,_,st => Nat.le_refl _
 | f + 1,n,st => by
  rw [RS.syms]
  split
  · rename_i h
    refine Nat.le_trans (RS.syms_pot pr f (n + 1) _) ?_
    unfold RS.symb
    rw [RS.thn_pot]
    have h1:=RS.tkN_pot (st:=st.full (decide (n = 8)) st.hd.2.1) (by rw [RS.atN_of (RS.full_ws _ _ _)];exact h)
    have h2:=(SameL.full st (decide (n = 8)) st.hd.2.1).pot
    omega
  · exact Nat.le_refl _
theorem RS.pct_pot (st:RS) (pr:Nat):(st.pct pr).pot ≤ st.pot:=by
 unfold RS.pct
 split
 · rename_i h
   have h1:=RS.tkS_pot h
   have h2:=RS.prec_pot (st.tkS [37]) pr
   omega
 · exact Nat.le_refl _
theorem RS.addP_pot (st:RS):st.addP.pot = st.pot + 1:=by
 unfold RS.addP RS.pot RS.lens
 simp only [List.length_append,List.length_singleton]
 omega
theorem RS.alt_pot (st:RS):st.alt.pot ≤ st.pot + 1:=by
 unfold RS.alt
 refine Nat.le_trans (RS.pct_pot _ _) (Nat.le_trans (RS.syms_pot _ _ _ _) ?_)
 unfold RS.alt1
 rw [RS.addP_pot]
 have:=(SameL.full st (decide (st.prods.length = 40) && st.inA) st.hd.2.1).pot
 omega
theorem RS.alts_pot:∀ (f:Nat) (st:RS),(RS.alts f st).pot ≤ st.pot
 | 0,st => Nat.le_refl _
 | f + 1,st => by
  rw [RS.alts]
  split
  · rename_i h
    refine Nat.le_trans (RS.alts_pot f _) ?_
    have h1:=RS.tkS_pot h
    have h2:=RS.alt_pot (st.tkS [124])
    omega
  · exact Nat.le_refl _
theorem RS.addN_pot (st:RS) (t:Txt):(st.addN t).pot = st.pot + 1:=by
 unfold RS.addN RS.pot RS.lens
 simp only [List.length_append,List.length_singleton]
 omega
theorem RS.addO_pot (st:RS) (x:Wd):(st.addO x).pot = st.pot + 1:=by
 unfold RS.addO RS.pot RS.lens
 simp only [List.length_append,List.length_singleton]
 omega
theorem RS.addR_pot (st:RS) (r:Rl):(st.addR r).pot = st.pot + 1:=by
 unfold RS.addR RS.pot RS.lens
 simp only [List.length_append,List.length_singleton]
 omega
theorem RS.addW_pot (st:RS) (x:Wd) (sk:Bool):(st.addW x sk).pot = st.pot + 1:=by
 unfold RS.addW
 split
 all_goals
  unfold RS.pot RS.lens
  simp only [List.length_append,List.length_singleton]
  omega
def RS.nont0 (st:RS):RS:=((((st.tkN.full (decide (st.nonts.length = 16)) st.hd.2.1).tkS [58]).addN st.hd.2.2).addO st.hd).once st.hd
theorem RS.nont0_pot (st:RS):st.nont0.pot ≤ st.tkN.pot + 3:=by
 unfold RS.nont0 RS.once
 rw [RS.thn_pot,RS.addO_pot,RS.addN_pot]
 have h1:=(SameL.full st.tkN (decide (st.nonts.length = 16)) st.hd.2.1).pot
 have h2:=(SameL.tkS (st.tkN.full (decide (st.nonts.length = 16)) st.hd.2.1) [58]).pot
 omega
theorem RS.nont_pot {st:RS} (h:st.atN = true):st.nont.pot ≤ st.pot:=by
 unfold RS.nont
 have h1:=(SameL.tkS (RS.alts st.nont1.ws.length st.nont1) [59]).pot
 have h2:=RS.alts_pot st.nont1.ws.length st.nont1
 have h3:st.nont1.pot ≤ st.nont0.pot + 1:=RS.alt_pot st.nont0
 have h4:=RS.nont0_pot st
 have h5:=RS.tkN_pot h
 omega
theorem RS.rule_pot {st:RS} (h:st.hd.1 ≠ 0):st.rule.pot ≤ st.pot:=by
 unfold RS.rule RS.rule2 RS.once
 rw [RS.thn_pot,RS.addW_pot,RS.addR_pot]
 have h1:=(RS.take_pot h).1
 have h2:st.rule1.pot ≤ (st.take true).pot:=(SameL.full _ _ _).pot
 have h3:=(SameL.tkN st.rule1).pot
 have h4:=(SameL.cells st.rule1.tkN).pot
 have h5:=(SameL.tkS st.rule1.tkN.cells [59]).pot
 omega
theorem RS.level_pot {st:RS} (h:st.hd.1 ≠ 0):st.level.pot ≤ st.pot:=by
 unfold RS.level
 have h0:st.lv1.pot = st.pot + 1:=by unfold RS.lv1 RS.pot RS.lens;dsimp only;omega
 have h1:=(RS.take_pot (st:=st.lv1) h).1
 have h2:=RS.lvd_pot (st.lv1.take true) (st.levels + 1) (sdN st.hd.2.2)
 have h3:=RS.lvds_pot (st.levels + 1) (sdN st.hd.2.2) ((st.lv1.take true).lvd (st.levels + 1) (sdN st.hd.2.2)).ws.length ((st.lv1.take true).lvd (st.levels + 1) (sdN st.hd.2.2))
 have h4:=(SameL.tkS (RS.lvds (st.levels + 1) (sdN st.hd.2.2) ((st.lv1.take true).lvd (st.levels + 1) (sdN st.hd.2.2)).ws.length ((st.lv1.take true).lvd (st.levels + 1) (sdN st.hd.2.2))) [59]).pot
 dsimp only
 omega
theorem RS.start_pot {st:RS} (h:st.hd.1 ≠ 0):st.start.pot ≤ st.pot:=by
 unfold RS.start
 dsimp only
 rw [RS.thn_pot]
 have h0:st.st1.pot = st.pot + 1:=by unfold RS.st1 RS.pot RS.lens;dsimp only;omega
 have h1:=(RS.take_pot (st:=st.st1) h).1
 have h2:=RS.thn_pot (st.st1.take true) ⟨3,st.hd,if 1 < st.starts + 1 then 1 else 0,0⟩
 have h3:=(SameL.tkN ((st.st1.take true).thn ⟨3,st.hd,if 1 < st.starts + 1 then 1 else 0,0⟩)).pot
 have h4:=(SameL.tkS ((st.st1.take true).thn ⟨3,st.hd,if 1 < st.starts + 1 then 1 else 0,0⟩).tkN [59]).pot
 omega
theorem sdN_kw {t:Txt} (h1:¬ (t = kTok ∨ t = kSkip)) (h2:¬ t = kStart) (h3:¬ 0 < sdN t):kwB t = false:=by
 unfold kwB
 rw [decide_eq_false (fun e => h1 (.inl e)),decide_eq_false (fun e => h1 (.inr e)),decide_eq_false h2,decide_eq_false h3]
 rfl
theorem RS.item_pot (st:RS):st.item.pot ≤ st.pot:=by
 unfold RS.item
 split
 · exact (SameL.give st _ (by decide)).pot
 · rename_i h1
   have h1:st.hd.1 = 1:=by omega
   have h0:st.hd.1 ≠ 0:=by omega
   split
   · exact RS.rule_pot h0
   · rename_i h2
     split
     · exact RS.start_pot h0
     · rename_i h3
       split
       · exact RS.level_pot h0
       · rename_i h4
         refine RS.nont_pot ?_
         unfold RS.atN
         rw [h1,sdN_kw h2 h3 h4]
         rfl
end Go.Proofs.YtbpnioehmohbcaaGreat
namespace Go.Proofs.YtbpnioehmohbcaaGreat
open Go.RowKit Go.Maps Go.Sort
theorem RS.pot_le {st:RS} {K:Nat} (h:st.pot ≤ K):st.rules.length ≤ K ∧ st.nonts.length ≤ K ∧ st.prods.length ≤ K ∧ st.skips.length ≤ K ∧ st.terms.length ≤ K ∧ st.nons.length ≤ K ∧ st.later.length + st.ws.length ≤ K ∧ st.levels ≤ K ∧ st.starts ≤ K:=by
 unfold RS.pot RS.lens at h
 omega
def NtP (B:Nat) (T:Nat → Nat) (w:World) (rb:Nat) (x:Wd) (s:RS) (q:Nat) (V:World):Prop:=∃ T1 X1,RdV B T1 V rb X1 s ∧ Chg T T1 w V ∧ Im T1 V q (boxW x)
set_option maxRecDepth 20000 in
theorem nontA {B rb q:Nat} {T:Nat → Nat} {w V:World} {x:Wd} {s1:RS} (h:NtP B T w rb x s1 q V) (hn:s1.nonts.length ≤ 99000) :
 Calls Tryz.prog 86 #[ptr0 rb,.string ⟨#[58]⟩] V fun r u => r = .returned (.tuple #[]) ∧ ∃ rv A C w6,(u.drew.cell? ⟨rb,2,none⟩ = some rv ∧ u.drew.cell? ⟨q,2,none⟩ = some (.string (strT x.2.2))) ∧
  ((u.alloc (.cells #[.string (strT x.2.2)] 9)).drew.cell? ⟨rb,2,none⟩ = some rv ∧ (u.alloc (.cells #[.string (strT x.2.2)] 9)).drew.cell? ⟨q,2,none⟩ = some (.string (strT x.2.2))) ∧
  (Builtin.append_ #[23,23] 23 #[rv,.slice (some ⟨u.heap.size,0,none⟩) 1 1]).run Tryz.prog (u.alloc (.cells #[.string (strT x.2.2)] 9)).drew = .ok (.slice A (s1.nonts.length + 1) C) w6 ∧ w6.cell? ⟨rb,2,none⟩ = some rv ∧ w6.frozen? ⟨rb,2,none⟩ = false ∧
  NtP B T w rb x ((s1.tkS [58]).addN x.2.2) q (w6.setCell ⟨rb,2,none⟩ (.slice A (s1.nonts.length + 1) C)):=by
 obtain ⟨T1,X1,hr,hc,iq⟩:=h
 refine (tkSC hr [58]).mono ?_
 rintro r u ⟨e,wv,hM⟩
 have hbd:Below u.heap.size u u.drew:=(Below.refl _ u).drew
 have hrd:=hM.rd.keep hbd
 have c1:=hM.chg.trans (Chg.of_below (T:=T1) hbd)
 have hnn:(s1.tkS [58]).nonts.length = s1.nonts.length:=by rw [(SameL.tkS s1 [58]).nonts]
 obtain ⟨A,C,w6,hrun,hbk,T',X',hR,hC⟩:=hrd.app_nonts x.2.2 (by rw [hnn];omega)
 rw [hnn] at hrun hR hC
 have jq:=iq.keep c1
 have hbl:=hrd.blk
 have hb6:=hbk.trans hbl
 have hba:Below u.drew.heap.size u.drew (u.alloc (.cells #[.string (strT x.2.2)] 9)).drew:=al' u.drew _
 have d1:u.drew.cell? ⟨rb,2,none⟩ = some X1.nv:=blk_cell hbl rfl
 exact ⟨e,X1.nv,A,C,w6,⟨d1,jq.cell rfl⟩,⟨keep_cell hba d1,keep_cell hba (jq.cell rfl)⟩,hrun,blk_cell hb6 rfl,blk_frozen hb6 2,T',X',hR,(hc.trans c1).trans hC,jq.keep hC⟩
set_option maxRecDepth 20000 in
theorem nontB {B rb q:Nat} {T:Nat → Nat} {w V:World} {x:Wd} {s3:RS} (h:NtP B T w rb x s3 q V) (hn:s3.pot ≤ 90000) :
 (V.drew.cell? ⟨q,0,none⟩ = some (.int .i64 (x.1:Int)) ∧ V.drew.cell? ⟨q,1,none⟩ = some (.int .i64 (x.2.1:Int)) ∧ V.drew.cell? ⟨q,2,none⟩ = some (.string (strT x.2.2))) ∧
 Calls Tryz.prog 96 #[.pointer (some ⟨rb,8,none⟩),wdA x] V.drew fun r u => r = .returned (.tuple #[]) ∧ (u.cell? ⟨q,0,none⟩ = some (.int .i64 (x.1:Int)) ∧ u.cell? ⟨q,1,none⟩ = some (.int .i64 (x.2.1:Int)) ∧ u.cell? ⟨q,2,none⟩ = some (.string (strT x.2.2))) ∧
  Calls Tryz.prog 88 #[ptr0 rb,wdA x] u fun r u2 => r = .returned (.tuple #[]) ∧ Calls Tryz.prog 97 #[ptr0 rb] u2 fun r w' => r = .returned (.tuple #[]) ∧ RdP B T w rb ((s3.addO x).once x).alt w':=by
 obtain ⟨T1,X1,hr,hc,iq⟩:=h
 have hbd:Below V.heap.size V V.drew:=(Below.refl _ V).drew
 have cd:=Chg.of_below (T:=T1) hbd
 have jq:=iq.keep cd
 obtain ⟨-,-,-,-,-,p6,p7,-,-⟩:=RS.pot_le hn
 refine ⟨⟨jq.cell rfl,jq.cell rfl,jq.cell rfl⟩,(addNC (hr.keep hbd) x (by omega)).mono ?_⟩
 rintro r u ⟨e,T',X',hr',hc'⟩
 have lq:=jq.keep hc'
 refine ⟨e,⟨lq.cell rfl,lq.cell rfl,lq.cell rfl⟩,(onceC hr' x (by show s3.later.length ≤ _;omega)).mono ?_⟩
 rintro r u2 ⟨e',T'',X'',hr'',hc''⟩
 have hp:((s3.addO x).once x).pot ≤ 90002:=by
  unfold RS.once
  rw [RS.thn_pot,RS.addO_pot];omega
 obtain ⟨-,-,q3,-,-,-,q7,-,-⟩:=RS.pot_le hp
 refine ⟨e',(altC hr'' (by omega) (by omega)).mono ?_⟩
 rintro r w' ⟨e3,T3,X3,hr3,hc3⟩
 exact ⟨e3,T3,X3,hr3,(((hc.trans cd).trans hc').trans hc'').trans hc3⟩
theorem alts_yes {st:RS} (h:st.atS [124] = true) (hn:st.ws ≠ []):RS.alts st.ws.length st = RS.alts (st.ws.length - 1) (st.tkS [124]).alt:=by
 cases hw:st.ws with
 | nil => exact absurd hw hn
 | cons x l => rw [List.length_cons,RS.alts,h,if_pos rfl];rfl
theorem alts_no {st:RS} (f:Nat) (h:st.atS [124] = false):RS.alts f st = st:=by
 cases f with
 | zero => rfl
 | succ m => rw [RS.alts,h];rfl
theorem syms_ws (pr:Nat):∀ (f n:Nat) (st:RS),(RS.syms pr f n st).ws.length ≤ st.ws.length
 | 0,_,st => Nat.le_refl _
 | f + 1,n,st => by
  rw [RS.syms]
  split
  · rename_i h
    refine Nat.le_trans (syms_ws pr f (n + 1) _) ?_
    rw [symb_ws h,List.length_tail]
    omega
  · exact Nat.le_refl _
theorem alt_ws (st:RS):st.alt.ws.length ≤ st.ws.length:=by
 unfold RS.alt RS.pct
 have h1:=syms_ws st.prods.length st.alt1.ws.length 0 st.alt1
 have h2:st.alt1.ws = st.ws:=RS.full_ws _ _ _
 generalize RS.syms st.prods.length st.alt1.ws.length 0 st.alt1 = s at *
 rw [h2] at h1
 split
 · show ((s.tkS [37]).tkN).ws.length ≤ _
   have h3:=(SameL.tkS s [37]).ws
   have h4:=(SameL.tkN (s.tkS [37])).ws
   omega
 · exact h1
theorem alts_more:∀ (f:Nat) (st:RS),st.ws.length ≤ f → RS.alts f st = RS.alts st.ws.length st
 | 0,st,h => by rw [Nat.le_zero.1 h]
 | f + 1,st,h => by
  cases hs:st.atS [124] with
  | false => rw [alts_no _ hs,alts_no _ hs]
  | true =>
   have h0:=RS.hd_ne (RS.atS_hd hs)
   rw [alts_yes hs (fun e => by rw [e] at h0;exact absurd h0 (Nat.lt_irrefl _)),RS.alts,hs,if_pos rfl]
   have h1:(st.tkS [124]).alt.ws.length ≤ st.ws.length - 1:=by
    have:=alt_ws (st.tkS [124])
    rw [RS.tkS_ws hs,List.length_tail] at this
    exact this
   rw [alts_more f _ (by omega)]
   rcases Nat.lt_or_ge (st.ws.length - 1) f with h9 | h9
   · rw [alts_more (st.ws.length - 1) _ h1]
   · rw [show st.ws.length - 1 = f by omega,alts_more f _ (by omega)]
termination_by f => f
end Go.Proofs.YtbpnioehmohbcaaGreat
namespace Go.Proofs.YtbpnioehmohbcaaGreat
theorem lvds_ws (p s:Nat):∀ (f:Nat) (st:RS),(RS.lvds p s f st).ws.length ≤ st.ws.length
 | 0,st => Nat.le_refl _
 | f + 1,st => by
  rw [RS.lvds]
  split
  · exact Nat.le_trans (lvds_ws p s f _) (SameL.tkN st).ws
  · exact Nat.le_refl _
theorem alts_ws:∀ (f:Nat) (st:RS),(RS.alts f st).ws.length ≤ st.ws.length
 | 0,st => Nat.le_refl _
 | f + 1,st => by
  rw [RS.alts]
  split
  · exact Nat.le_trans (alts_ws f _) (Nat.le_trans (alt_ws _) (SameL.tkS st [124]).ws)
  · exact Nat.le_refl _
theorem item_ws {st:RS} (h1:st.hd.1 = 1):st.item.ws.length < st.ws.length:=by
 have h0:st.hd.1 ≠ 0:=by omega
 have ht:=(RS.take_pot h0).2
 unfold RS.item
 rw [if_neg (by omega)]
 split
 · have e:st.rule.ws = (st.rule1.tkN.cells.tkS [59]).ws:=by unfold RS.rule RS.rule2 RS.once RS.thn RS.addW RS.addR;split <;> rfl
   rw [e]
   have a1:=(SameL.tkS st.rule1.tkN.cells [59]).ws
   have a2:=(SameL.cells st.rule1.tkN).ws
   have a3:=(SameL.tkN st.rule1).ws
   have a4:st.rule1.ws.length ≤ (st.take true).ws.length:=(SameL.full _ _ _).ws
   omega
 · rename_i h2
   split
   · have e:st.start.ws = (((st.st1.take true).thn ⟨3,st.hd,if 1 < st.starts + 1 then 1 else 0,0⟩).tkN.tkS [59]).ws:=rfl
     rw [e]
     have a1:=(SameL.tkS ((st.st1.take true).thn ⟨3,st.hd,if 1 < st.starts + 1 then 1 else 0,0⟩).tkN [59]).ws
     have a2:=(SameL.tkN ((st.st1.take true).thn ⟨3,st.hd,if 1 < st.starts + 1 then 1 else 0,0⟩)).ws
     have a3:((st.st1.take true).thn ⟨3,st.hd,if 1 < st.starts + 1 then 1 else 0,0⟩).ws.length = (st.take true).ws.length:=rfl
     omega
   · rename_i h3
     split
     · unfold RS.level
       dsimp only
       have a1:=(SameL.tkS (RS.lvds (st.levels + 1) (sdN st.hd.2.2) ((st.lv1.take true).lvd (st.levels + 1) (sdN st.hd.2.2)).ws.length ((st.lv1.take true).lvd (st.levels + 1) (sdN st.hd.2.2))) [59]).ws
       have a2:=lvds_ws (st.levels + 1) (sdN st.hd.2.2) ((st.lv1.take true).lvd (st.levels + 1) (sdN st.hd.2.2)).ws.length ((st.lv1.take true).lvd (st.levels + 1) (sdN st.hd.2.2))
       have a3:((st.lv1.take true).lvd (st.levels + 1) (sdN st.hd.2.2)).ws.length ≤ (st.lv1.take true).ws.length:=(SameL.tkN _).ws
       have a4:(st.lv1.take true).ws.length = (st.take true).ws.length:=rfl
       omega
     · rename_i h4
       have hat:st.atN = true:=by unfold RS.atN;rw [h1,sdN_kw h2 h3 h4];rfl
       unfold RS.nont
       have a1:=(SameL.tkS (RS.alts st.nont1.ws.length st.nont1) [59]).ws
       have a2:=alts_ws st.nont1.ws.length st.nont1
       have a3:st.nont1.ws.length ≤ st.nont0.ws.length:=alt_ws st.nont0
       have a4:st.nont0.ws.length = ((st.tkN.full (decide (st.nonts.length = 16)) st.hd.2.1).tkS [58]).ws.length:=rfl
       have a5:=(SameL.tkS (st.tkN.full (decide (st.nonts.length = 16)) st.hd.2.1) [58]).ws
       have a6:=(SameL.full st.tkN (decide (st.nonts.length = 16)) st.hd.2.1).ws
       have a7:st.tkN.ws.length + 1 = st.ws.length:=by rw [RS.tkN_ws hat,List.length_tail];have:=RS.hd_ne h0;omega
       omega
theorem items_stop (f:Nat) {st:RS} (h:¬ (st.err = 0 ∧ st.hd.1 ≠ 0)):RS.items f st = st:=by
 cases f with
 | zero => rfl
 | succ f => rw [RS.items,if_neg h]
theorem item_next {st:RS} (_h:st.err = 0):st.item.err ≠ 0 ∨ st.item.ws.length < st.ws.length:=by
 by_cases h1:st.hd.1 = 1
 · exact .inr (item_ws h1)
 · left
   have e:st.item = st.give st.hd.2.1 1:=if_pos h1
   rw [e]
   exact RS.give_err _ _ _ (by decide)
theorem itms_more:∀ (n f:Nat) (st:RS),st.ws.length ≤ n → n ≤ f → RS.items f st = RS.items n st
 | 0,f,st,h,_ => by
  have:¬ (st.err = 0 ∧ st.hd.1 ≠ 0):=fun e => by have:=RS.hd_ne e.2;omega
  rw [items_stop f this,items_stop 0 this]
 | n + 1,0,st,h,hf => by omega
 | n + 1,f + 1,st,h,hf => by
  by_cases hc:st.err = 0 ∧ st.hd.1 ≠ 0
  · rw [RS.items,RS.items,if_pos hc,if_pos hc]
    rcases item_next hc.1 with h1 | h1
    · rw [items_stop f (fun e => h1 e.1),items_stop n (fun e => h1 e.1)]
    · exact itms_more n f _ (by omega) (by omega)
  · rw [items_stop _ hc,items_stop _ hc]
theorem items_step {st:RS} (h:st.err = 0) (hk:st.hd.1 ≠ 0):RS.items st.ws.length st = RS.items st.item.ws.length st.item:=by
 have h0:=RS.hd_ne hk
 obtain ⟨f,hf⟩:∃ f,st.ws.length = f + 1:=⟨st.ws.length - 1,by omega⟩
 rw [hf,RS.items,if_pos ⟨h,hk⟩]
 rcases item_next h with h1 | h1
 · rw [items_stop f (fun e => h1 e.1),items_stop _ (fun e => h1 e.1)]
 · exact itms_more _ f _ (Nat.le_refl _) (by omega)
end Go.Proofs.YtbpnioehmohbcaaGreat
namespace Go.Proofs.YtbpnioehmohbcaaGreat
structure Inv (P:Wd → Prop) (st:RS):Prop where
 ws:∀ x ∈ st.ws,P x
 sk:∀ x ∈ st.skips,P x
 te:∀ x ∈ st.terms,P x
 no:∀ x ∈ st.nons,P x
 la:∀ s ∈ st.later,P s.w ∧ (s.k = 5 ∨ s.k = 6 → s.a < st.prods.length)
 pr:∀ l ∈ st.prods,l ≤ st.nonts.length
theorem Inv.hd {P:Wd → Prop} {st:RS} (h:Inv P st) (h0:P (0,0,[])):P st.hd:=by
 unfold RS.hd
 cases hw:st.ws with
 | nil => exact h0
 | cons x l => exact h.ws x (by rw [hw];exact List.mem_cons_self)
theorem Inv.give {P:Wd → Prop} {st:RS} (h:Inv P st) (p:Nat) (e:Int):Inv P (st.give p e):=by
 unfold RS.give
 split
 · exact ⟨h.ws,h.sk,h.te,h.no,h.la,h.pr⟩
 · exact h
theorem Inv.take {P:Wd → Prop} {st:RS} (h:Inv P st) (b:Bool):Inv P (st.take b):=by
 unfold RS.take
 split
 · exact ⟨fun x hx => h.ws x (List.mem_of_mem_tail hx),h.sk,h.te,h.no,h.la,h.pr⟩
 · exact h.give _ _
theorem Inv.full {P:Wd → Prop} {st:RS} (h:Inv P st) (b:Bool) (p:Nat):Inv P (st.full b p):=by
 unfold RS.full
 split
 · exact h.give _ _
 · exact h
theorem Inv.fail {P:Wd → Prop} {st:RS} (h:Inv P st) (p:Nat) (e:Int):Inv P (st.fail p e):=by
 unfold RS.fail
 split
 · exact h
 · exact h.give _ _
theorem Inv.thn {P:Wd → Prop} {st:RS} (h:Inv P st) {s:Stp} (h1:P s.w) (h2:s.k = 5 ∨ s.k = 6 → s.a < st.prods.length):Inv P (st.thn s):=by
 refine ⟨h.ws,h.sk,h.te,h.no,fun x hx => ?_,h.pr⟩
 have hx:x ∈ st.later ++ [s]:=hx
 rw [List.mem_append,List.mem_singleton] at hx
 rcases hx with hx | rfl
 · exact h.la x hx
 · exact ⟨h1,h2⟩
theorem Inv.addP {P:Wd → Prop} {st:RS} (h:Inv P st):Inv P st.addP:=by
 refine ⟨h.ws,h.sk,h.te,h.no,fun x hx => ⟨(h.la x hx).1,fun e => ?_⟩,fun l hl => ?_⟩
 · show x.a < (st.prods ++ [_]).length
   rw [List.length_append]
   exact Nat.lt_of_lt_of_le ((h.la x hx).2 e) (Nat.le_add_right _ _)
 · have hl:l ∈ st.prods ++ [st.nonts.length]:=hl
   rw [List.mem_append,List.mem_singleton] at hl
   rcases hl with hl | rfl
   · exact h.pr l hl
   · exact Nat.le_refl _
theorem Inv.addN {P:Wd → Prop} {st:RS} (h:Inv P st) (t:Txt):Inv P (st.addN t):=⟨h.ws,h.sk,h.te,h.no,h.la,fun l hl => by show l ≤ (st.nonts ++ [t]).length;rw [List.length_append];exact Nat.le_trans (h.pr l hl) (Nat.le_add_right _ _)⟩
theorem Inv.addR {P:Wd → Prop} {st:RS} (h:Inv P st) (r:Rl):Inv P (st.addR r):=⟨h.ws,h.sk,h.te,h.no,h.la,h.pr⟩
theorem Inv.addO {P:Wd → Prop} {st:RS} (h:Inv P st) {x:Wd} (hx:P x):Inv P (st.addO x):=by
 refine ⟨h.ws,h.sk,h.te,fun y hy => ?_,h.la,h.pr⟩
 have hy:y ∈ st.nons ++ [x]:=hy
 rw [List.mem_append,List.mem_singleton] at hy
 rcases hy with hy | rfl
 · exact h.no y hy
 · exact hx
theorem Inv.addW {P:Wd → Prop} {st:RS} (h:Inv P st) {x:Wd} (hx:P x) (sk:Bool):Inv P (st.addW x sk):=by
 unfold RS.addW
 split
 · refine ⟨h.ws,fun y hy => ?_,h.te,h.no,h.la,h.pr⟩
   have hy:y ∈ st.skips ++ [x]:=hy
   rw [List.mem_append,List.mem_singleton] at hy
   rcases hy with hy | rfl
   · exact h.sk y hy
   · exact hx
 · refine ⟨h.ws,h.sk,fun y hy => ?_,h.no,h.la,h.pr⟩
   have hy:y ∈ st.terms ++ [x]:=hy
   rw [List.mem_append,List.mem_singleton] at hy
   rcases hy with hy | rfl
   · exact h.te y hy
   · exact hx
theorem Inv.once {P:Wd → Prop} {st:RS} (h:Inv P st) {x:Wd} (hx:P x):Inv P (st.once x):=h.thn hx (fun e => by rcases e with e | e <;> cases e)
section
variable {P:Wd → Prop} (h0:P (0,0,[]))
include h0
theorem Inv.rule {st:RS} (h:Inv P st):Inv P st.rule:=by
 have h1:Inv P st.rule1:=(h.take true).full _ _
 have hx:=h1.hd h0
 unfold RS.rule RS.rule2
 exact Inv.once (((((h1.take _).take _).fail _ _).take _ |>.addR _).addW hx _) hx
theorem Inv.lvd {st:RS} (h:Inv P st) (p s:Nat):Inv P (st.lvd p s):=(h.take _).thn (h.hd h0) (fun e => by rcases e with e | e <;> cases e)
theorem Inv.lvds (p s:Nat):∀ (n:Nat) (st:RS),Inv P st → Inv P (RS.lvds p s n st)
 | 0,_,h => h
 | n + 1,st,h => by
  rw [RS.lvds]
  split
  · exact Inv.lvds p s n _ (Inv.lvd h0 h p s)
  · exact h
theorem Inv.level {st:RS} (h:Inv P st):Inv P st.level:=by
 have h1:Inv P st.lv1:=⟨h.ws,h.sk,h.te,h.no,h.la,h.pr⟩
 unfold RS.level
 exact (Inv.lvds h0 _ _ _ _ (Inv.lvd h0 (h1.take true) _ _)).take _
theorem Inv.start {st:RS} (h:Inv P st):Inv P st.start:=by
 have h1:Inv P st.st1:=⟨h.ws,h.sk,h.te,h.no,h.la,h.pr⟩
 have h2:Inv P ((st.st1.take true).thn ⟨3,st.hd,if 1 < st.starts + 1 then 1 else 0,0⟩):=(h1.take true).thn (h.hd h0) (fun e => by rcases e with e | e <;> cases e)
 unfold RS.start
 exact ((h2.take _).take _).thn (h2.hd h0) (fun e => by rcases e with e | e <;> cases e)
theorem Inv.symb {st:RS} (h:Inv P st) {pr:Nat} (hp:pr < st.prods.length):Inv P (st.symb pr):=(h.take _).thn (h.hd h0) (fun _ => by show pr < (st.take st.atN).prods.length;rw [(SameL.take st st.atN).prods];exact hp)
theorem Inv.prec {st:RS} (h:Inv P st) {pr:Nat} (hp:pr < st.prods.length):Inv P (st.prec pr):=(h.take _).thn (h.hd h0) (fun _ => by show pr < (st.take st.atN).prods.length;rw [(SameL.take st st.atN).prods];exact hp)
theorem Inv.syms (pr:Nat):∀ (f n:Nat) (st:RS),Inv P st → pr < st.prods.length → Inv P (RS.syms pr f n st) ∧ (RS.syms pr f n st).prods = st.prods
 | 0,_,_,h,_ => ⟨h,rfl⟩
 | f + 1,n,st,h,hp => by
  rw [RS.syms]
  split
  · have e1:=(SameL.full st (decide (n = 8)) st.hd.2.1).prods
    have hp1:pr < (st.full (decide (n = 8)) st.hd.2.1).prods.length:=by rw [e1];exact hp
    have e2:((st.full (decide (n = 8)) st.hd.2.1).symb pr).prods = st.prods:=by show (st.full (decide (n = 8)) st.hd.2.1).tkN.prods = _;rw [(SameL.tkN _).prods,e1]
    obtain ⟨a,b⟩:=Inv.syms pr f (n + 1) _ (Inv.symb h0 (h.full _ _) hp1) (by rw [e2];exact hp)
    exact ⟨a,b.trans e2⟩
  · exact ⟨h,rfl⟩
theorem Inv.alt {st:RS} (h:Inv P st):Inv P st.alt:=by
 have h1:Inv P st.alt1:=(h.full _ _).addP
 have e1:st.alt1.prods.length = st.prods.length + 1:=by
  show ((st.full _ _).prods ++ [_]).length = _
  rw [List.length_append,(SameL.full _ _ _).prods];rfl
 obtain ⟨a,b⟩:=Inv.syms h0 st.prods.length st.alt1.ws.length 0 st.alt1 h1 (by omega)
 unfold RS.alt RS.pct
 split
 · exact Inv.prec h0 (a.take _) (by rw [(SameL.take _ _).prods,b];omega)
 · exact a
theorem Inv.alts:∀ (f:Nat) (st:RS),Inv P st → Inv P (RS.alts f st)
 | 0,_,h => h
 | f + 1,st,h => by
  rw [RS.alts]
  split
  · exact Inv.alts f _ (Inv.alt h0 (h.take _))
  · exact h
theorem Inv.nont {st:RS} (h:Inv P st):Inv P st.nont:=by
 have hx:=h.hd h0
 unfold RS.nont RS.nont1
 exact (Inv.alts h0 _ _ (Inv.alt h0 (Inv.once (((((h.take _).full _ _).take _).addN _).addO hx) hx))).take _
theorem Inv.item {st:RS} (h:Inv P st):Inv P st.item:=by
 unfold RS.item
 split
 · exact h.give _ _
 · split
   · exact Inv.rule h0 h
   · split
     · exact Inv.start h0 h
     · split
       · exact Inv.level h0 h
       · exact Inv.nont h0 h
theorem Inv.items:∀ (f:Nat) (st:RS),Inv P st → Inv P (RS.items f st)
 | 0,_,h => h
 | f + 1,st,h => by
  rw [RS.items]
  split
  · exact Inv.items f _ (Inv.item h0 h)
  · exact h
end
end Go.Proofs.YtbpnioehmohbcaaGreat
