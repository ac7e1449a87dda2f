/- What the five laws of layer 17 share, part 35: no statement of its own. -/
import Derived.Test.YtjgedijclkoemaaGreatDoorJ33
namespace Go.Proofs.YtjgedijclkoemaaGreatDoor
open Go.RowKit Go.Maps Go.Sort
def itN (w:World) (rb:Nat):Nat:=match w.cell? ⟨rb,17,none⟩ with
 | some (.int _ e)=>if e=0 then wsN w rb+1 else 0
 | _=>0
theorem RdV.itN {B rb:Nat} {T:Nat→Nat} {w:World} {X:RX} {st:RS} (h:RdV B T w rb X st):itN w rb=if st.err=0 then st.ws.length+1 else 0:=by
 have h0:w.cell? ⟨rb,17,none⟩=some (.int .i64 st.err):=c_ h.blk rfl;unfold Go.Proofs.YtjgedijclkoemaaGreatDoor.itN;rw [h0,h.wsN]
set_option maxRecDepth 20000 in
set_option maxHeartbeats 16000000 in
theorem c1X {B rb:Nat} {T:Nat→Nat} {w:World} {X:RX} {st:RS} (h:RdV B T w rb X st) (hp:st.pot≤80000) :
 Calls Tryz.prog 39 #[r_ rb] w fun r w'=>r=.returned (.tuple #[])∧RdP B T w rb (RS.items st.ws.length st) w':=by
 obtain ⟨R,hR⟩:∃ R,Hid (RS.items st.ws.length st=R):=⟨_,hid rfl⟩;rw [hR.out];have hr0:=hid h;have hp0:=hid hp;clear h hp;go_enter Tryz.func39,Tryz.ntmps39
 go_wp2_with fail
 go_loopw [] (fun wr=>∃ (T1:Nat→Nat) (X1:RX) (st1:RS),Hid (RdV B T1 wr rb X1 st1)∧Hid (Chg T T1 w wr)∧Hid (RS.items st1.ws.length st1=R)∧Hid (st1.pot≤80000)) (fun wr=>itN wr rb)
 case atStart=>exact ⟨T,X,st,hr0,hid (Chg.refl _ _),hR,hp0⟩
 case round =>
  obtain ⟨T1,X1,st1,hr,hc,hL,hb⟩:=hrel;clear hr0 hR hp0;have hm0:=hid hr.out.itN;obtain ⟨b,o,n,cap,⟨c0,k,p,t,le,l1,l2⟩,-,-⟩:=hr.out.ahd;have c17:wr.cell? ⟨rb,17,none⟩=some (.int .i64 st1.err):=c_ hr.out.blk rfl;clear p t l1 l2;by_cases he:st1.err=0
  · by_cases hk:st1.hd.1=0
    · have e9:=hL.out
      rw [O_ _ (fun e=>e.2 hk)] at e9;subst e9;have hz:((st1.hd.1:Int) != 0)=false:=by rw [bne_eq_false_iff_eq];omega
      have hez:(st1.err == 0)=true:=by rw [beq_iff_eq];exact he
      have hQ:Hid (RdP B T w rb st1 wr):=hid ⟨T1,X1,hr.out,hc.out⟩;clear hr hc hL hb hm0 hk he;generalize (st1.hd.1:Int)=kz at *;generalize st1.err=er at *;go_wp2;go_end0
      exact ⟨rfl,hQ.out⟩
    · have hz:((st1.hd.1:Int) != 0)=true:=by rw [bne_iff_ne];omega
      have hez:(st1.err == 0)=true:=by rw [beq_iff_eq];exact he
      have e8:=hid ((b1w he hk).symm.trans hL.out);have hnx:=hid (a4p he);have hp1:=hid (RS.item_pot st1);have GI:=hid (b9a hr.out hb.out);have he0:=hid he;clear hL hr he hk;generalize (st1.hd.1:Int)=kz at *;generalize hE:st1.err=er at c17 hez;clear hE;go_wp2_with (go_at_call 65;refine GI.out.mono ?_;clear GI;rintro e u4 ⟨rfl,T4,X4,hr4,hc4⟩;have hm4:=hid hr4.itN;have hr4:=hid hr4;have hc4:=hid (hc.out.trans hc4))
      go_roundw
      case rel=>exact ⟨T4,X4,_,hr4,hc4,e8,hid (by have:=hp1.out;have:=hb.out;omega)⟩
      case measure =>
       rw [hm4.out,hm0.out,if_pos he0.out];rcases hnx.out with h9 | h9
       · rw [if_neg h9];omega
       · split <;> omega
  · have e9:=hL.out
    rw [O_ _ (fun e=>he e.1)] at e9;subst e9;have hez:(st1.err == 0)=false:=by rw [beq_eq_false_iff_ne];exact he
    have hQ:Hid (RdP B T w rb st1 wr):=hid ⟨T1,X1,hr.out,hc.out⟩;clear hr hc hL hb hm0 he;generalize st1.err=er at *;go_wp2;go_end0
    exact ⟨rfl,hQ.out⟩
end Go.Proofs.YtjgedijclkoemaaGreatDoor
