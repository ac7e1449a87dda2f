/- What the five laws of layer 17 share, part 15: no statement of its own. -/
import Derived.Test.YtjgedijclkoemaaGreatDoorJ14
namespace Go.Proofs.YtjgedijclkoemaaGreatDoor
structure NamT (s:Txt):Prop where
 len:s.length≤16
 head:∃ c r,s=c :: r∧a1d c.toNat=true
 all:∀ c∈s,(a1d c.toNat || a4s c.toNat)=true
def a0V (s:Txt):Bool:=decide (s.length≤16) && (match s with | []=>false | c :: _=>a1d c.toNat) && s.all (fun c=>a1d c.toNat || a4s c.toNat) && !kwB s
theorem b9z {s:Txt} (h:NamT s) (hk:kwB s=false):a0V s=true:=by
 obtain ⟨h1,⟨c,r,rfl,h2⟩,h3⟩:=h;unfold a0V;simp only [Bool.and_eq_true,decide_eq_true_eq,Bool.not_eq_true',List.all_eq_true];exact ⟨⟨⟨h1,h2⟩,h3⟩,hk⟩
def Gm.allN (g:Gm):List Txt:=g.rules.map Rl.name++g.nonts
def lvB (i:Nat) (l:Int×Int):Bool:=(decide (l.1=0) && decide (l.2=0)) || (decide (0<l.1) && decide (0<l.2) && decide (l.2<4) && decide (i≠0))
def pdB (g:Gm) (p:Pd):Bool:=decide ((g.terms:Int)<p.left) && decide (p.left≤(g.all:Int)) && decide (p.right.length≤8) && decide (0≤p.prec) && decide (p.prec≤(g.terms:Int)) && p.right.all (fun k=>decide (1≤k) && decide (k≤(g.all:Int)))
structure SndG (g:Gm):Prop where
 rules:g.rules.length≤16
 nonts:g.nonts.length≤16
 prods:g.prods.length≤40
 right:∀ r∈g.rules,v_ r.re=true
 named:∀ t∈g.allN,a0V t=true
 once:g.allN.Nodup
 levels:g.levels.length=g.terms+1
 lev:∀ i (h:i<g.levels.length),lvB i g.levels[i]=true
 none:g.nonts.length=0→g.start=0
 start:0<g.nonts.length→(g.terms:Int)<g.start∧g.start≤(g.all:Int)
 prod:∀ p∈g.prods,pdB g p=true
end Go.Proofs.YtjgedijclkoemaaGreatDoor
namespace Go.Proofs.YtjgedijclkoemaaGreatDoor
open Go.RowKit Go.Maps
set_option maxRecDepth 20000 in
theorem b9N (b:Nat) (w:World) (hb:b<256):Calls Tryz.prog 151 #[.int .u8 (b:Int)] w fun e w'=>e=.returned (.bool (a1d b))∧w'=w:=by
 rcases (show b=95∨(65≤b∧b≤90)∨(97≤b∧b≤122)∨b<65∨(90<b∧b<97∧b≠95)∨122<b by omega) with h | h | h | h | h | h
 · rw [a1I (by omega)]
   subst h;go_enter Tryz.func151,Tryz.ntmps151
   go_wp2;go_ret;exact ⟨by simp,rfl⟩
 · rw [a1I (by omega)]
   have h1:((b:Int) == 95)=false:=by rw [beq_eq_false_iff_ne];omega
   have h2:(65:Int)≤(b:Int):=by omega
   have h3:(b:Int)≤90:=by omega
   go_enter Tryz.func151,Tryz.ntmps151
   go_wp2;go_ret;exact ⟨by simp,rfl⟩
 · rw [a1I (by omega)]
   have h1:((b:Int) == 95)=false:=by rw [beq_eq_false_iff_ne];omega
   have h2:(65:Int)≤(b:Int):=by omega
   have h3:¬ (b:Int)≤90:=by omega
   have h4:(97:Int)≤(b:Int):=by omega
   have h5:(b:Int)≤122:=by omega
   go_enter Tryz.func151,Tryz.ntmps151
   go_wp2;go_ret;exact ⟨by simp,rfl⟩
 · rw [a1Z (by omega)]
   have h1:((b:Int) == 95)=false:=by rw [beq_eq_false_iff_ne];omega
   have h2:¬ (65:Int)≤(b:Int):=by omega
   have h4:¬ (97:Int)≤(b:Int):=by omega
   go_enter Tryz.func151,Tryz.ntmps151
   go_wp2;go_ret;exact ⟨by simp,rfl⟩
 · rw [a1Z (by omega)]
   have h1:((b:Int) == 95)=false:=by rw [beq_eq_false_iff_ne];omega
   have h2:(65:Int)≤(b:Int):=by omega
   have h3:¬ (b:Int)≤90:=by omega
   have h4:¬ (97:Int)≤(b:Int):=by omega
   go_enter Tryz.func151,Tryz.ntmps151
   go_wp2;go_ret;exact ⟨by simp,rfl⟩
 · rw [a1Z (by omega)]
   have h1:((b:Int) == 95)=false:=by rw [beq_eq_false_iff_ne];omega
   have h2:(65:Int)≤(b:Int):=by omega
   have h3:¬ (b:Int)≤90:=by omega
   have h4:(97:Int)≤(b:Int):=by omega
   have h5:¬ (b:Int)≤122:=by omega
   go_enter Tryz.func151,Tryz.ntmps151
   go_wp2;go_ret;exact ⟨by simp,rfl⟩
theorem a5l {t:Txt} (h:t=a8R∨t=L_∨t=a6s∨t=a2s∨t=a6r∨t=a1w):kwB t=true:=by
 rcases h with rfl | rfl | rfl | rfl | rfl | rfl <;> decide
theorem c3X {t:Txt} (h1:¬ t=a8R) (h2:¬ t=L_) (h3:¬ t=a6s) (h4:¬ t=a2s) (h5:¬ t=a6r) (h6:¬ t=a1w):kwB t=false:=by
 unfold kwB sdN;rw [decide_eq_false h1,decide_eq_false h2,decide_eq_false h6,if_neg h3,if_neg h4,if_neg h5];rfl
theorem a0a {t u:Txt} (h:t=u):((e_ t).toList == u)=true:=by rw [h,Z_,beq_self_eq_true]
theorem D_ {t u:Txt} (h:¬ t=u):((e_ t).toList == u)=false:=by rw [Z_,beq_eq_false_iff_ne];exact h
set_option maxRecDepth 20000 in
set_option maxHeartbeats 4000000 in
theorem b2H (t:Txt) (w:World):Calls Tryz.prog 150 #[.string (e_ t)] w fun e w'=>e=.returned (.bool (kwB t))∧w'=w:=by
 by_cases h1:t=a8R
 · have hb1:((e_ t).toList == ([116,111,107,101,110]:Txt))=true:=a0a h1
   rw [a5l (.inl h1)];clear h1;generalize e_ t=S at *;go_enter Tryz.func150,Tryz.ntmps150
   go_wp2_with fail
   go_ret;exact ⟨by first | rfl | simp,rfl⟩
 have hb1:((e_ t).toList == ([116,111,107,101,110]:Txt))=false:=D_ h1;by_cases h2:t=L_
 · have hb2:((e_ t).toList == ([115,107,105,112]:Txt))=true:=a0a h2
   rw [a5l (.inr (.inl h2))];clear h1 h2;generalize e_ t=S at *;go_enter Tryz.func150,Tryz.ntmps150
   go_wp2_with fail
   go_ret;exact ⟨by first | rfl | simp,rfl⟩
 have hb2:((e_ t).toList == ([115,107,105,112]:Txt))=false:=D_ h2;by_cases h3:t=a6s
 · have hb3:((e_ t).toList == ([108,101,102,116]:Txt))=true:=a0a h3
   rw [a5l (.inr (.inr (.inl h3)))];clear h1 h2 h3;generalize e_ t=S at *;go_enter Tryz.func150,Tryz.ntmps150
   go_wp2_with fail
   go_ret;exact ⟨by first | rfl | simp,rfl⟩
 have hb3:((e_ t).toList == ([108,101,102,116]:Txt))=false:=D_ h3;by_cases h4:t=a2s
 · have hb4:((e_ t).toList == ([114,105,103,104,116]:Txt))=true:=a0a h4
   rw [a5l (.inr (.inr (.inr (.inl h4))))];clear h1 h2 h3 h4;generalize e_ t=S at *;go_enter Tryz.func150,Tryz.ntmps150
   go_wp2_with fail
   go_ret;exact ⟨by first | rfl | simp,rfl⟩
 have hb4:((e_ t).toList == ([114,105,103,104,116]:Txt))=false:=D_ h4;by_cases h5:t=a6r
 · have hb5:((e_ t).toList == ([110,111,110,101]:Txt))=true:=a0a h5
   rw [a5l (.inr (.inr (.inr (.inr (.inl h5)))))];clear h1 h2 h3 h4 h5;generalize e_ t=S at *;go_enter Tryz.func150,Tryz.ntmps150
   go_wp2_with fail
   go_ret;exact ⟨by first | rfl | simp,rfl⟩
 have hb5:((e_ t).toList == ([110,111,110,101]:Txt))=false:=D_ h5;by_cases h6:t=a1w
 · have hb6:((e_ t).toList == ([115,116,97,114,116]:Txt))=true:=a0a h6
   rw [a5l (.inr (.inr (.inr (.inr (.inr (h6))))))];clear h1 h2 h3 h4 h5 h6;generalize e_ t=S at *;go_enter Tryz.func150,Tryz.ntmps150
   go_wp2_with fail
   go_ret;exact ⟨by first | rfl | simp,rfl⟩
 have hb6:((e_ t).toList == ([115,116,97,114,116]:Txt))=false:=D_ h6;rw [c3X h1 h2 h3 h4 h5 h6];clear h1 h2 h3 h4 h5 h6;generalize e_ t=S at *;go_enter Tryz.func150,Tryz.ntmps150
 go_wp2_with fail
 go_ret;exact ⟨by first | rfl | simp,rfl⟩
theorem b6t {s:Txt} {i:Nat} (h:i<s.length) (h1:a1d s[i].toNat=false) (h2:i=0∨a4s s[i].toNat=false):a0V s=false:=by
 rw [Bool.eq_false_iff];intro hn;unfold a0V at hn;simp only [Bool.and_eq_true,decide_eq_true_eq,List.all_eq_true] at hn;obtain ⟨⟨⟨-,h3⟩,h4⟩,-⟩:=hn;rcases h2 with rfl | h2
 · cases s with
   | nil=>cases h
   | cons c r =>
    have h1:a1d c.toNat=false:=h1;have h3:a1d c.toNat=true:=h3;rw [h1] at h3;cases h3
 · have:=h4 _ (List.getElem_mem h)
   rw [h1,h2] at this;cases this
theorem b3z {s:Txt} (h0:1≤s.length) (h16:s.length≤16) (hk:kwB s=false) (h:∀ i (hi:i<s.length),a1d s[i].toNat=true∨(i≠0∧a4s s[i].toNat=true)):a0V s=true:=by
 refine b9z ⟨h16,?_,fun c hc=>?_⟩ hk
 · cases s with
   | nil=>cases h0
   | cons c r =>
    rcases h 0 (by simp) with h1 | h1
    · exact ⟨c,r,rfl,h1⟩
    · exact absurd rfl h1.1
 · obtain ⟨i,hi,rfl⟩:=List.getElem_of_mem hc
   rcases h i hi with h1 | h1
   · rw [h1,Bool.true_or]
   · rw [h1.2,Bool.or_true]
theorem b7f {c:Nat} (h1:48≤c) (h2:c≤57):a4s c=true:=by unfold a4s;rw [decide_eq_true h1,decide_eq_true h2];rfl
theorem b4r {c:Nat} (h:¬ (48≤c∧c≤57)):a4s c=false:=by
 unfold a4s;by_cases h1:48≤c
 · rw [decide_eq_true h1,decide_eq_false (fun h2=>h ⟨h1,h2⟩)];rfl
 · rw [decide_eq_false h1];rfl
set_option maxRecDepth 20000 in
set_option maxHeartbeats 8000000 in
theorem c1M (s:Txt) (w:World) (hs:s.length≤1000000):Calls Tryz.prog 102 #[.string (e_ s)] w fun e w'=>e=.returned (.bool (a0V s))∧w'=w:=by
 have hsz:=o_ s;have GL:=hid (fun (c:Nat) (hc:c<256) (u:World)=>b9N c u hc);have GK:=hid (b2H s w);rcases Nat.lt_or_ge s.length 1 with h1 | h1
 · have hz:((e_ s).size:Int)<1:=by omega
   have hn:a0V s=false:=by
    have:s=[]:=List.eq_nil_of_length_eq_zero (by omega)
    rw [this];rfl
   rw [hn];clear GK GL hn hsz;go_enter Tryz.func102,Tryz.ntmps102
   go_wp2;go_ret;exact ⟨rfl,rfl⟩
 have hz1:¬ ((e_ s).size:Int)<1:=by omega
 rcases Nat.lt_or_ge 16 s.length with h2 | h2
 · have hz:(16:Int)<((e_ s).size:Int):=by omega
   have hn:a0V s=false:=by unfold a0V;rw [decide_eq_false (by omega)];rfl
   rw [hn];clear GK GL hn hsz;go_enter Tryz.func102,Tryz.ntmps102
   go_wp2;go_ret;exact ⟨rfl,rfl⟩
 have hz2:¬ (16:Int)<((e_ s).size:Int):=by omega
 cases hk:kwB s with
 | true =>
  have hn:a0V s=false:=by unfold a0V;rw [hk];simp
  rw [hn];rw [hk] at GK;clear GL hn hsz hk;go_enter Tryz.func102,Tryz.ntmps102
  go_wp2_with (go_at_call 150;refine GK.out.mono ?_;clear GK;rintro e w2 ⟨rfl,hc2⟩;subst w2)
  go_ret;exact ⟨rfl,rfl⟩
 | false =>
  rw [hk] at GK;have hgood:=hid (fun h=>b3z h1 h2 hk h);have hbad:=hid (fun i (h:i<s.length) h1 h2=>b6t h h1 h2);clear hk;generalize a0V s=R at *;go_enter Tryz.func102,Tryz.ntmps102
  go_wp2_with (go_at_call 150;refine GK.out.mono ?_;clear GK;rintro e w2 ⟨rfl,hc2⟩;subst w2)
  go_loopw [3] (fun x wr=>∃ p:Nat,p≤s.length∧x=.int .i64 (p:Int)∧Hid (∀ i (hi:i<s.length),i<p→a1d s[i].toNat=true∨(i≠0∧a4s s[i].toNat=true))∧wr=w) (fun x _=>s.length - (intOf x).toNat)
  case atStart=>exact ⟨0,Nat.zero_le _,rfl,hid (fun i _ h=>absurd h (Nat.not_lt_zero _)),rfl⟩
  case round =>
   obtain ⟨p,hp,rfl,hI,rfl⟩:=hrel;by_cases hpt:p<s.length
   · have hptz:(p:Int)<((e_ s).size:Int):=by omega
     have hptn:p<(e_ s).size:=by omega
     have key:=a2L hpt hptn;have hgd:s.getD p 0=s[p]:=by rw [List.getD_eq_getElem?_getD,List.getElem?_eq_getElem hpt];rfl
     rw [hgd] at key;have hcb:=s[p].toNat_lt;have G:=hid (GL.out s[p].toNat hcb wr);have hb1:=hid (fun h1 h2=>hbad.out p hpt h1 h2)
     have hst:Hid ((a1d s[p].toNat=true∨(p≠0∧a4s s[p].toNat=true))→∀ i (hi:i<s.length),i<p+1→a1d s[i].toNat=true∨(i≠0∧a4s s[i].toNat=true)):=hid (fun h i hi h9=>by
      rcases Nat.lt_or_ge i p with h8 | h8
      · exact hI.out i hi h8
      · obtain rfl:i=p:=by omega
        exact h)
     clear hgd hI hbad;generalize s[p].toNat=c at *;have hdig:(48≤c∧c≤57)∨c<48∨57<c:=by omega
     cases hl:a1d c with
     | true =>
      rw [hl] at G;have hn9:=hid (hst.out (.inl hl));clear hst hb1 hl;rcases hdig with ⟨d1,d2⟩ | d1 | d1
      · have e1:(48:Int)≤(c:Int):=by omega
        have e2:(c:Int)≤57:=by omega
        go_wp2_with (go_at_call 151;refine G.out.mono ?_;clear G;rintro e w2 ⟨rfl,hc2⟩;subst w2)
        go_roundw
        case rel=>exact ⟨p+1,by omega,by go_num,hn9,by first | rfl | trivial⟩
        case measure=>simp [intOf];omega
      · have e1:¬ (48:Int)≤(c:Int):=by omega
        go_wp2_with (go_at_call 151;refine G.out.mono ?_;clear G;rintro e w2 ⟨rfl,hc2⟩;subst w2)
        go_roundw
        case rel=>exact ⟨p+1,by omega,by go_num,hn9,by first | rfl | trivial⟩
        case measure=>simp [intOf];omega
      · have e1:(48:Int)≤(c:Int):=by omega
        have e2:¬ (c:Int)≤57:=by omega
        go_wp2_with (go_at_call 151;refine G.out.mono ?_;clear G;rintro e w2 ⟨rfl,hc2⟩;subst w2)
        go_roundw
        case rel=>exact ⟨p+1,by omega,by go_num,hn9,by first | rfl | trivial⟩
        case measure=>simp [intOf];omega
     | false =>
      rw [hl] at G;rcases Nat.eq_zero_or_pos p with h0 | h0
      · obtain rfl:=hb1.out hl (.inl h0)
        have h0z:((p:Int) == 0)=true:=by rw [h0];rfl
        clear hst hb1 hl h0;rcases hdig with ⟨d1,d2⟩ | d1 | d1
        · have e1:(48:Int)≤(c:Int):=by omega
          have e2:(c:Int)≤57:=by omega
          go_wp2_with (go_at_call 151;refine G.out.mono ?_;clear G;rintro e w2 ⟨rfl,hc2⟩;subst w2)
          go_ret;exact ⟨rfl,rfl⟩
        · have e1:¬ (48:Int)≤(c:Int):=by omega
          go_wp2_with (go_at_call 151;refine G.out.mono ?_;clear G;rintro e w2 ⟨rfl,hc2⟩;subst w2)
          go_ret;exact ⟨rfl,rfl⟩
        · have e1:(48:Int)≤(c:Int):=by omega
          have e2:¬ (c:Int)≤57:=by omega
          go_wp2_with (go_at_call 151;refine G.out.mono ?_;clear G;rintro e w2 ⟨rfl,hc2⟩;subst w2)
          go_ret;exact ⟨rfl,rfl⟩
      · have h0z:((p:Int) == 0)=false:=by rw [beq_eq_false_iff_ne];omega
        rcases hdig with ⟨d1,d2⟩ | d1 | d1
        · have e1:(48:Int)≤(c:Int):=by omega
          have e2:(c:Int)≤57:=by omega
          have hn9:=hid (hst.out (.inr ⟨by omega,b7f d1 d2⟩));clear hst hb1 hl;go_wp2_with (go_at_call 151;refine G.out.mono ?_;clear G;rintro e w2 ⟨rfl,hc2⟩;subst w2)
          go_roundw
          case rel=>exact ⟨p+1,by omega,by go_num,hn9,by first | rfl | trivial⟩
          case measure=>simp [intOf];omega
        · have e1:¬ (48:Int)≤(c:Int):=by omega
          obtain rfl:=hb1.out hl (.inr (b4r (by omega)));clear hst hb1 hl;go_wp2_with (go_at_call 151;refine G.out.mono ?_;clear G;rintro e w2 ⟨rfl,hc2⟩;subst w2)
          go_ret;exact ⟨rfl,rfl⟩
        · have e1:(48:Int)≤(c:Int):=by omega
          have e2:¬ (c:Int)≤57:=by omega
          obtain rfl:=hb1.out hl (.inr (b4r (by omega)));clear hst hb1 hl;go_wp2_with (go_at_call 151;refine G.out.mono ?_;clear G;rintro e w2 ⟨rfl,hc2⟩;subst w2)
          go_ret;exact ⟨rfl,rfl⟩
   · have hptz:¬ (p:Int)<((e_ s).size:Int):=by omega
     obtain rfl:=hgood.out (fun i hi=>hI.out i hi (by omega));go_wp2;go_ret;exact ⟨rfl,rfl⟩
end Go.Proofs.YtjgedijclkoemaaGreatDoor
namespace Go.Proofs.YtjgedijclkoemaaGreatDoor
open Go.RowKit Go.Maps Go.Sort
def a0G (g:Gm):Bool:=(g.rules.all fun r=>v_ r.re) && (g.allN.all a0V && decide g.allN.Nodup)
theorem a7C {g:Gm} {k:Nat} (hk:k<g.rules.length) (h:v_ g.rules[k].re=false):a0G g=false:=by
 unfold a0G
 have:(g.rules.all fun r=>v_ r.re)=false:=by
  rw [List.all_eq_false];exact ⟨_,List.getElem_mem hk,by rw [h];decide⟩
 rw [this];rfl
theorem a7D {g:Gm} {k:Nat} (hk:k<g.allN.length) (h:a0V g.allN[k]=false):a0G g=false:=by
 unfold a0G
 have:g.allN.all a0V=false:=by
  rw [List.all_eq_false];exact ⟨_,List.getElem_mem hk,by rw [h];decide⟩
 rw [this,Bool.false_and,Bool.and_false]
theorem a7B {g:Gm} {k i:Nat} (hi:i<g.allN.length) (hk:k<i) (h:g.allN[k]'(by omega)=g.allN[i]):a0G g=false:=by
 unfold a0G
 have:decide g.allN.Nodup=false:=decide_eq_false fun hn=>by
  have:=List.pairwise_iff_getElem.1 hn k i (by omega) hi hk
  exact this h
 rw [this,Bool.and_false,Bool.and_false]
theorem b1q {g:Gm} (h1:∀ k (hk:k<g.rules.length),v_ g.rules[k].re=true) (h2:∀ k (hk:k<g.allN.length),a0V g.allN[k]=true) (h3:∀ k i (hi:i<g.allN.length) (hk:k<i),g.allN[k]'(by omega)≠g.allN[i]):a0G g=true:=by
 unfold a0G
 have e1:(g.rules.all fun r=>v_ r.re)=true:=by
  rw [List.all_eq_true];intro r hr;obtain ⟨k,hk,rfl⟩:=List.getElem_of_mem hr;exact h1 k hk
 have e2:g.allN.all a0V=true:=by
  rw [List.all_eq_true];intro r hr;obtain ⟨k,hk,rfl⟩:=List.getElem_of_mem hr;exact h2 k hk
 have e3:decide g.allN.Nodup=true:=decide_eq_true (List.pairwise_iff_getElem.2 fun k i hk hi hki=>h3 k i hi hki);rw [e1,e2,e3];rfl
theorem a1p (s t:Txt):((e_ s).toList == (e_ t).toList)=decide (s=t):=by
 rw [Z_,Z_];by_cases h:s=t
 · subst h;simp
 · simp [h]
set_option maxRecDepth 20000 in
set_option maxHeartbeats 16000000 in
theorem c1L (g:Gm) (rv nv lv pv:Value) (w:World) (hV:GmV w rv nv lv pv g) (hr:g.rules.length≤1000) (hn:g.nonts.length≤1000) (hnl:∀ t∈g.allN,t.length≤1000000) :
 Calls Tryz.prog 74 #[gmA rv nv lv pv g.start] w fun e w'=>e=.returned (.bool (a0G g))∧Below w.heap.size w w':=by
 obtain ⟨ra,rc,rfl⟩:=hV.rules.shape;obtain ⟨na,nc,rfl⟩:=hV.nonts.shape;have hB1:=al' w (.cells #[.slice ra g.rules.length rc,.slice na g.nonts.length nc,lv,pv,.int .i64 g.start] 27);have k1:=b_ w (.cells #[.slice ra g.rules.length rc,.slice na g.nonts.length nc,lv,pv,.int .i64 g.start] 27);obtain ⟨W,hW⟩:∃ x,w.alloc (.cells #[.slice ra g.rules.length rc,.slice na g.nonts.length nc,lv,pv,.int .i64 g.start] 27)=x:=⟨_,rfl⟩;rw [hW] at hB1 k1;have hk1:Hid (∀ u,Below W.heap.size W u→u.cell? ⟨w.heap.size,0,none⟩=some (.slice ra g.rules.length rc)∧u.cell? ⟨w.heap.size,1,none⟩=some (.slice na g.nonts.length nc)):=hid (fun u hu=>⟨c_ (g_ k1 hu) rfl,c_ (g_ k1 hu) rfl⟩);have hB:=hid hB1
 have hKr:Hid (∀ u,Below w.heap.size w u→∀ k (hk:k<g.rules.length),∃ b o q1 q3,ra=some ⟨b,o,none⟩∧u.cell? ⟨b,o+k * 3,none⟩=some (.string (e_ g.rules[k].name))∧u.cell? ⟨b,o+k * 3+1,none⟩=some (.slice q1 g.rules[k].re.length q3)∧Calls Tryz.prog 101 #[.slice q1 g.rules[k].re.length q3] u fun e w'=>e=.returned (.bool (v_ g.rules[k].re))∧w'=u):=hid (fun u hu k hk=>by
  obtain ⟨b,o,e,-,hx⟩:=(hV.keep hu).rules.at hk;obtain ⟨v,x0,x1,x2,hN⟩:=hx;have hN2:=hN;obtain ⟨q1,q3,rfl,_⟩:=hN2;exact ⟨b,o,q1,q3,e,x0,x1,c1t _ _ u hN⟩)
 have hKn:Hid (∀ u,Below w.heap.size w u→Lst 1 a4F u (.slice na g.nonts.length nc) g.nonts):=hid (fun u hu=>(hV.keep hu).nonts);have hbr:=hid (fun k (hk:k<g.rules.length) h=>a7C hk h);have hbn:=hid (fun k (hk:k<g.allN.length) h=>a7D hk h);have hbt:=hid (fun k i (hi:i<g.allN.length) (hk:k<i) h=>a7B hi hk h);have hby:=hid (fun h1 h2 h3=>b1q (g:=g) h1 h2 h3);have GN:=hid (fun k (hk:k<g.allN.length) u=>c1M g.allN[k] u (hnl _ (List.getElem_mem hk)));obtain ⟨F1,hF1⟩:∃ F:Nat→List Txt,Hid (∀ k,(g.rules.take k).map Rl.name=F k):=⟨_,hid (fun _=>rfl)⟩
 have s1:Hid (∀ k (hk:k<g.rules.length),F1 (k+1)=F1 k++[g.rules[k].name]):=hid (fun k hk=>by
  rw [← hF1.out,← hF1.out,List.take_add_one,List.getElem?_eq_getElem hk,Option.toList_some,List.map_append];rfl)
 have l1:Hid (∀ k,(F1 k).length≤1000):=hid (fun k=>by rw [← hF1.out,List.length_map,List.length_take];omega);have e1:Hid (F1 g.rules.length++g.nonts=g.allN):=hid (by rw [← hF1.out,List.take_length];rfl);have hO0:Hid (OwnT W W.heap.size (.slice none 0 0) (F1 0)):=hid (by rw [← hF1.out];exact World.ownsRow_nil _ _ _ _);have lA:g.allN.length≤2000:=by unfold Gm.allN;rw [List.length_append,List.length_map];omega
 clear hV hB1 k1 hF1 hnl;generalize a0G g=R at *;obtain ⟨rn,hrn⟩:∃ n,Hid (g.rules.length=n):=⟨_,hid rfl⟩;obtain ⟨nn,hnn⟩:∃ n,Hid (g.nonts.length=n):=⟨_,hid rfl⟩;rw [hrn.out] at hr hk1 hW e1 ⊢;rw [hnn.out] at hn hk1 hW hKn ⊢;generalize g.start=st at *;go_enter Tryz.func74,Tryz.ntmps74
 go_wp2;clear hW;go_loopw [3,4] (fun v i wr=>∃ k:Nat,k≤rn∧i=.int .i64 (k:Int)∧Hid (OwnT wr W.heap.size v (F1 k))∧Hid (∀ j (hj:j<g.rules.length),j<k→v_ g.rules[j].re=true)∧Hid (Below W.heap.size W wr)) (fun _ i _=>rn - (intOf i).toNat)
 case atStart=>exact ⟨0,Nat.zero_le _,rfl,hO0,hid (fun _ _ h=>absurd h (Nat.not_lt_zero _)),hid (Below.refl _ _)⟩
 case round =>
  obtain ⟨k,hk,rfl,hO,hrt,hbl⟩:=hrel;have hbw:=hid (a_ hB.out hbl.out);obtain ⟨y0,y1⟩:=hk1.out wr hbl.out;by_cases hlt:k<rn
  · have hltz:(k:Int)<(rn:Int):=by omega
    have hkl:k<g.rules.length:=by rw [hrn.out];exact hlt
    obtain ⟨b,o,q1,q3,e,x0,x1,-⟩:=hKr.out wr hbw.out k hkl;subst e;have hal:=al' wr (.cells #[.string (e_ g.rules[k].name)] 9);have hOa:=hid (j_ hO.out hal);have hDa:=hid (a8u wr g.rules[k].name);have hBa:=hid (a_ hbl.out hal);have hs:=hid (s1.out k hkl);have hln:=l1.out k;have hap:=hid (fun u (hu:Below W.heap.size W u)=>hKr.out u (a_ hB.out hu) k hkl)
    have hmore:Hid (v_ g.rules[k].re=true→∀ j (hj:j<g.rules.length),j<k+1→v_ g.rules[j].re=true):=hid (fun h j hj h9=>by
     rcases Nat.lt_or_ge j k with h8 | h8
     · exact hrt.out j hj h8
     · obtain rfl:j=k:=by omega
       exact h)
    have hb9:=hid (fun h=>hbr.out k hkl h);clear hal hO hrt hbr;generalize g.rules[k].name=nm at *;generalize g.rules[k].re.length=rl at *;cases hrb:v_ g.rules[k].re with
    | true =>
     have hm9:=hid (hmore.out hrb);rw [hrb] at hap;clear hmore hb9
     go_wp2_with (first
      | (at_builtin;refine a1n _ rfl _ _ rfl W.heap.size (F1 k) [nm] _ _ rfl rfl hOa.out hDa.out (by simp;omega) hBa.out.size ?_;intro v3 w3 hO3 hb3;have hO4:Hid (OwnT w3 W.heap.size v3 (F1 (k+1))):=(by rw [hs.out];exact hid hO3);have hb4:=hid (hBa.out.trans hb3);obtain ⟨z0,z1⟩:=hk1.out w3 hb4.out;obtain ⟨b',o',q1',q3',e',x0',x1',G'⟩:=hap.out w3 hb4.out;injection e' with e';injection e' with e' e'' _;subst e' e'';have G':=hid G';clear hO3 hb3 hap hOa hDa)
      | (go_at_call 101;refine G'.out.mono ?_;clear G';rintro e w4 ⟨rfl,hc4⟩;subst w4))
     go_roundw
     case rel=>exact ⟨k+1,by omega,by go_num,hO4,hm9,hb4⟩
     case measure=>simp [intOf];omega
    | false =>
     obtain rfl:=hb9.out hrb;rw [hrb] at hap;clear hmore hb9
     go_wp2_with (first
      | (at_builtin;refine a1n _ rfl _ _ rfl W.heap.size (F1 k) [nm] _ _ rfl rfl hOa.out hDa.out (by simp;omega) hBa.out.size ?_;intro v3 w3 hO3 hb3;have hb4:=hid (hBa.out.trans hb3);obtain ⟨z0,z1⟩:=hk1.out w3 hb4.out;obtain ⟨b',o',q1',q3',e',x0',x1',G'⟩:=hap.out w3 hb4.out;injection e' with e';injection e' with e' e'' _;subst e' e'';have G':=hid G';clear hO3 hb3 hap hOa hDa)
      | (go_at_call 101;refine G'.out.mono ?_;clear G';rintro e w4 ⟨rfl,hc4⟩;subst w4))
     go_ret;exact ⟨rfl,a_ hB.out hb4.out⟩
  · have hltz:¬ (k:Int)<(rn:Int):=by omega
    obtain rfl:k=rn:=by omega
    have hD:=hid (hKn.out wr hbw.out);have hln:=l1.out k;have hrt9:=hid (fun j (hj:j<g.rules.length)=>hrt.out j hj (by rw [hrn.out] at hj;exact hj));clear hrt hKr hbr s1 l1;go_wp2_with (at_builtin;refine a1n _ rfl _ _ rfl W.heap.size (F1 k) g.nonts _ _ rfl rfl hO.out hD.out (by rw [hnn.out];omega) hbl.out.size ?_;intro v3 w3 hO3 hb3;rw [e1.out] at hO3;obtain ⟨va,vc,hve⟩:=p_ hO3;subst hve;have hb4:=hid (hbl.out.trans hb3);have hO4:=hid hO3;clear hO3 hb3 hO hD)
    clear hltz hlt hk hbl hbw y0 y1 hKn hln hk1
    have hcell:Hid (∀ u,Below w3.heap.size w3 u→∀ j (hj:j<g.allN.length),∃ gb,va=some ⟨gb,0,none⟩∧u.cell? ⟨gb,j,none⟩=some (.string (e_ g.allN[j]))):=hid (fun u hu j hj=>by
     obtain ⟨gb,e,hc⟩:=OwnT.at (j_ hO4.out hu) hj;refine ⟨gb,e,?_⟩;rw [hc,List.getD_eq_getElem?_getD,List.getElem?_eq_getElem hj];rfl)
    obtain ⟨n,hnA⟩:∃ n,Hid (g.allN.length=n):=⟨_,hid rfl⟩;have hB4:=hid (a_ hB.out hb4.out);rw [hnA.out] at lA ⊢;clear hO4;go_loopw [5] (fun i wr=>∃ k:Nat,k≤n∧i=.int .i64 (k:Int)∧Hid (∀ j (hj:j<g.allN.length),j<k→a0V g.allN[j]=true)∧Hid (∀ a b (hb:b<g.allN.length) (hab:a<b),b<k→g.allN[a]'(by omega)≠g.allN[b])∧Hid (Below w3.heap.size w3 wr)) (fun i _=>n - (intOf i).toNat)
    case atStart=>exact ⟨0,Nat.zero_le _,rfl,hid (fun _ _ h=>absurd h (Nat.not_lt_zero _)),hid (fun _ _ _ _ h=>absurd h (Nat.not_lt_zero _)),hid (Below.refl _ _)⟩
    case round =>
     obtain ⟨k2,hk2,rfl,hq1,hq2,hbl⟩:=hrel;by_cases hlt:k2<n
     · have hltz:(k2:Int)<(n:Int):=by omega
       have hkl:k2<g.allN.length:=by rw [hnA.out];exact hlt
       obtain ⟨gb,e,x0⟩:=hcell.out _ hbl.out k2 hkl;subst e;have G:=hid (GN.out k2 hkl wr);have hbn9:=hid (fun h=>hbn.out k2 hkl h);cases hnb:a0V g.allN[k2] with
       | false =>
        obtain rfl:=hbn9.out hnb;rw [hnb] at G;clear hnb hq1 hq2 hbn9;generalize g.allN[k2]=tx at *;go_wp2_with (go_at_call 102;refine G.out.mono ?_;clear G;rintro e w4 ⟨rfl,hc4⟩;subst w4)
        go_ret;exact ⟨rfl,a_ hB4.out hbl.out⟩
       | true =>
        rw [hnb] at G
        have hq3:Hid (∀ j (hj:j<g.allN.length),j<k2+1→a0V g.allN[j]=true):=hid (fun j hj h9=>by
         rcases Nat.lt_or_ge j k2 with h8 | h8
         · exact hq1.out j hj h8
         · obtain rfl:j=k2:=by omega
           exact hnb)
        clear hnb hq1 hbn9;go_wp2_with (go_at_call 102;refine G.out.mono ?_;clear G;rintro e w4 ⟨rfl,hc4⟩;subst w4)
        clear x0 hltz;go_loopw [6] (fun i wr=>∃ m:Nat,m≤k2∧i=.int .i64 (m:Int)∧Hid (∀ a (ha:a<k2),a<m→g.allN[a]'(by omega)≠g.allN[k2])∧Hid (Below w3.heap.size w3 wr)) (fun i _=>k2 - (intOf i).toNat)
        case atStart=>exact ⟨0,Nat.zero_le _,rfl,hid (fun _ _ h=>absurd h (Nat.not_lt_zero _)),hbl⟩
        case round =>
         clear hbl;obtain ⟨m,hm,rfl,hq4,hbl⟩:=hrel;by_cases hlm:m<k2
         · have hlmz:(m:Int)<(k2:Int):=by omega
           have hmn:(m:Int)<(n:Int):=by omega
           have hkn:(k2:Int)<(n:Int):=by omega
           have hml:m<g.allN.length:=by omega
           obtain ⟨gb1,e1,x1⟩:=hcell.out _ hbl.out m hml;obtain ⟨gb2,e2,x2⟩:=hcell.out _ hbl.out k2 hkl;injection e1 with e1;injection e1 with e1 _ _;injection e2 with e2;injection e2 with e2 _ _;subst e1 e2;by_cases he:g.allN[m]=g.allN[k2]
           · obtain rfl:=hbt.out m k2 hkl hlm he
             have hz:((e_ g.allN[m]).toList == (e_ g.allN[k2]).toList)=true:=by rw [a1p];exact decide_eq_true he
             clear hq4 hq2 he hq3;generalize e_ g.allN[m]=s1 at *;generalize e_ g.allN[k2]=s2 at *;go_wp2_with fail
             go_quiet (fail)
             go_wp2;go_ret;exact ⟨rfl,by first | exact a_ hB4.out (q_ hbl.out) | exact a_ hB4.out (q_ (q_ hbl.out))⟩
           · have hq5:Hid (∀ a (ha:a<k2),a<m+1→g.allN[a]'(by omega)≠g.allN[k2]):=hid (fun a ha h9=>by
              rcases Nat.lt_or_ge a m with h8 | h8
              · exact hq4.out a ha h8
              · obtain rfl:a=m:=by omega
                exact he)
             have hz:((e_ g.allN[m]).toList == (e_ g.allN[k2]).toList)=false:=by rw [a1p];exact decide_eq_false he
             clear hq4 he;generalize e_ g.allN[m]=s1 at *;generalize e_ g.allN[k2]=s2 at *;go_wp2_with fail
             go_quiet (fail)
             go_wp2;go_roundw
             case rel=>exact ⟨m+1,by omega,by go_num,hq5,hid (by first | exact q_ hbl.out | exact q_ (q_ hbl.out))⟩
             case measure=>simp [intOf];omega
         · have hlmz:¬ (m:Int)<(k2:Int):=by omega
           have hq6:Hid (∀ a b (hb:b<g.allN.length) (hab:a<b),b<k2+1→g.allN[a]'(by omega)≠g.allN[b]):=hid (fun a b hb hab h9=>by
            rcases Nat.lt_or_ge b k2 with h8 | h8
            · exact hq2.out a b hb hab h8
            · obtain rfl:b=k2:=by omega
              exact hq4.out a hab (by omega))
           clear hq4 hq2;go_wp2;go_roundw
           case rel=>exact ⟨k2+1,by omega,by go_num,hq3,hq6,hbl⟩
           case measure=>simp [intOf];omega
     · have hltz:¬ (k2:Int)<(n:Int):=by omega
       obtain rfl:=hby.out hrt9.out (fun j hj=>hq1.out j hj (by rw [hnA.out] at hj;omega)) (fun a b hb hab=>hq2.out a b hb hab (by rw [hnA.out] at hb;omega));clear hq1 hq2;go_wp2;go_ret;exact ⟨rfl,a_ hB4.out hbl.out⟩
end Go.Proofs.YtjgedijclkoemaaGreatDoor
