/- What the five laws of layer 17 share, part 14: no statement of its own. -/
import Derived.Test.YtjgedijclkoemaaGreatDoorJ13
namespace Go.Proofs.YtjgedijclkoemaaGreatDoor
def a8R:Txt:=[116,111,107,101,110]
def L_:Txt:=[115,107,105,112]
def a1w:Txt:=[115,116,97,114,116]
def a6s:Txt:=[108,101,102,116]
def a2s:Txt:=[114,105,103,104,116]
def a6r:Txt:=[110,111,110,101]
def sdN (t:Txt):Nat:=if t=a6s then 1 else if t=a2s then 2 else if t=a6r then 3 else 0
def kwB (t:Txt):Bool:=decide (t=a8R) || decide (t=L_) || decide (t=a1w) || decide (0<sdN t)
theorem b7M (t:Txt):sdN t≤3:=by unfold sdN;split <;> (try split) <;> (try split) <;> omega
def rxA (t:Txt):List Cel×Int:=if 200<t.length then ([],3) else match a0M t with
 | some (r,[])=>if 60<(post r).length then ([],3) else (post r,0)
 | _=>([],1)
structure Stp where
 k:Nat
 w:Wd
 a:Nat
 b:Nat
structure RS where
 ws:List Wd
 rules:List Rl
 nonts:List Txt
 prods:List Nat
 levels:Nat
 starts:Nat
 skips:List Wd
 terms:List Wd
 nons:List Wd
 later:List Stp
 pl:Nat
 err:Int
def RS.hd (st:RS):Wd:=st.ws.headD (0,0,[])
def RS.give (st:RS) (p:Nat) (e:Int):RS:=if st.err=0 then { st with pl:=p,err:=e } else st
def RS.take (st:RS) (may:Bool):RS:=if may then { st with ws:=st.ws.tail } else st.give st.hd.2.1 1
def RS.atN (st:RS):Bool:=decide (st.hd.1=1) && !kwB st.hd.2.2
def RS.atS (st:RS) (t:Txt):Bool:=decide (st.hd.1=3) && decide (st.hd.2.2=t)
def RS.tkN (st:RS):RS:=st.take st.atN
def RS.tkS (st:RS) (t:Txt):RS:=st.take (st.atS t)
def RS.thn (st:RS) (s:Stp):RS:={ st with later:=st.later++[s] }
def RS.once (st:RS) (w:Wd):RS:=st.thn ⟨1,w,0,0⟩
def RS.fail (st:RS) (p:Nat) (e:Int):RS:=if e=0 then st else st.give p e
def RS.cells (st:RS):RS:=(st.take (decide (st.hd.1=2))).fail st.hd.2.1 (rxA st.hd.2.2).2
def RS.full (st:RS) (b:Bool) (p:Nat):RS:=if b then st.give p 3 else st
def RS.addR (st:RS) (r:Rl):RS:={ st with rules:=st.rules++[r] }
def RS.addW (st:RS) (w:Wd) (sk:Bool):RS:=if sk then { st with skips:=st.skips++[w] } else { st with terms:=st.terms++[w] }
def RS.addN (st:RS) (t:Txt):RS:={ st with nonts:=st.nonts++[t] }
def RS.addO (st:RS) (w:Wd):RS:={ st with nons:=st.nons++[w] }
def RS.addP (st:RS):RS:={ st with prods:=st.prods++[st.nonts.length] }
def RS.rule2 (st:RS) (f w:Wd):RS:=
 ((((st.cells.tkS [59]).addR ⟨w.2.2,(rxA st.hd.2.2).1,decide (f.2.2=L_)⟩).addW w (decide (f.2.2=L_))).once w)
def RS.rule1 (st:RS):RS:=(st.take true).full (decide (st.rules.length=16)) st.hd.2.1
def RS.rule (st:RS):RS:=st.rule1.tkN.rule2 st.hd st.rule1.hd
def RS.lvd (st:RS) (p s:Nat):RS:=st.tkN.thn ⟨2,st.hd,p,s⟩
def RS.lvds (p s:Nat):Nat→RS→RS
 | 0,st=>st
 | n+1,st=>if st.atN then RS.lvds p s n (st.lvd p s) else st
def RS.lv1 (st:RS):RS:={ st with levels:=st.levels+1 }
def RS.level (st:RS):RS:=let s3:=(st.lv1.take true).lvd (st.levels+1) (sdN st.hd.2.2)
 (RS.lvds (st.levels+1) (sdN st.hd.2.2) s3.ws.length s3).tkS [59]
def RS.st1 (st:RS):RS:={ st with starts:=st.starts+1 }
def RS.start (st:RS):RS:=let s3:=(st.st1.take true).thn ⟨3,st.hd,if 1<st.starts+1 then 1 else 0,0⟩
 (s3.tkN.tkS [59]).thn ⟨4,s3.hd,0,0⟩
def RS.inA (st:RS):Bool:=st.atN || (st.atS [37] || (st.atS [124] || st.atS [59]))
def RS.symb (st:RS) (pr:Nat):RS:=st.tkN.thn ⟨5,st.hd,pr,0⟩
def RS.prec (st:RS) (pr:Nat):RS:=st.tkN.thn ⟨6,st.hd,pr,0⟩
def RS.syms (pr:Nat):Nat→Nat→RS→RS
 | 0,_,st=>st
 | f+1,n,st=>if st.atN then RS.syms pr f (n+1) ((st.full (decide (n=8)) st.hd.2.1).symb pr) else st
def RS.pct (st:RS) (pr:Nat):RS:=if st.atS [37] then (st.tkS [37]).prec pr else st
def RS.alt1 (st:RS):RS:=(st.full (decide (st.prods.length=40) && st.inA) st.hd.2.1).addP
def RS.alt (st:RS):RS:=(RS.syms st.prods.length st.alt1.ws.length 0 st.alt1).pct st.prods.length
def RS.alts:Nat→RS→RS
 | 0,st=>st
 | f+1,st=>if st.atS [124] then RS.alts f (st.tkS [124]).alt else st
def RS.nont1 (st:RS):RS:=(((((st.tkN.full (decide (st.nonts.length=16)) st.hd.2.1).tkS [58]).addN st.hd.2.2).addO st.hd).once st.hd).alt
def RS.nont (st:RS):RS:=(RS.alts st.nont1.ws.length st.nont1).tkS [59]
def RS.item (st:RS):RS:=if st.hd.1≠1 then st.give st.hd.2.1 1 else if st.hd.2.2=a8R∨st.hd.2.2=L_ then st.rule else if st.hd.2.2=a1w then st.start else if 0<sdN st.hd.2.2 then st.level else st.nont
def RS.items:Nat→RS→RS
 | 0,st=>st
 | f+1,st=>if st.err=0∧st.hd.1≠0 then RS.items f st.item else st
def RS.init (ws:List Wd):RS:=⟨ws,[],[],[],0,0,[],[],[],[],0,0⟩
abbrev Ow:=Nat×Nat×Nat
def b9l (o:Option Ow) (p t n:Nat):Ow:=match o with
 | none=>(p,t,n)
 | some (a,t',n')=>(if p<a then p else a,max t' t,max n' n)
def b1Q (M:Txt→Option Ow) (w:Wd) (t n:Nat):Txt→Option Ow:=fun x=>if x=w.2.2 then some (b9l (M x) w.2.1 t n) else M x
def a7y (k:Nat):List Wd→List (Wd×Nat×Nat)
 | []=>[]
 | w :: l=>(w,k+1,0) :: a7y (k+1) l
def a7x (k:Nat):List Wd→List (Wd×Nat×Nat)
 | []=>[]
 | w :: l=>(w,0,k+1) :: a7x (k+1) l
def RS.told (st:RS):List (Wd×Nat×Nat):=st.skips.map (fun w=>(w,0,0))++(a7y 0 st.terms++a7x st.terms.length st.nons)
def a4l (l:List (Wd×Nat×Nat)) (M:Txt→Option Ow):Txt→Option Ow:=l.foldl (fun M x=>b1Q M x.1 x.2.1 x.2.2) M
def RS.fnd (st:RS) (t:Txt):Ow:=(a4l st.told (fun _=>none) t).getD (0,0,0)
structure FS where
 levels:List (Int×Int)
 prods:List Pd
 start:Int
 pl:Nat
 err:Int
def U_ (l:List Pd) (k:Nat) (f:Pd→Pd):List Pd:=match l[k]? with
 | some p=>l.set k (f p)
 | none=>l
def a0c (F:Txt→Ow) (s:Stp) (f:FS):FS×Int:=
 if s.k=1 then (f,if (F s.w.2.2).1<s.w.2.1 then 6 else 0)
 else if s.k=2 then (if (F s.w.2.2).2.1=0 then (f,5) else if 0<(f.levels.getD (F s.w.2.2).2.1 (0,0)).1 then (f,6) else ({ f with levels:=f.levels.set (F s.w.2.2).2.1 ((s.a:Int),(s.b:Int)) },0))
 else if s.k=3 then (f,if s.a=0 then 0 else 6)
 else if s.k=4 then ({ f with start:=((F s.w.2.2).2.2:Int) },if (F s.w.2.2).2.2=0 then 5 else 0)
 else if s.k=5 then (if 0<(F s.w.2.2).2.1 then ({ f with prods:=U_ f.prods s.a fun p=>⟨p.left,p.right++[((F s.w.2.2).2.1:Int)],((F s.w.2.2).2.1:Int)⟩ },0) else if 0<(F s.w.2.2).2.2 then ({ f with prods:=U_ f.prods s.a fun p=>⟨p.left,p.right++[((F s.w.2.2).2.2:Int)],p.prec⟩ },0) else (f,5))
 else if (F s.w.2.2).2.1=0 then (f,5) else ({ f with prods:=U_ f.prods s.a fun p=>⟨p.left,p.right,((F s.w.2.2).2.1:Int)⟩ },0)
def FS.fail (f:FS) (p:Nat) (e:Int):FS:=if e=0 then f else { f with pl:=p,err:=e }
def a2j (F:Txt→Ow):List Stp→FS→FS
 | [],f=>f
 | s :: l,f=>if f.err≠0 then f else a2j F l ((a0c F s f).1.fail s.w.2.1 (a0c F s f).2)
def RS.trm (st:RS):Nat:=a3z st.rules st.rules.length
def RS.fs (st:RS):FS:=⟨List.replicate (st.trm+1) (0,0),st.prods.map fun (l:Nat)=>⟨(l:Int)+(st.trm:Int),[],0⟩,if 0<st.nonts.length then (st.trm:Int)+1 else 0,st.pl,st.err⟩
def RS.settle (st:RS):FS:=a2j st.fnd st.later st.fs
def wsE (s:Txt):List Wd:=(a0w s).1++[(0,s.length,[])]
def rdS (s:Txt):RS:=RS.items (wsE s).length (RS.init (wsE s))
def t_ (s:Txt):Gm:=⟨(rdS s).rules,(rdS s).nonts,(rdS s).settle.levels,(rdS s).settle.prods,(rdS s).settle.start⟩
def c0P (s:Txt):Nat×Int:=if (a0w s).2.2=0 then ((rdS s).settle.pl,(rdS s).settle.err) else (a0w s).2
def prs (s:Txt):Option Gm:=if (c0P s).2=0 then some (t_ s) else none
end Go.Proofs.YtjgedijclkoemaaGreatDoor
namespace Go.Proofs.YtjgedijclkoemaaGreatDoor
open Go.RowKit Go.Maps Go.Sort
abbrev a4W:Value:=.agg #[.string ⟨#[]⟩,.string ⟨#[108,101,102,116]⟩,.string ⟨#[114,105,103,104,116]⟩,.string ⟨#[110,111,110,101]⟩]
set_option maxRecDepth 20000 in
theorem c1l (w:World):Calls Tryz.prog 134 #[] w fun e w'=>e=.returned a4W∧Below w.heap.size w w':=by
 have hb:=hid (al' w (.cells #[.string ⟨#[]⟩,.string ⟨#[108,101,102,116]⟩,.string ⟨#[114,105,103,104,116]⟩,.string ⟨#[110,111,110,101]⟩] 190));go_enter Tryz.func134,Tryz.ntmps134
 go_wp2;refine bodyPost_ret (v:=a4W) (by simp [results,Tryz.results134,go_sem]) rfl ⟨rfl,?_⟩;exact hb.out
set_option maxRecDepth 20000 in
theorem ixS (w:World):(Instr.index 190 a4W (.int .i64 0)).run Tryz.prog w=.ok (.string ⟨#[]⟩) w∧(Instr.index 190 a4W (.int .i64 1)).run Tryz.prog w=.ok (.string ⟨#[108,101,102,116]⟩) w∧(Instr.index 190 a4W (.int .i64 2)).run Tryz.prog w=.ok (.string ⟨#[114,105,103,104,116]⟩) w∧(Instr.index 190 a4W (.int .i64 3)).run Tryz.prog w=.ok (.string ⟨#[110,111,110,101]⟩) w:=by
 refine ⟨?_,?_,?_,?_⟩
 all_goals
  simp [Instr.index,run_underlying Tryz.underlying190,asIntOf,go_sem,part,isAgg,run_underlying Tryz.underlying9]
theorem a1o {t u:Txt} (h:t=u):((e_ t).toList == u)=true:=by rw [h,Z_,beq_self_eq_true]
theorem a0r {t u:Txt} (h:¬ t=u):((e_ t).toList == u)=false:=by rw [Z_,beq_eq_false_iff_ne];exact h
theorem a5P {t u:Txt} (h:t=u):(u == (e_ t).toList)=true:=by rw [h,Z_,beq_self_eq_true]
theorem a2M {t u:Txt} (h:¬ t=u):(u == (e_ t).toList)=false:=by rw [Z_,beq_eq_false_iff_ne];exact fun e=>h e.symm
theorem b5v {t:Txt} (h:t=[]):(e_ t).toList.isEmpty=true:=by rw [h,Z_];rfl
theorem b2i {t:Txt} (h:¬ t=[]):(e_ t).toList.isEmpty=false:=by rw [Z_];cases t with | nil=>exact absurd rfl h | cons _ _=>rfl
set_option maxRecDepth 20000 in
set_option maxHeartbeats 4000000 in
theorem b8L (t:Txt) (w:World):Calls Tryz.prog 88 #[.string (e_ t)] w fun e w'=>e=.returned (.int .i64 (sdN t:Int))∧Below w.heap.size w w':=by
 have GC:=hid (c1l w);have hI:=hid (fun x=>ixS x);have h0:Hid (t=[]→sdN t=0):=hid (fun h=>by rw [h];rfl);have h1:Hid (t=a6s→sdN t=1):=hid (fun h=>by rw [h];rfl);have h2:Hid (t=a2s→sdN t=2):=hid (fun h=>by rw [h];rfl);have h3:Hid (t=a6r→sdN t=3):=hid (fun h=>by rw [h];rfl);have h4:Hid (¬ t=a6s→¬ t=a2s→¬ t=a6r→sdN t=0):=hid (fun a b c=>by unfold sdN;rw [if_neg a,if_neg b,if_neg c]);generalize sdN t=n at *;go_enter Tryz.func88,Tryz.ntmps88
 go_wp2_with (go_at_call 134;refine GC.out.mono ?_;clear GC;rintro e w2 ⟨rfl,hc2⟩;have hc2:=hid hc2)
 go_loopw [6] (fun x wr=>∃ k:Nat,k≤4∧x=.int .i64 (k:Int)∧Hid ((1<k→¬ t=a6s)∧(2<k→¬ t=a2s)∧(3<k→¬ t=a6r))∧Hid (Below w.heap.size w wr)) (fun x _=>4 - (intOf x).toNat)
 case atStart=>exact ⟨0,by omega,rfl,hid ⟨fun h=>absurd h (by omega),fun h=>absurd h (by omega),fun h=>absurd h (by omega)⟩,hc2⟩
 case round =>
  obtain ⟨k,hk,rfl,hn,hw⟩:=hrel;by_cases hlt:k<4
  · obtain ⟨i0,i1,i2,i3⟩:=hI.out wr
    have hk4:k=0∨k=1∨k=2∨k=3:=by omega
    rcases hk4 with rfl | rfl | rfl | rfl
    · clear i1 i2 i3
      by_cases ht:t=[]
      · have hb:=b5v ht
        have:=h0.out ht
        subst this;generalize e_ t=S at *;go_wp2;go_ret;exact ⟨rfl,hw.out⟩
      · have hb:=b2i ht
        have hs2:Hid (Below w.heap.size w wr):=hw;generalize e_ t=S at *;go_wp2;go_roundw
        case rel=>exact ⟨1,by omega,by go_num,hid ⟨fun h=>absurd h (by omega),fun h=>absurd h (by omega),fun h=>absurd h (by omega)⟩,hs2⟩
        case measure=>simp [intOf]
    · clear i0 i2 i3
      by_cases ht:t=a6s
      · have hb:(([108,101,102,116]:Txt) == (e_ t).toList)=true:=a5P ht
        have:=h1.out ht
        subst this;generalize e_ t=S at *;go_wp2;go_ret;exact ⟨rfl,hw.out⟩
      · have hb:(([108,101,102,116]:Txt) == (e_ t).toList)=false:=a2M ht
        have hs2:Hid (Below w.heap.size w wr):=hw;generalize e_ t=S at *;go_wp2;go_roundw
        case rel=>exact ⟨2,by omega,by go_num,hid ⟨fun _=>ht,fun h=>absurd h (by omega),fun h=>absurd h (by omega)⟩,hs2⟩
        case measure=>simp [intOf]
    · clear i0 i1 i3
      by_cases ht:t=a2s
      · have hb:(([114,105,103,104,116]:Txt) == (e_ t).toList)=true:=a5P ht
        have:=h2.out ht
        subst this;generalize e_ t=S at *;go_wp2;go_ret;exact ⟨rfl,hw.out⟩
      · have hb:(([114,105,103,104,116]:Txt) == (e_ t).toList)=false:=a2M ht
        have hs2:Hid (Below w.heap.size w wr):=hw;generalize e_ t=S at *;go_wp2;go_roundw
        case rel=>exact ⟨3,by omega,by go_num,hid ⟨fun _=>hn.out.1 (by omega),fun _=>ht,fun h=>absurd h (by omega)⟩,hs2⟩
        case measure=>simp [intOf]
    · clear i0 i1 i2
      by_cases ht:t=a6r
      · have hb:(([110,111,110,101]:Txt) == (e_ t).toList)=true:=a5P ht
        have:=h3.out ht
        subst this;generalize e_ t=S at *;go_wp2;go_ret;exact ⟨rfl,hw.out⟩
      · have hb:(([110,111,110,101]:Txt) == (e_ t).toList)=false:=a2M ht
        have hs2:Hid (Below w.heap.size w wr):=hw;generalize e_ t=S at *;go_wp2;go_roundw
        case rel=>exact ⟨4,by omega,by go_num,hid ⟨fun _=>hn.out.1 (by omega),fun _=>hn.out.2.1 (by omega),fun _=>ht⟩,hs2⟩
        case measure=>simp [intOf]
  · have:k=4:=by omega
    subst this
    have:=h4.out (hn.out.1 (by omega)) (hn.out.2.1 (by omega)) (hn.out.2.2 (by omega))
    subst this;go_wp2;go_ret;exact ⟨rfl,hw.out⟩
set_option maxRecDepth 20000 in
set_option maxHeartbeats 4000000 in
theorem b6J (t:Txt) (w:World):Calls Tryz.prog 173 #[.string (e_ t)] w fun e w'=>e=.returned (.bool (kwB t))∧Below w.heap.size w w':=by
 have GS:=hid (fun u=>b8L t u);obtain ⟨R,hR⟩:∃ R,Hid (kwB t=R):=⟨_,hid rfl⟩;rw [hR.out];unfold kwB at hR;generalize sdN t=n at *;by_cases h1:t=a8R
 · have hb1:((e_ t).toList == ([116,111,107,101,110]:Txt))=true:=a1o h1
   rw [decide_eq_true h1,Bool.true_or,Bool.true_or,Bool.true_or] at hR;obtain rfl:=hR.out;generalize e_ t=S at *;clear h1 hR;go_enter Tryz.func173,Tryz.ntmps173
   go_wp2_with fail
   go_ret;exact ⟨rfl,Below.refl _ _⟩
 have hb1:((e_ t).toList == ([116,111,107,101,110]:Txt))=false:=a0r h1;rw [decide_eq_false h1,Bool.false_or] at hR;by_cases h2:t=L_
 · have hb2:((e_ t).toList == ([115,107,105,112]:Txt))=true:=a1o h2
   rw [decide_eq_true h2,Bool.true_or,Bool.true_or] at hR;obtain rfl:=hR.out;generalize e_ t=S at *;clear h1 h2 hR;go_enter Tryz.func173,Tryz.ntmps173
   go_wp2_with fail
   go_ret;exact ⟨rfl,Below.refl _ _⟩
 have hb2:((e_ t).toList == ([115,107,105,112]:Txt))=false:=a0r h2;rw [decide_eq_false h2,Bool.false_or] at hR;by_cases h3:t=a1w
 · have hb3:((e_ t).toList == ([115,116,97,114,116]:Txt))=true:=a1o h3
   rw [decide_eq_true h3,Bool.true_or] at hR;obtain rfl:=hR.out;generalize e_ t=S at *;clear h1 h2 h3 hR;go_enter Tryz.func173,Tryz.ntmps173
   go_wp2_with fail
   go_ret;exact ⟨rfl,Below.refl _ _⟩
 have hb3:((e_ t).toList == ([115,116,97,114,116]:Txt))=false:=a0r h3;rw [decide_eq_false h3,Bool.false_or] at hR;clear h1 h2 h3;generalize e_ t=S at *;rcases Nat.eq_zero_or_pos n with h4 | h4
 · subst h4
   obtain rfl:false=R:=hR.out;clear hR;go_enter Tryz.func173,Tryz.ntmps173
   go_wp2_with (go_at_call 88;refine (GS.out _).mono ?_;clear GS;rintro e w2 ⟨rfl,hc2⟩;have hc2:=hid hc2)
   go_ret;exact ⟨rfl,hc2.out⟩
 · rw [decide_eq_true h4] at hR
   obtain rfl:=hR.out;clear hR;have h4z:(0:Int)<(n:Int):=by omega
   go_enter Tryz.func173,Tryz.ntmps173
   go_wp2_with (go_at_call 88;refine (GS.out _).mono ?_;clear GS;rintro e w2 ⟨rfl,hc2⟩;have hc2:=hid hc2)
   go_ret;exact ⟨by simp,hc2.out⟩
structure Chg (T T':Nat→Nat) (w w':World):Prop where
 kept:Kept (fun b=>T b≠0∧T b≠77) w w'
 tag:∀ b,b<w.heap.size→T' b=T b
structure Sft (T T':Nat→Nat) (w w':World):Prop where
 kept:Kept (fun b=>T b≠0) w w'
 tag:∀ b,b<w.heap.size→T' b=T b
theorem Chg.sft {T T':Nat→Nat} {w w':World} (h:Chg T T' w w'):Sft T T' w w':=⟨h.kept.mono (fun _ _ h=>h.1),h.tag⟩
theorem Sft.of_kept {F:Nat→Prop} {T:Nat→Nat} {w w':World} (h:Kept F w w') (hF:∀ b,F b→T b≠0):Sft T T w w':=⟨h.mono (fun k _ h=>hF k h),fun _ _=>rfl⟩
theorem Chg.refl (T:Nat→Nat) (w:World):Chg T T w w:=⟨Kept.refl _ _,fun _ _=>rfl⟩
theorem Chg.trans {T T' T'':Nat→Nat} {w u v:World} (h:Chg T T' w u) (h2:Chg T' T'' u v):Chg T T'' w v:=
 ⟨h.kept.step h2.kept (fun k hk hn=>by rw [h.tag k hk] at hn;exact hn),fun b hb=>(h2.tag b (Nat.lt_of_lt_of_le hb h.kept.size)).trans (h.tag b hb)⟩
theorem Chg.of_below {T:Nat→Nat} {w w':World} (h:Below w.heap.size w w'):Chg T T w w':=⟨Kept.of_below h,fun _ _=>rfl⟩
def Im (T:Nat→Nat) (w:World) (b:Nat) (o:Obj):Prop:=T b=0∧w.heap[b]?=some o
theorem Im.sft {T T':Nat→Nat} {w w':World} {b:Nat} {o:Obj} (h:Im T w b o) (hc:Sft T T' w w'):Im T' w' b o:=by
 have hb:=u_ h.2;exact ⟨(hc.tag b hb).trans h.1,(hc.kept.block b hb (fun hn=>hn h.1)).trans h.2⟩
theorem Im.cell {T:Nat→Nat} {w:World} {b o:Nat} {cs:Array Value} {t:TypeId} {v:Value} (h:Im T w b (.cells cs t (0,0))) (hv:cs[o]?=some v):w.cell? ⟨b,o,none⟩=some v:=c_ h.2 hv
def OwnI (w:World) (B:Nat) (T:Nat→Nat) (i:Nat) (te:TypeId) (sz:Nat) (v:Value) (n:Nat) (xs:List Value):Prop:=w.ownsRow B te sz v n xs∧∀ b,v.ownBlock=some b→T b=i
theorem OwnI.kept {w w':World} {B i sz n:Nat} {T T':Nat→Nat} {te:TypeId} {v:Value} {xs:List Value} {F:Nat→Prop} (h:OwnI w B T i te sz v n xs) (hk:Kept F w w') (hF:∀ b,F b→T b≠i) (ht:∀ b,b<w.heap.size→T' b=T b):OwnI w' B T' i te sz v n xs:=
 ⟨a0Y h.1 hk (fun k e hf=>hF k hf (h.2 k e)),fun b e=>(ht b (h.1.lt b e).2).trans (h.2 b e)⟩
def Wd3 (w:World) (b o:Nat) (x:Wd):Prop:=w.cell? ⟨b,o,none⟩=some (.int .i64 (x.1:Int))∧w.cell? ⟨b,o+1,none⟩=some (.int .i64 (x.2.1:Int))∧w.cell? ⟨b,o+2,none⟩=some (.string (e_ x.2.2))
def WsV (T:Nat→Nat) (w:World) (v:Value) (ws:List Wd):Prop:=∃ b o cap,v=.slice (some ⟨b,o,none⟩) ws.length cap∧ws.length≤cap∧T b=0∧b<w.heap.size∧∀ j (h:j<ws.length),Wd3 w b (o+j * 3) ws[j]
theorem WsV.sft {T T':Nat→Nat} {w w':World} {v:Value} {ws:List Wd} (h:WsV T w v ws) (hc:Sft T T' w w'):WsV T' w' v ws:=by
 obtain ⟨b,o,cap,e,h1,h2,h3,h4⟩:=h;refine ⟨b,o,cap,e,h1,(hc.tag b h3).trans h2,Nat.lt_of_lt_of_le h3 hc.kept.size,fun j hj=>?_⟩;obtain ⟨x0,x1,x2⟩:=h4 j hj;exact ⟨hc.kept.cell x0 h3 (fun hn=>hn h2),hc.kept.cell x1 h3 (fun hn=>hn h2),hc.kept.cell x2 h3 (fun hn=>hn h2)⟩
def ImC (T:Nat→Nat) (w:World) (v:Value) (l:List Cel):Prop:=Cels w v l∧OffP (fun b=>T b≠0) v
theorem ImC.sft {T T':Nat→Nat} {w w':World} {v:Value} {l:List Cel} (h:ImC T w v l) (hc:Sft T T' w w'):ImC T' w' v l:=by
 refine ⟨h.1.keptP hc.kept h.2,fun a n c e hn hf=>?_⟩;refine h.2 a n c e hn ?_;obtain ⟨a',cap,e',_,_,_,hat⟩:=h.1;rw [e] at e';injection e' with e1 e2 e3;subst e2;obtain ⟨b,o,e4,hlt,_⟩:=hat 0 hn;rw [e4] at e1;injection e1 with e1;subst e1;exact fun hz=>hf ((hc.tag b hlt).trans hz)
def RuC (T:Nat→Nat) (w:World) (er:Int) (v:Value) (l:List Cel):Prop:=(∃ a m c,v=.slice a m c)∧(er=0→ImC T w v l)
theorem RuC.sft {T T':Nat→Nat} {w w':World} {er:Int} {v:Value} {l:List Cel} (h:RuC T w er v l) (hc:Sft T T' w w'):RuC T' w' er v l:=⟨h.1,fun e=>(h.2 e).sft hc⟩
theorem RuC.err {T:Nat→Nat} {w:World} {er er':Int} {v:Value} {l:List Cel} (h:RuC T w er v l) (he:er'=0→er=0):RuC T w er' v l:=⟨h.1,fun e=>h.2 (he e)⟩
abbrev a3a (rb:Nat):Obj:=.cells #[.pointer (some ⟨rb,0,none⟩)] 128
abbrev s_ (x:Wd):Obj:=.cells #[.int .i64 (x.1:Int),.int .i64 (x.2.1:Int),.string (e_ x.2.2)] 90
abbrev b8s (n:Nat):Obj:=.cells #[.int .i64 (n:Int)] 3
abbrev a8f (p s:Nat):Obj:=.cells #[.int .i64 (p:Int),.int .i64 (s:Int)] 143
abbrev c2T (b:Bool):Obj:=.cells #[.bool b] 4
abbrev r_ (b:Nat):Value:=.pointer (some ⟨b,0,none⟩)
def StpV (T:Nat→Nat) (w:World) (rb:Nat) (v:Value) (s:Stp):Prop:=
 (s.k=1∧∃ p q,v=.func (.func 169) #[] #[r_ p,r_ q]∧Im T w p (a3a rb)∧Im T w q (s_ s.w)) ∨
 (s.k=2∧∃ p q l,v=.func (.func 172) #[] #[r_ p,r_ q,r_ l]∧Im T w p (a3a rb)∧Im T w q (s_ s.w)∧Im T w l (a8f s.a s.b)) ∨
 (s.k=3∧∃ l,v=.func (.func 131) #[] #[r_ l]∧Im T w l (c2T (decide (s.a≠0)))) ∨
 (s.k=4∧∃ p q,v=.func (.func 132) #[] #[r_ p,r_ q]∧Im T w p (a3a rb)∧Im T w q (s_ s.w)) ∨
 (s.k=5∧∃ p l q,v=.func (.func 196) #[] #[r_ p,r_ l,r_ q]∧Im T w p (a3a rb)∧Im T w q (s_ s.w)∧Im T w l (b8s s.a)) ∨
 (s.k=6∧∃ p q l,v=.func (.func 197) #[] #[r_ p,r_ q,r_ l]∧Im T w p (a3a rb)∧Im T w q (s_ s.w)∧Im T w l (b8s s.a))
theorem StpV.sft {T T':Nat→Nat} {w w':World} {rb:Nat} {v:Value} {s:Stp} (h:StpV T w rb v s) (hc:Sft T T' w w'):StpV T' w' rb v s:=by
 rcases h with ⟨h,p,q,e,h1,h2⟩ | ⟨h,p,q,l,e,h1,h2,h3⟩ | ⟨h,l,e,h3⟩ | ⟨h,p,q,e,h1,h2⟩ | ⟨h,p,l,q,e,h1,h2,h3⟩ | ⟨h,p,q,l,e,h1,h2,h3⟩
 · exact .inl ⟨h,p,q,e,h1.sft hc,h2.sft hc⟩
 · exact .inr (.inl ⟨h,p,q,l,e,h1.sft hc,h2.sft hc,h3.sft hc⟩)
 · exact .inr (.inr (.inl ⟨h,l,e,h3.sft hc⟩))
 · exact .inr (.inr (.inr (.inl ⟨h,p,q,e,h1.sft hc,h2.sft hc⟩)))
 · exact .inr (.inr (.inr (.inr (.inl ⟨h,p,l,q,e,h1.sft hc,h2.sft hc,h3.sft hc⟩))))
 · exact .inr (.inr (.inr (.inr (.inr ⟨h,p,q,l,e,h1.sft hc,h2.sft hc,h3.sft hc⟩))))
theorem Im.keep {T T':Nat→Nat} {w w':World} {b:Nat} {o:Obj} (h:Im T w b o) (hc:Chg T T' w w'):Im T' w' b o:=h.sft hc.sft
theorem WsV.keep {T T':Nat→Nat} {w w':World} {v:Value} {ws:List Wd} (h:WsV T w v ws) (hc:Chg T T' w w'):WsV T' w' v ws:=h.sft hc.sft
theorem ImC.keep {T T':Nat→Nat} {w w':World} {v:Value} {l:List Cel} (h:ImC T w v l) (hc:Chg T T' w w'):ImC T' w' v l:=h.sft hc.sft
theorem RuC.keep {T T':Nat→Nat} {w w':World} {er:Int} {v:Value} {l:List Cel} (h:RuC T w er v l) (hc:Chg T T' w w'):RuC T' w' er v l:=h.sft hc.sft
theorem StpV.keep {T T':Nat→Nat} {w w':World} {rb:Nat} {v:Value} {s:Stp} (h:StpV T w rb v s) (hc:Chg T T' w w'):StpV T' w' rb v s:=h.sft hc.sft
theorem StpV.oneCell {T:Nat→Nat} {w:World} {rb:Nat} {v:Value} {s:Stp} (h:StpV T w rb v s):v.oneCell'=true:=by
 rcases h with ⟨_,p,q,rfl,_⟩ | ⟨_,p,q,l,rfl,_⟩ | ⟨_,l,rfl,_⟩ | ⟨_,p,q,rfl,_⟩ | ⟨_,p,l,q,rfl,_⟩ | ⟨_,p,q,l,rfl,_⟩ <;> rfl
structure RX where
 wv:Value
 rv:Value
 nv:Value
 pv:Value
 sk:Value
 te:Value
 no:Value
 la:Value
 rl:List Value
 fl:List Value
abbrev rdO (X:RX) (lc sc:Nat) (pl:Nat) (er:Int):Obj:=.cells #[X.wv,X.rv,X.nv,.slice none 0 0,X.pv,.int .i64 0,.int .i64 (lc:Int),.int .i64 (sc:Int),X.sk,X.te,X.no,.int .u32 0,.int .i32 0,.int .u32 0,.map none,X.la,.int .i64 (pl:Int),.int .i64 er] 108
def rlV (r:Rl) (v:Value):List Value:=[.string (e_ r.name),v,.bool r.skip]
def pdV (l:Nat):List Value:=[.int .i64 (l:Int),.slice none 0 0,.int .i64 0]
def spV (s:Stp) (v:Value):List Value:=[.int .i64 (s.w.2.1:Int),v]
def Endd (ws:List Wd):Prop:=∃ l p,ws=l++[(0,p,[])]
theorem Endd.ne {ws:List Wd} (h:Endd ws):ws≠[]:=by obtain ⟨l,p,rfl⟩:=h;simp
theorem Endd.two {ws:List Wd} (h:Endd ws) (hk:(ws.headD (0,0,[])).1≠0):2≤ws.length:=by
 obtain ⟨l,p,rfl⟩:=h;cases l with
 | nil=>exact absurd rfl hk
 | cons a l=>rw [List.length_append,List.length_cons,List.length_singleton];omega
theorem Endd.tail {ws:List Wd} (h:Endd ws) (h2:2≤ws.length):Endd ws.tail:=by
 obtain ⟨l,p,rfl⟩:=h;cases l with
 | nil=>simp at h2
 | cons a l=>exact ⟨l,p,rfl⟩
structure RdV (B:Nat) (T:Nat→Nat) (w:World) (rb:Nat) (X:RX) (st:RS):Prop where
 blk:w.heap[rb]?=some (rdO X st.levels st.starts st.pl st.err)
 rt:T rb=99
 own:∀ b,T b≠0→B≤b∧b<w.heap.size
 base:B≤w.heap.size
 words:WsV T w X.wv st.ws
 wf:Endd st.ws
 rules:OwnI w B T 1 62 3 X.rv st.rules.length ((st.rules.zip X.rl).flatMap fun x=>rlV x.1 x.2)
 rlen:X.rl.length=st.rules.length
 rre:∀ x∈st.rules.zip X.rl,RuC T w st.err x.2 x.1.re
 nonts:OwnI w B T 2 9 1 X.nv st.nonts.length (st.nonts.flatMap csT)
 prods:OwnI w B T 4 64 3 X.pv st.prods.length (st.prods.flatMap pdV)
 skips:OwnI w B T 8 90 3 X.sk st.skips.length (st.skips.flatMap wdV)
 terms:OwnI w B T 9 90 3 X.te st.terms.length (st.terms.flatMap wdV)
 nons:OwnI w B T 10 90 3 X.no st.nons.length (st.nons.flatMap wdV)
 later:OwnI w B T 15 131 2 X.la st.later.length ((st.later.zip X.fl).flatMap fun x=>spV x.1 x.2)
 flen:X.fl.length=st.later.length
 fst:∀ x∈st.later.zip X.fl,StpV T w rb x.2 x.1
theorem RdV.keep {B rb:Nat} {T:Nat→Nat} {w w':World} {X:RX} {st:RS} (h:RdV B T w rb X st) (hb:Below w.heap.size w w'):RdV B T w' rb X st:=by
 have hk:Kept (fun _=>False) w w':=Kept.of_below hb;have hc:Chg T T w w':=Chg.of_below hb;have ht:∀ b,b<w.heap.size→T b=T b:=fun _ _=>rfl
 have hF:∀ i b,False→T b≠i:=fun _ _ h=>h.elim
 exact ⟨g_ h.blk hb,h.rt,fun b hn=>⟨(h.own b hn).1,Nat.lt_of_lt_of_le (h.own b hn).2 hb.size⟩,Nat.le_trans h.base hb.size,h.words.keep hc,h.wf,h.rules.kept hk (hF 1) ht,h.rlen,fun x hx=>(h.rre x hx).keep hc,h.nonts.kept hk (hF 2) ht,h.prods.kept hk (hF 4) ht,h.skips.kept hk (hF 8) ht,h.terms.kept hk (hF 9) ht,h.nons.kept hk (hF 10) ht,h.later.kept hk (hF 15) ht,h.flen,fun x hx=>(h.fst x hx).keep hc⟩
theorem RdV.fresh {B rb b:Nat} {T:Nat→Nat} {w:World} {X:RX} {st:RS} (h:RdV B T w rb X st) (hb:w.heap.size≤b):T b=0:=by
 rcases Nat.eq_zero_or_pos (T b) with h1 | h1
 · exact h1
 · have:=(h.own b (by omega)).2
   omega
theorem RdV.put {B rb:Nat} {T:Nat→Nat} {w F:World} {X X':RX} {st st':RS} (h:RdV B T w rb X st) (hk:Kept (fun b=>b=rb∨T b=77) w F)
 (hblk:F.heap[rb]?=some (rdO X' st'.levels st'.starts st'.pl st'.err)) (hws:WsV T F X'.wv st'.ws) (hwf:Endd st'.ws)
 (e1:st'.rules=st.rules) (e2:st'.nonts=st.nonts) (e3:st'.prods=st.prods) (e4:st'.skips=st.skips) (e5:st'.terms=st.terms) (e6:st'.nons=st.nons) (e7:st'.later=st.later) (e8:st'.err=0→st.err=0)
 (f1:X'.rv=X.rv) (f2:X'.nv=X.nv) (f3:X'.pv=X.pv) (f4:X'.sk=X.sk) (f5:X'.te=X.te) (f6:X'.no=X.no) (f7:X'.la=X.la) (f8:X'.rl=X.rl) (f9:X'.fl=X.fl) :
 RdV B T F rb X' st':=by
 have hc:Sft T T w F:=Sft.of_kept hk (fun b e=>by rcases e with e | e <;> rw [e] <;> (try rw [h.rt]) <;> decide);have ht:∀ b,b<w.heap.size→T b=T b:=fun _ _=>rfl
 have hF:∀ i,i≠99→i≠77→∀ b,b=rb∨T b=77→T b≠i:=fun i hi hj b e=>by
  rcases e with e | e
  · rw [e,h.rt];exact hi.symm
  · rw [e];exact hj.symm
 refine ⟨hblk,h.rt,fun b hn=>⟨(h.own b hn).1,Nat.lt_of_lt_of_le (h.own b hn).2 hk.size⟩,Nat.le_trans h.base hk.size,hws,hwf,?_,?_,?_,?_,?_,?_,?_,?_,?_,?_,?_⟩
 · rw [e1,f1,f8];exact h.rules.kept hk (hF 1 (by decide) (by decide)) ht
 · rw [e1,f8];exact h.rlen
 · rw [e1,f8];exact fun x hx=>((h.rre x hx).sft hc).err e8
 · rw [e2,f2];exact h.nonts.kept hk (hF 2 (by decide) (by decide)) ht
 · rw [e3,f3];exact h.prods.kept hk (hF 4 (by decide) (by decide)) ht
 · rw [e4,f4];exact h.skips.kept hk (hF 8 (by decide) (by decide)) ht
 · rw [e5,f5];exact h.terms.kept hk (hF 9 (by decide) (by decide)) ht
 · rw [e6,f6];exact h.nons.kept hk (hF 10 (by decide) (by decide)) ht
 · rw [e7,f7,f9];exact h.later.kept hk (hF 15 (by decide) (by decide)) ht
 · rw [e7,f9];exact h.flen
 · rw [e7,f9];exact fun x hx=>(h.fst x hx).sft hc
theorem OwnI.mv {w w':World} {B i sz n:Nat} {T T':Nat→Nat} {te:TypeId} {v:Value} {xs:List Value} (h:OwnI w B T i te sz v n xs) (hk:Kept (fun b=>T b=77) w w') (hi:i≠77) (ht:∀ b,b<w.heap.size→T b≠77→T' b=T b):OwnI w' B T' i te sz v n xs:=
 ⟨a0Y h.1 hk (fun k e hf=>hi ((h.2 k e).symm.trans hf)),fun b e=>(ht b (h.1.lt b e).2 (by rw [h.2 b e];exact hi)).trans (h.2 b e)⟩
theorem Im.mv {T T':Nat→Nat} {w w':World} {b:Nat} {o:Obj} (h:Im T w b o) (hk:Kept (fun b=>T b=77) w w') (ht:∀ b,b<w.heap.size→T b≠77→T' b=T b):Im T' w' b o:=by
 have hb:=u_ h.2;have h7:T b≠77:=by rw [h.1];decide
 exact ⟨(ht b hb h7).trans h.1,(hk.block b hb h7).trans h.2⟩
theorem StpV.mv {T T':Nat→Nat} {w w':World} {rb:Nat} {v:Value} {s:Stp} (h:StpV T w rb v s) (hk:Kept (fun b=>T b=77) w w') (ht:∀ b,b<w.heap.size→T b≠77→T' b=T b):StpV T' w' rb v s:=by
 rcases h with ⟨h,p,q,e,h1,h2⟩ | ⟨h,p,q,l,e,h1,h2,h3⟩ | ⟨h,l,e,h3⟩ | ⟨h,p,q,e,h1,h2⟩ | ⟨h,p,l,q,e,h1,h2,h3⟩ | ⟨h,p,q,l,e,h1,h2,h3⟩
 · exact .inl ⟨h,p,q,e,h1.mv hk ht,h2.mv hk ht⟩
 · exact .inr (.inl ⟨h,p,q,l,e,h1.mv hk ht,h2.mv hk ht,h3.mv hk ht⟩)
 · exact .inr (.inr (.inl ⟨h,l,e,h3.mv hk ht⟩))
 · exact .inr (.inr (.inr (.inl ⟨h,p,q,e,h1.mv hk ht,h2.mv hk ht⟩)))
 · exact .inr (.inr (.inr (.inr (.inl ⟨h,p,l,q,e,h1.mv hk ht,h2.mv hk ht,h3.mv hk ht⟩))))
 · exact .inr (.inr (.inr (.inr (.inr ⟨h,p,q,l,e,h1.mv hk ht,h2.mv hk ht,h3.mv hk ht⟩))))
theorem ImC.mv {T T':Nat→Nat} {w w':World} {v:Value} {l:List Cel} (h:ImC T w v l) (hk:Kept (fun b=>T b=77) w w') (ht:∀ b,b<w.heap.size→T b≠77→T' b=T b):ImC T' w' v l:=by
 refine ⟨h.1.keptP hk (fun a n c e hn hf=>h.2 a n c e hn (by show T a.block≠0;rw [hf];decide)),fun a n c e hn hf=>?_⟩;have h0:=h.2 a n c e hn;obtain ⟨a',cap,e',_,_,_,hat⟩:=h.1;rw [e] at e';injection e' with e1 e2 e3;subst e2;obtain ⟨b,o,e4,hlt,_⟩:=hat 0 hn;rw [e4] at e1;injection e1 with e1;subst e1
 have hz:T b=0:=by
  rcases Nat.eq_zero_or_pos (T b) with h9 | h9
  · exact h9
  · exact absurd (show T b≠0 by omega) h0
 exact hf ((ht b hlt (by rw [hz];decide)).trans hz)
theorem RuC.mv {T T':Nat→Nat} {w w':World} {er:Int} {v:Value} {l:List Cel} (h:RuC T w er v l) (hk:Kept (fun b=>T b=77) w w') (ht:∀ b,b<w.heap.size→T b≠77→T' b=T b):RuC T' w' er v l:=⟨h.1,fun e=>(h.2 e).mv hk ht⟩
theorem RdV.mv {B rb:Nat} {T T':Nat→Nat} {w F:World} {X:RX} {st:RS} (h:RdV B T w rb X st) (hk:Kept (fun b=>T b=77) w F) (ht:∀ b,b<w.heap.size→T b≠77→T' b=T b) (ho:∀ b,T' b≠0→B≤b∧b<F.heap.size):RdV B T' F rb X st:=by
 have hr:=u_ h.blk;have h7:T rb≠77:=by rw [h.rt];decide
 refine ⟨hk.blk h.blk h7,(ht rb hr h7).trans h.rt,ho,Nat.le_trans h.base hk.size,?_,h.wf,h.rules.mv hk (by decide) ht,h.rlen,fun x hx=>(h.rre x hx).mv hk ht,h.nonts.mv hk (by decide) ht,h.prods.mv hk (by decide) ht,h.skips.mv hk (by decide) ht,h.terms.mv hk (by decide) ht,h.nons.mv hk (by decide) ht,h.later.mv hk (by decide) ht,h.flen,fun x hx=>(h.fst x hx).mv hk ht⟩;obtain ⟨b,o,cap,e,h1,h2,h3,h4⟩:=h.words;have h8:T b≠77:=by rw [h2];decide
 refine ⟨b,o,cap,e,h1,(ht b h3 h8).trans h2,Nat.lt_of_lt_of_le h3 hk.size,fun j hj=>?_⟩;obtain ⟨x0,x1,x2⟩:=h4 j hj;exact ⟨hk.cell x0 h3 h8,hk.cell x1 h3 h8,hk.cell x2 h3 h8⟩
def a0x (T:Nat→Nat) (q i:Nat):Nat→Nat:=fun b=>if b=q then i else T b
theorem RdV.aside {B rb q:Nat} {T:Nat→Nat} {w F:World} {X:RX} {st:RS} (h:RdV B T w rb X st) (hb:Below w.heap.size w F) (h1:w.heap.size≤q) (h2:q<F.heap.size):RdV B (a0x T q 77) F rb X st∧Chg T (a0x T q 77) w F:=by
 have ht:∀ b,b<w.heap.size→a0x T q 77 b=T b:=fun b hb9=>if_neg (by omega)
 refine ⟨h.mv (Kept.of_below hb) (fun b hb9 _=>ht b hb9) (fun b hn=>?_),Kept.of_below hb,ht⟩;unfold a0x at hn;split at hn
 · rename_i e;subst e;exact ⟨Nat.le_trans h.base h1,h2⟩
 · exact ⟨(h.own b hn).1,Nat.lt_of_lt_of_le (h.own b hn).2 hb.size⟩
theorem RdV.wrote {B rb q:Nat} {T:Nat→Nat} {w F:World} {X:RX} {st:RS} (h:RdV B (a0x T q 77) w rb X st) (hk:Kept (f_ q) w F) (h0:T q=0):RdV B T F rb X st:=by
 have hq:a0x T q 77 q=77:=if_pos rfl;refine h.mv (hk.mono (fun b _ e=>by rw [show b=q from e,hq])) (fun b _ h7=>?_) (fun b hn=>?_)
 · have:b≠q:=fun e=>h7 (by rw [e,hq])
   exact (if_neg this).symm
 · have hb:b≠q:=fun e=>hn (by rw [e,h0])
   have e9:a0x T q 77 b=T b:=if_neg hb
   have:=h.own b (by rw [e9];exact hn)
   exact ⟨this.1,Nat.lt_of_lt_of_le this.2 hk.size⟩
theorem RdV.chg1 {B rb:Nat} {T:Nat→Nat} {w F:World} {X:RX} {st:RS} (h:RdV B T w rb X st) (hk:Kept (f_ rb) w F):Chg T T w F:=
 ⟨hk.mono (fun k _ e=>by rw [show k=rb from e,h.rt];decide),fun _ _=>rfl⟩
theorem RdV.ws1 {B rb:Nat} {T:Nat→Nat} {w F:World} {X:RX} {st:RS} (h:RdV B T w rb X st) (hk:Kept (f_ rb) w F):WsV T F X.wv st.ws:=h.words.keep (h.chg1 hk)
def RdP (B:Nat) (T:Nat→Nat) (w:World) (rb:Nat) (st:RS) (w':World):Prop:=∃ T' X',RdV B T' w' rb X' st∧Chg T T' w w'
theorem c0N {w:World} {b:Nat} {x0 x1 x2 x3 x4 x5 x6 x7 x8 x9 x10 x11 x12 x13 x14 x15 x16 x17:Value} {T:TypeId} (h:w.heap[b]?=some (.cells #[x0,x1,x2,x3,x4,x5,x6,x7,x8,x9,x10,x11,x12,x13,x14,x15,x16,x17] T (0,0))) :
 w.cell? ⟨b,0,none⟩=some x0∧w.cell? ⟨b,1,none⟩=some x1∧w.cell? ⟨b,2,none⟩=some x2∧w.cell? ⟨b,3,none⟩=some x3∧w.cell? ⟨b,4,none⟩=some x4∧w.cell? ⟨b,5,none⟩=some x5∧w.cell? ⟨b,6,none⟩=some x6∧w.cell? ⟨b,7,none⟩=some x7∧w.cell? ⟨b,8,none⟩=some x8∧w.cell? ⟨b,9,none⟩=some x9∧w.cell? ⟨b,10,none⟩=some x10∧w.cell? ⟨b,15,none⟩=some x15∧w.cell? ⟨b,16,none⟩=some x16∧w.cell? ⟨b,17,none⟩=some x17:=
 ⟨c_ h rfl,c_ h rfl,c_ h rfl,c_ h rfl,c_ h rfl,c_ h rfl,c_ h rfl,c_ h rfl,c_ h rfl,c_ h rfl,c_ h rfl,c_ h rfl,c_ h rfl,c_ h rfl⟩
end Go.Proofs.YtjgedijclkoemaaGreatDoor
