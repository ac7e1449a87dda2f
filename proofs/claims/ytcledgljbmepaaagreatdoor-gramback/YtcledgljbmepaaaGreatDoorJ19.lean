/- The reader: level. regex.Parse: its cells are new memory. The reader: cells. The reader: rule. -/
import Derived.Test.YtcledgljbmepaaaGreatDoorJ18
import Derived.Test.YtcledgljbmepaaaGreatDoorJ17
namespace Go.Proofs.YtcledgljbmepaaaGreatDoor
open Go.RowKit Go.Maps Go.Sort

/-- what comes behind a region, in whatever order it was gone through -/
theorem collapse2 {R F : World → Nat → Prop} {G : Prop} (h : (∀ V q, F V q → R V q) → G) (pf : ∀ V q, F V q → R V q) : G := h pf
/-- how many words are left -/
def wsN (w : World) (rb : Nat) : Nat := match w.cell? ⟨rb, 0, none⟩ with
  | some (.slice _ n _) => n
  | _ => 0
theorem RdV.wsN {B rb : Nat} {T : Nat → Nat} {w : World} {X : RX} {st : RS} (h : RdV B T w rb X st) : wsN w rb = st.ws.length := by
  obtain ⟨b, o, cap, e, -⟩ := h.words
  have h0 := (rd18 h.blk).1
  unfold Go.Proofs.YtcledgljbmepaaaGreatDoor.wsN
  rw [h0, e]
theorem RS.tkN_ws {st : RS} (h : st.atN = true) : st.tkN.ws = st.ws.tail := by unfold RS.tkN RS.take; rw [h, if_pos rfl]
theorem RS.tkS_ws {st : RS} {t : Txt} (h : st.atS t = true) : (st.tkS t).ws = st.ws.tail := by unfold RS.tkS RS.take; rw [h, if_pos rfl]
theorem lvds_yes {p s : Nat} {st : RS} (h : st.atN = true) (hn : st.ws ≠ []) : RS.lvds p s st.ws.length st = RS.lvds p s (st.lvd p s).ws.length (st.lvd p s) := by
  have e : (st.lvd p s).ws = st.ws.tail := RS.tkN_ws h
  rw [e]
  cases hw : st.ws with
  | nil => exact absurd hw hn
  | cons x l => rw [List.length_cons, RS.lvds, h, if_pos rfl]; rfl
theorem lvds_no {p s : Nat} {st : RS} (h : st.atN = false) : RS.lvds p s st.ws.length st = st := by
  cases st.ws.length with
  | zero => rfl
  | succ n => rw [RS.lvds, h]; rfl
abbrev boxZ : Obj := .cells #[.int .i64 0, .int .i64 0] 71
/-- a box that is laid ahead and stored into behind -/
theorem RdV.boxed {B rb : Nat} {T : Nat → Nat} {u u2 : World} {X : RX} {st : RS} (hr : RdV B T u rb X st) (hu : Below (u.alloc boxZ).heap.size (u.alloc boxZ) u2) (p s : Nat) :
    RdV B T ((u2.setCell ⟨u.heap.size, 0, none⟩ (.int .i64 (p : Int))).setCell ⟨u.heap.size, 1, none⟩ (.int .i64 (s : Int))) rb X st ∧ Chg T T u ((u2.setCell ⟨u.heap.size, 0, none⟩ (.int .i64 (p : Int))).setCell ⟨u.heap.size, 1, none⟩ (.int .i64 (s : Int))) ∧ Im T ((u2.setCell ⟨u.heap.size, 0, none⟩ (.int .i64 (p : Int))).setCell ⟨u.heap.size, 1, none⟩ (.int .i64 (s : Int))) u.heap.size (boxL p s) := by
  have hal := al' u boxZ
  have hz : u.heap.size < (u.alloc boxZ).heap.size := by rw [World.size_alloc]; omega
  have hF : Kept (oneBlk u.heap.size) u2 ((u2.setCell ⟨u.heap.size, 0, none⟩ (.int .i64 (p : Int))).setCell ⟨u.heap.size, 1, none⟩ (.int .i64 (s : Int))) := ((Kept.refl (oneBlk u.heap.size) u2).setCell (a := ⟨u.heap.size, 0, none⟩) (fun _ => rfl)).setCell (a := ⟨u.heap.size, 1, none⟩) (fun _ => rfl)
  have h0 := hr.fresh (Nat.le_refl _)
  refine ⟨(((hr.aside hal (Nat.le_refl _) hz).1.keep hu).wrote hF h0), ⟨((Kept.of_below (bl_step hal hu)).step hF (fun k hk e => absurd hk (by rw [show k = u.heap.size from e]; exact Nat.lt_irrefl _))), fun _ _ => rfl⟩, h0, ?_⟩
  exact heap_setCell (heap_setCell (hs_keep (heap_new u boxZ) hu))
/-- .. ahead of a call that moves the reader on -/
theorem RdV.boxed1 {B rb : Nat} {T : Nat → Nat} {W u u2 : World} {X : RX} {st st' : RS} {wv : Value} (h : RdV B T W rb X st) (hM : Mov B (tagT T W.heap.size 77) (W.alloc boxZ) rb X st' u wv) (hu : Below u.heap.size u u2) (p s : Nat) :
    RdV B T ((u2.setCell ⟨W.heap.size, 0, none⟩ (.int .i64 (p : Int))).setCell ⟨W.heap.size, 1, none⟩ (.int .i64 (s : Int))) rb { X with wv := wv } st' ∧ Chg T T W ((u2.setCell ⟨W.heap.size, 0, none⟩ (.int .i64 (p : Int))).setCell ⟨W.heap.size, 1, none⟩ (.int .i64 (s : Int))) ∧ Im T ((u2.setCell ⟨W.heap.size, 0, none⟩ (.int .i64 (p : Int))).setCell ⟨W.heap.size, 1, none⟩ (.int .i64 (s : Int))) W.heap.size (boxL p s) ∧ u2.heap[W.heap.size]? = some boxZ := by
  have hal := al' W boxZ
  have hrb := blk_lt h.blk
  have hne : ¬ oneBlk rb W.heap.size := fun e => absurd hrb (by rw [← show W.heap.size = rb from e]; exact Nat.lt_irrefl _)
  have hF : Kept (oneBlk W.heap.size) u2 ((u2.setCell ⟨W.heap.size, 0, none⟩ (.int .i64 (p : Int))).setCell ⟨W.heap.size, 1, none⟩ (.int .i64 (s : Int))) := ((Kept.refl (oneBlk W.heap.size) u2).setCell (a := ⟨W.heap.size, 0, none⟩) (fun _ => rfl)).setCell (a := ⟨W.heap.size, 1, none⟩) (fun _ => rfl)
  have h0 := h.fresh (Nat.le_refl _)
  have hb2 := hs_keep (hM.kept.blk (heap_new W boxZ) hne) hu
  refine ⟨(hM.rd.keep hu).wrote hF h0, ⟨?_, fun _ _ => rfl⟩, ⟨h0, heap_setCell (heap_setCell hb2)⟩, hb2⟩
  have k1 : Kept (oneBlk rb) W u2 := ((Kept.of_below hal).step hM.kept (fun _ _ h => h)).step (Kept.of_below hu (F := oneBlk rb)) (fun _ _ h => h)
  exact (k1.mono (fun k _ e => by rw [show k = rb from e, h.rt]; decide)).step hF (fun k hk e => absurd hk (by rw [show k = W.heap.size from e]; exact Nat.lt_irrefl _))
set_option maxRecDepth 20000 in
theorem fldW (x : Wd) (u : World) : (Instr.field 44 (wdA x) 2).run Tryz.prog u = .ok (.string (strT x.2.2)) u := by
  kernel_rfl
set_option maxRecDepth 20000 in
set_option maxHeartbeats 8000000 in
theorem levelC {B rb : Nat} {T : Nat → Nat} {w : World} {X : RX} {st : RS} (h : RdV B T w rb X st) (hm : st.hd.1 ≠ 0) (hn : st.later.length + st.ws.length ≤ 99000) (hl : st.levels ≤ 100000) :
    Calls Tryz.prog 48 #[ptr0 rb] w fun r w' => r = .returned (.tuple #[]) ∧ RdP B T w rb st.level w' := by
  have h1 := h
  obtain ⟨W, hW⟩ : ∃ y, w.setCell ⟨rb, 6, none⟩ (.int .i64 ((st.levels : Int) + 1)) = y := ⟨_, rfl⟩
  have hk2 : Kept (oneBlk rb) w W := by rw [← hW]; exact (Kept.refl (oneBlk rb) w).setCell (a := ⟨rb, 6, none⟩) (fun _ => rfl)
  have hb2 : W.heap[rb]? = some (rdO X (st.levels + 1) st.starts st.pl st.err) := by rw [← hW]; exact heap_setCell h1.blk
  have h2 : RdV B T W rb X st.lv1 := h1.put (hk2.mono (fun _ _ e => .inl e)) hb2 (h1.ws1 hk2) h1.wf rfl rfl rfl rfl rfl rfl rfl id rfl rfl rfl rfl rfl rfl rfl rfl rfl
  have hbd : Below W.heap.size W W.drew := (Below.refl _ W).drew
  have h3 := h2.keep hbd
  have c3 : Chg T T w W.drew := (h1.chg1 hk2).trans (Chg.of_below hbd)
  have x6 : w.cell? ⟨rb, 6, none⟩ = some (.int .i64 (st.levels : Int)) := blk_cell h1.blk rfl
  have f6 : w.frozen? ⟨rb, 6, none⟩ = false := blk_frozen h1.blk 6
  have y6 : W.drew.cell? ⟨rb, 6, none⟩ = some (.int .i64 ((st.levels : Int) + 1)) := blk_cell h3.blk rfl
  have hsz : W.drew.heap.size = W.heap.size := rfl
  have hwa : W.drew.alloc boxZ = (W.alloc boxZ).drew := rfl
  have y6a : (W.alloc boxZ).drew.cell? ⟨rb, 6, none⟩ = some (.int .i64 ((st.levels : Int) + 1)) := keep_cell (show Below W.drew.heap.size W.drew (W.alloc boxZ).drew from al' W.drew _) y6
  obtain ⟨h4, -⟩ := h3.aside (q := W.drew.heap.size) (al' W.drew boxZ) (Nat.le_refl _) (by rw [World.size_alloc]; omega)
  obtain ⟨p, hp⟩ : ∃ p : Nat, st.levels + 1 = p := ⟨_, rfl⟩
  have hpz : (st.levels : Int) + 1 = (p : Int) := by omega
  have hle : st.levels + 1 = p := hp
  have hlv : st.level = (RS.lvds p (sdN st.hd.2.2) ((st.lv1.take true).lvd p (sdN st.hd.2.2)).ws.length ((st.lv1.take true).lvd p (sdN st.hd.2.2))).tkS [59] := by rw [← hp]; rfl
  rw [hlv]
  have GS := hid (fun u => sideC st.hd.2.2 u)
  have hs3 := sdN_le st.hd.2.2
  have GT0 : Hid (Calls Tryz.prog 65 #[ptr0 rb, .bool true] W.drew fun r w' => r = .returned (wdA st.hd) ∧ ∃ wv, Mov B T W.drew rb X (st.lv1.take true) w' wv) := hid (takeC h3 true (fun _ => hm))
  have GT1 : Hid (Calls Tryz.prog 65 #[ptr0 rb, .bool true] (W.alloc boxZ).drew fun r w' => r = .returned (wdA st.hd) ∧ ∃ wv, Mov B (tagT T W.drew.heap.size 77) (W.drew.alloc boxZ) rb X (st.lv1.take true) w' wv) := hid (takeC h4 true (fun _ => hm))
  have HZ : Hid (∀ T' V X', RdV B T' V rb X' (st.lv1.take true) → V.cell? ⟨rb, 6, none⟩ = some (.int .i64 (p : Int))) := hid (fun T' V X' hr => by rw [← hle]; exact blk_cell hr.blk rfl)
  have hsa : (st.lv1.take true).later = st.later := rfl
  have hsb : (st.lv1.take true).ws.length + 1 = st.ws.length := by
    have := h.wf.two hm
    show st.ws.tail.length + 1 = _
    rw [List.length_tail]; omega
  have hsb : (st.lv1.take true).later.length + (st.lv1.take true).ws.length ≤ 98999 := by rw [hsa]; omega
  rw [hpz] at y6 y6a hW
  have F1 : Hid (∀ u u2 wv, Mov B T W.drew rb X (st.lv1.take true) u wv → Below (u.alloc boxZ).heap.size (u.alloc boxZ) u2 → ∃ T1 X1, RdV B T1 ((u2.setCell ⟨u.heap.size, 0, none⟩ (.int .i64 (p : Int))).setCell ⟨u.heap.size, 1, none⟩ (.int .i64 (sdN st.hd.2.2 : Int))) rb X1 (st.lv1.take true) ∧ Chg T T1 w ((u2.setCell ⟨u.heap.size, 0, none⟩ (.int .i64 (p : Int))).setCell ⟨u.heap.size, 1, none⟩ (.int .i64 (sdN st.hd.2.2 : Int))) ∧ Im T1 ((u2.setCell ⟨u.heap.size, 0, none⟩ (.int .i64 (p : Int))).setCell ⟨u.heap.size, 1, none⟩ (.int .i64 (sdN st.hd.2.2 : Int))) u.heap.size (boxL p (sdN st.hd.2.2))) := hid (fun u u2 wv hM hu => by
    obtain ⟨a1, a2, a3⟩ := hM.rd.boxed hu p (sdN st.hd.2.2)
    exact ⟨T, _, a1, (c3.trans hM.chg).trans a2, a3⟩)
  have F2 : Hid (∀ u u2 wv, Mov B (tagT T W.drew.heap.size 77) (W.drew.alloc boxZ) rb X (st.lv1.take true) u wv → Below u.heap.size u u2 → (∃ T1 X1, RdV B T1 ((u2.setCell ⟨W.heap.size, 0, none⟩ (.int .i64 (p : Int))).setCell ⟨W.heap.size, 1, none⟩ (.int .i64 (sdN st.hd.2.2 : Int))) rb X1 (st.lv1.take true) ∧ Chg T T1 w ((u2.setCell ⟨W.heap.size, 0, none⟩ (.int .i64 (p : Int))).setCell ⟨W.heap.size, 1, none⟩ (.int .i64 (sdN st.hd.2.2 : Int))) ∧ Im T1 ((u2.setCell ⟨W.heap.size, 0, none⟩ (.int .i64 (p : Int))).setCell ⟨W.heap.size, 1, none⟩ (.int .i64 (sdN st.hd.2.2 : Int))) W.heap.size (boxL p (sdN st.hd.2.2))) ∧ u2.heap[W.heap.size]? = some boxZ) := hid (fun u u2 wv hM hu => by
    obtain ⟨a1, a2, a3, a4⟩ := h3.boxed1 hM hu p (sdN st.hd.2.2)
    exact ⟨⟨T, _, a1, c3.trans a2, a3⟩, a4⟩)
  have F3 : Hid (∀ u u2 wv, Mov B T W.drew rb X (st.lv1.take true) u wv → Below u.heap.size u u2 → ∃ T1 X1, RdV B T1 (u2.alloc (boxL p (sdN st.hd.2.2))) rb X1 (st.lv1.take true) ∧ Chg T T1 w (u2.alloc (boxL p (sdN st.hd.2.2))) ∧ Im T1 (u2.alloc (boxL p (sdN st.hd.2.2))) u2.heap.size (boxL p (sdN st.hd.2.2))) := hid (fun u u2 wv hM hu => by
    have hal := al' u2 (boxL p (sdN st.hd.2.2))
    have h9 := hM.rd.keep hu
    exact ⟨T, _, h9.keep hal, (c3.trans hM.chg).trans (Chg.of_below (bl_step hu hal)), h9.fresh (Nat.le_refl _), heap_new u2 _⟩)
  clear h h1 h2 h3 h4 hk2 hb2 hbd c3 hn hlv hp hsa hwa hsz hm
  generalize st.lv1.take true = sB at *
  generalize hH : st.hd = H at *
  obtain ⟨hk, hp, ht⟩ := H
  try dsimp only at *
  clear hH
  generalize sdN ht = sd at *
  generalize st.levels = ls at *
  obtain ⟨R, hR⟩ : ∃ R, Hid (RS.lvds p sd (sB.lvd p sd).ws.length (sB.lvd p sd) = R) := ⟨_, hid rfl⟩
  rw [hR.out]
  have hfd : ∀ u : World, (Instr.field 44 (wdA (hk, hp, ht)) 2).run Tryz.prog u = .ok (.string (strT ht)) u := fun u => fldW (hk, hp, ht) u
  go_enter Tryz.func48, Tryz.ntmps48
  go_wp2_with fail
  clear hW x6 f6
  apply collapse2 (F := fun V q => ∃ T1 X1, RdV B T1 V rb X1 sB ∧ Chg T T1 w V ∧ Im T1 V q (boxL p sd))
  case h =>
    intro rest
    go_region_with (first
      | (go_at_call 65; refine GT0.out.mono ?_; rintro e u ⟨rfl, wv, hM⟩; have z6 := HZ.out _ _ _ hM.rd; have z6b := keep_cell (al' u boxZ) z6; have hM0 := hid hM; clear hM)
      | (go_at_call 65; refine GT1.out.mono ?_; rintro e u ⟨rfl, wv, hM⟩; have z6 := HZ.out _ _ _ hM.rd; have hM1 := hid hM; clear hM)
      | (go_at_call 47; have hq1 := F2.out u; have hq2 := hM1.out; refine (GS.out u).mono ?_; rintro e u2 ⟨rfl, hu⟩; have z7 := keep_cell hu z6; clear z6; obtain ⟨hf9, hb9⟩ := hq1 u2 wv hq2 hu; have hf9 := hid hf9; have m0 := blk_cell (o := 0) hb9 rfl; have m1 := blk_frozen hb9 0; have hb8 := heap_setCell (o := 0) (v := .int .i64 (p : Int)) hb9; have m2 := blk_cell (o := 1) hb8 rfl; have m3 := blk_frozen hb8 1; clear hb8 hb9 hq1 hq2)
      | (go_at_call 47; have hq2 := hM0.out; refine (GS.out u).mono ?_; rintro e u2 ⟨rfl, hu⟩; have z7 := keep_cell hu z6; have z7b := keep_cell (al' u2 boxZ) z7; clear z6; have hf9 := hid (F3.out u u2 wv hq2 hu); clear hq2)
      | (go_at_call 47; refine (GS.out _).mono ?_; rintro e u2 ⟨rfl, hu⟩; have z7 := keep_cell hu z6b; clear z6; have hb9 := hs_keep (heap_new u boxZ) hu; have m0 := blk_cell (o := 0) hb9 rfl; have m1 := blk_frozen hb9 0; have hb8 := heap_setCell (o := 0) (v := .int .i64 (p : Int)) hb9; have m2 := blk_cell (o := 1) hb8 rfl; have m3 := blk_frozen hb8 1; clear hb8 hb9; have hf9 := hid (F1.out u u2 wv hM0.out hu)))
    all_goals
      have hf := hf9.out
      clear hf9
      first
        | (generalize (u2.setCell ⟨u.heap.size, 0, none⟩ (.int .i64 (p : Int))).setCell ⟨u.heap.size, 1, none⟩ (.int .i64 (sd : Int)) = V at hf ⊢; generalize u.heap.size = q at hf ⊢; exact rest V q hf)
        | (generalize (u2.setCell ⟨W.heap.size, 0, none⟩ (.int .i64 (p : Int))).setCell ⟨W.heap.size, 1, none⟩ (.int .i64 (sd : Int)) = V at hf ⊢; generalize W.heap.size = q at hf ⊢; exact rest V q hf)
        | (generalize u2.alloc (boxL p sd) = V at hf ⊢; generalize u2.heap.size = q at hf ⊢; exact rest V q hf)
  case pf =>
    rintro V q ⟨T1, X1, hr, hc, hi⟩
    have hr := hid hr
    have hc := hid hc
    have hi := hid hi
    have l0 := hi.out.cell (o := 0) rfl
    have l1 := hi.out.cell (o := 1) rfl
    have hlt : sB.later.length ≤ 100000 := by omega
    clear GT0 GT1 F1 F2 F3 HZ y6 y6a GS hfd
    have hB2 : Hid ((sB.lvd p sd).later.length + (sB.lvd p sd).ws.length ≤ 99000) := hid (by
      have e1 : (sB.lvd p sd).later.length = sB.later.length + 1 := by show (sB.tkN.later ++ [_]).length = _; rw [RS.tkN_later, List.length_append]; rfl
      have e2 : (sB.lvd p sd).ws.length ≤ sB.ws.length := by
        show sB.tkN.ws.length ≤ _
        unfold RS.tkN RS.take
        split
        · show sB.ws.tail.length ≤ _; rw [List.length_tail]; omega
        · rw [RS.give_ws]; omega
      omega)
    go_wp2_with (go_at_call 76; refine (lvdC hr.out p sd hlt).mono ?_; rintro e w3 ⟨rfl, T3, X3, hr3, hc3⟩; have hi3 := hid (hi.out.keep hc3); have hr3 := hid hr3; have hc4 := hid (hc.out.trans hc3); clear hr hc hi hc3 l0 l1)
    clear hsb hlt
    go_loopw [] (fun wr => ∃ T1 X1 st1, Hid (RdV B T1 wr rb X1 st1) ∧ Hid (Chg T T1 w wr) ∧ Hid (Im T1 wr q (boxL p sd)) ∧ Hid (RS.lvds p sd st1.ws.length st1 = R) ∧ Hid (st1.later.length + st1.ws.length ≤ 99000)) (fun wr => wsN wr rb)
    case atStart => exact ⟨T3, X3, _, hr3, hc4, hi3, hR, hB2⟩
    case round =>
      obtain ⟨T1, X1, st1, hr, hc, hi, hL, hb⟩ := hrel
      clear hr3 hc4 hi3 hR hB2
      have GA := hid (atNC hr.out)
      have hm0 := hr.out.wsN
      cases ha : st1.atN with
      | false =>
        rw [ha] at GA
        have e9 := hL.out
        rw [lvds_no ha] at e9
        subst e9
        clear hL ha hm0
        have GG : Hid (∀ u, Below wr.heap.size wr u → Calls Tryz.prog 68 #[ptr0 rb, .string ⟨#[59]⟩] u fun r w' => r = .returned (.tuple #[]) ∧ RdP B T w rb (st1.tkS [59]) w') := hid (fun u hu => (tkSC (hr.out.keep hu) [59]).mono (fun r w' ⟨e, wv, hM⟩ => ⟨e, T1, _, hM.rd, (hc.out.trans (Chg.of_below hu)).trans hM.chg⟩))
        clear hr hc hi hb
        go_wp2_with (first
          | (go_at_call 77; refine GA.out.mono ?_; clear GA; rintro e u ⟨rfl, hu⟩; have hu := hid hu)
          | (go_at_call 68; refine (GG.out u hu.out).mono ?_; clear GG; rintro e u4 ⟨rfl, hP⟩; have hP := hid hP))
        go_end0
        exact ⟨rfl, hP.out⟩
      | true =>
        rw [ha] at GA
        have hw2 := hr.out.wf.two (RS.atN_hd ha)
        have e9 := hL.out
        rw [lvds_yes ha hr.out.wf.ne] at e9
        have e9 := hid e9
        have hws : Hid ((st1.lvd p sd).ws.length + 1 = st1.ws.length ∧ (st1.lvd p sd).later.length = st1.later.length + 1) := hid ⟨by
          have e : (st1.lvd p sd).ws = st1.ws.tail := RS.tkN_ws ha
          rw [e, List.length_tail]; omega, by show (st1.tkN.later ++ [_]).length = _; rw [RS.tkN_later, List.length_append]; rfl⟩
        have GG : Hid (∀ u, Below wr.heap.size wr u → u.cell? ⟨q, 0, none⟩ = some (.int .i64 (p : Int)) ∧ u.cell? ⟨q, 1, none⟩ = some (.int .i64 (sd : Int)) ∧ Calls Tryz.prog 76 #[ptr0 rb, .agg #[.int .i64 (p : Int), .int .i64 (sd : Int)]] u fun r w' => r = .returned (.tuple #[]) ∧ ∃ T' X', RdV B T' w' rb X' (st1.lvd p sd) ∧ Chg T T' w w' ∧ Im T' w' q (boxL p sd)) := hid (fun u hu => by
          have iu := hi.out.keep (Chg.of_below (T := T1) hu)
          refine ⟨iu.cell rfl, iu.cell rfl, (lvdC (hr.out.keep hu) p sd (by have := hb.out; omega)).mono ?_⟩
          rintro r w' ⟨e, T', X', hr', hc'⟩
          exact ⟨e, T', X', hr', (hc.out.trans (Chg.of_below hu)).trans hc', iu.keep hc'⟩)
        clear hL ha hr hc hi
        go_wp2_with (first
          | (go_at_call 77; refine GA.out.mono ?_; clear GA; rintro e u ⟨rfl, hu⟩; obtain ⟨l0, l1, GL⟩ := GG.out u hu; have GL := hid GL; clear GG hu)
          | (go_at_call 76; refine GL.out.mono ?_; clear GL; rintro e u4 ⟨rfl, T4, X4, hr4, hc4, hi4⟩; have hm4 := hr4.wsN; have hr4 := hid hr4; have hc4 := hid hc4; have hi4 := hid hi4))
        go_roundw
        case rel => exact ⟨T4, X4, _, hr4, hc4, hi4, e9, hid (by have := hws.out; have := hb.out; omega)⟩
        case measure => rw [hm4, hm0]; have := hws.out; omega

end Go.Proofs.YtcledgljbmepaaaGreatDoor
namespace Go.Proofs.YtcledgljbmepaaaGreatDoor
open Go.RowKit

theorem own_low {w : World} {B C n size : Nat} {e : TypeId} {v : Value} {xs : List Value} (h : w.ownsRow C e size v n xs) (hB : B ≤ C) : w.ownsRow B e size v n xs := by
  refine ⟨h.1, ?_⟩
  rcases h.2 with h1 | ⟨g, cap, cur, h1, h2, h3⟩
  · exact .inl h1
  · exact .inr ⟨g, cap, cur, h1, Nat.le_trans hB h2, h3⟩
set_option maxRecDepth 20000 in
set_option maxHeartbeats 2000000 in
theorem readOkF (s : Txt) (t : Rx) (w : World) (hs : s.length ≤ 200) (hr : rowsP s = some (t, [])) :
    Calls Tryz.prog 104 #[.string (strT s)] w fun e w' => ∃ v, e = .returned (.tuple #[v, .int .i64 0, .int .i64 0]) ∧ (OwnC w' w.heap.size v (post t) ∧ ∀ c ∈ post t, FitC c) ∧ Below w.heap.size w w' := by
  have hmf : ∀ (fn : Fn) (first cap : Array Value) (w : World), (Instr.makeFunc fn first cap).run Tryz.prog w = .ok (.func fn first cap) w := fun _ _ _ _ => rfl
  have G := rowsC (M := 400) (readW_rd w s) hs (by simp; omega) (by omega)
  rw [hr] at G
  have G := hid G
  obtain ⟨h0, h1, h2, h3⟩ := four_blocks w (.cells #[.slice none 0 0] 66) (.cells #[.int .i64 0] 3) (.cells #[.int .i64 0] 29) (.cells #[.string (strT s), .int .i64 0, .slice none 0 0] 166)
  have hsz : (readW w s).heap.size = w.heap.size + 4 := by simp [readW]
  have hpl : plc s [] = (s.length : Int) := by simp [plc]
  have hS := strT_size s
  have HE : Hid (∀ w1, Red (some (t, [])) (readW w s) (w.heap.size + 3) s [] 400 (.returned (.tuple #[])) w1 → ∃ ad cap, (w1.cell? ⟨w.heap.size + 3, 1, none⟩ = some (.int .i64 (s.length : Int)) ∧ w1.cell? ⟨w.heap.size + 3, 2, none⟩ = some (.slice ad (post t).length cap) ∧ w1.heap[w.heap.size]? = some (.cells #[.slice none 0 0] 66 (0, 0)) ∧ w1.heap[w.heap.size + 1]? = some (.cells #[.int .i64 0] 3 (0, 0)) ∧ w1.heap[w.heap.size + 2]? = some (.cells #[.int .i64 0] 29 (0, 0))) ∧ (∀ c ∈ post t, FitC c) ∧ OwnC w1 (w.heap.size + 3) (.slice ad (post t).length cap) (post t) ∧ Below w.heap.size w w1) := hid (fun w1 hw => by
    obtain ⟨-, hrd, -, hb⟩ := hw.yes
    have hp := hrd.place
    rw [hpl] at hp
    obtain ⟨v, hat, ho, hf⟩ := hrd
    obtain ⟨k, hbk⟩ := hat.blk
    have hC := Cels.of_own (l := post t) ho hf
    obtain ⟨ad, cap, rfl⟩ : ∃ ad cap, v = .slice ad (post t).length cap := by obtain ⟨a, c, e, _⟩ := hC; exact ⟨a, c, e⟩
    refine ⟨ad, cap, ⟨hp, (rd3 hbk).2.2.1, (hb.block _ (by omega)).trans h0, (hb.block _ (by omega)).trans h1, (hb.block _ (by omega)).trans h2⟩, hf, ho, ?_⟩
    exact (readW_below w s).trans (hb.mono (by omega)))
  unfold readW at G HE
  generalize strT s = S at G HE hS
  clear h0 h1 h2 h3 hsz hpl hr
  go_enter_defers Tryz.func104, Tryz.ntmps104
  go_wp2_with (go_at_call 117; refine G.out.mono ?_; intro e w1 hw1; obtain ⟨he1, -, -, -⟩ := hw1.yes; subst he1; obtain ⟨ad, cap, ⟨c1, c2, k0, k1, k2⟩, hC, hO, hb⟩ := HE.out w1 hw1; have hC := hid hC; have hO := hid hO; have d0 := blk_cell (o := 0) (v := .slice none 0 0) k0 rfl; have d1 := blk_cell (o := 0) (v := .int .i64 0) k1 rfl; have d2 := blk_cell (o := 0) (v := .int .i64 0) k2 rfl; have f0 := blk_frozen k0 0; have f1 := blk_frozen k1 0; have f2 := blk_frozen k2 0; clear k0 k1 k2)
  refine leaves_cons (f := 116) (args := #[.pointer (some ⟨w.heap.size, 0, none⟩), .pointer (some ⟨w.heap.size + 1, 0, none⟩), .pointer (some ⟨w.heap.size + 2, 0, none⟩)]) (by simp) (by simp [go_sem]) ?_
  refine (catch_idle _ _ _ _).mono ?_
  rintro e u' w'' ⟨rfl, rfl, rfl⟩
  have hO' : OwnC (((w1.setCell ⟨w.heap.size, 0, none⟩ (.slice ad (post t).length cap)).setCell ⟨w.heap.size + 1, 0, none⟩ (.int .i64 0)).setCell ⟨w.heap.size + 2, 0, none⟩ (.int .i64 0)) (w.heap.size + 3) (.slice ad (post t).length cap) (post t) := own_keep hO.out fun k hk => by
    have := (hO.out.lt k hk).1
    rw [Below.heap_setCell _ _ _ _ (by simp; omega), Below.heap_setCell _ _ _ _ (by simp; omega), Below.heap_setCell _ _ _ _ (by simp; omega)]
  refine ⟨.tuple #[.slice ad (post t).length cap, .int .i64 0, .int .i64 0], by simp [results, Tryz.results104, go_sem, d0, d1, d2], _, rfl, ⟨own_low hO' (by omega), hC.out⟩, ?_⟩
  exact bl_set (bl_set (bl_set hb _ 0 _ (Nat.le_refl _)) _ 0 _ (by omega)) _ 0 _ (by omega)

set_option maxRecDepth 20000 in
theorem parseGoodF (s : Txt) (t : Rx) (w : World) (hs : s.length ≤ 200) (hr : rowsP s = some (t, [])) (hl : (post t).length ≤ 60) : Calls Tryz.prog 90 #[.string (strT s)] w fun e w' => ∃ v, e = .returned (.tuple #[v, .int .i64 0, .int .i64 0]) ∧ (OwnC w' w.heap.size v (post t) ∧ ∀ c ∈ post t, FitC c) ∧ Below w.heap.size w w' := by
  have G0 := readOkF s t w hs hr
  have hS := strT_size s
  have hz : ¬ (200 : Int) < ((strT s).size : Int) := by omega
  have hzz : (strT s).size ≤ 200 := by omega
  have G : Hid (Calls Tryz.prog 104 #[.string (strT s)] w fun e w' => ∃ a c, e = .returned (.tuple #[.slice a (post t).length c, .int .i64 0, .int .i64 0]) ∧ Hid (OwnC w' w.heap.size (.slice a (post t).length c) (post t) ∧ ∀ c ∈ post t, FitC c) ∧ Below w.heap.size w w') := hid (G0.mono fun e w' ⟨v, he, hc, hb⟩ => by
    have hc' := hc
    obtain ⟨a, c, hv⟩ := own_shape hc.1
    subst hv
    exact ⟨a, c, he, hid hc', hb⟩)
  generalize strT s = S at hS hz G hzz
  have hlz : ¬ (60 : Int) < ((post t).length : Int) := by omega
  clear hr hS G0
  go_enter Tryz.func90, Tryz.ntmps90
  go_wp2_with (go_at_call 104; refine G.out.mono ?_; rintro e w1 ⟨a, c, rfl, hC, hb⟩)
  refine bodyPost_ret (v := .tuple #[.slice a (post t).length c, .int .i64 0, .int .i64 0]) (by simp [results, Tryz.results90, go_sem]) rfl ⟨_, rfl, hC.out, hb⟩
set_option maxRecDepth 20000 in
/-- regex.Parse of any text -/
theorem rxC (t : Txt) (w : World) : Calls Tryz.prog 90 #[.string (strT t)] w fun e w' => ∃ a m c n, e = .returned (.tuple #[.slice a m c, .int .i64 n, .int .i64 (rxA t).2]) ∧ ((rxA t).2 = 0 → Cels w' (.slice a m c) (rxA t).1 ∧ OffP (fun b => b < w.heap.size) (.slice a m c)) ∧ Below w.heap.size w w' := by
  by_cases h200 : 200 < t.length
  · have e : rxA t = ([], 3) := if_pos h200
    rw [e]
    refine (parseLong t w h200).mono ?_
    rintro e w' ⟨a, c, rfl, hb⟩
    exact ⟨a, 0, c, 0, rfl, fun h => (by cases h), hb⟩
  · have h2 : t.length ≤ 200 := by omega
    by_cases hg : ∃ r, rowsP t = some (r, [])
    · obtain ⟨r, hr⟩ := hg
      by_cases h60 : 60 < (post r).length
      · have e : rxA t = ([], 3) := by unfold rxA; rw [if_neg h200, hr]; exact if_pos h60
        rw [e]
        refine (parseFull t r w h2 hr h60).mono ?_
        rintro e w' ⟨a, c, rfl, hb⟩
        exact ⟨a, 0, c, 0, rfl, fun h => (by cases h), hb⟩
      · have e : rxA t = (post r, 0) := by unfold rxA; rw [if_neg h200, hr]; exact if_neg h60
        rw [e]
        refine (parseGoodF t r w h2 hr (by omega)).mono ?_
        rintro e w' ⟨v, rfl, ⟨hO, hF⟩, hb⟩
        have hC := Cels.of_own (l := post r) hO hF
        have hof : OffP (fun b => b < w.heap.size) v := own_off hO (fun b hb hb2 => by omega)
        obtain ⟨a, c, rfl⟩ := own_shape hO
        exact ⟨a, _, c, 0, rfl, fun _ => ⟨hC, hof⟩, hb⟩
    · have hn : ∀ r, rowsP t ≠ some (r, []) := fun r hr => hg ⟨r, hr⟩
      have e : rxA t = ([], 1) := by
        unfold rxA
        rw [if_neg h200]
        split
        · rename_i r hr; exact absurd hr (hn r)
        · rfl
      rw [e]
      refine (parseBad t w h2 hn).mono ?_
      rintro e w' ⟨a, c, n, rfl, -, hb⟩
      exact ⟨a, 0, c, n, rfl, fun h => (by cases h), hb⟩

end Go.Proofs.YtcledgljbmepaaaGreatDoor
namespace Go.Proofs.YtcledgljbmepaaaGreatDoor
open Go.RowKit Go.Maps Go.Sort

theorem Mov.trans {B rb : Nat} {T : Nat → Nat} {w u v : World} {X : RX} {st st' : RS} {wv wv' : Value} (h : Mov B T w rb X st u wv) (h2 : Mov B T u rb { X with wv := wv } st' v wv') : Mov B T w rb X st' v wv' := ⟨h2.rd, h.kept.trans h2.kept⟩
theorem Mov.keep {B rb : Nat} {T : Nat → Nat} {w u v : World} {X : RX} {st : RS} {wv : Value} (h : Mov B T w rb X st u wv) (hu : Below u.heap.size u v) : Mov B T w rb X st v wv := ⟨h.rd.keep hu, h.kept.step (Kept.of_below hu (F := oneBlk rb)) (fun _ _ h => h)⟩
theorem rxA_err (t : Txt) : (rxA t).2 = 0 ∨ (rxA t).2 = 1 ∨ (rxA t).2 = 3 := by
  unfold rxA
  split
  · exact .inr (.inr rfl)
  · split
    · split
      · exact .inr (.inr rfl)
      · exact .inl rfl
    · exact .inr (.inl rfl)
theorem RS.give_err (st : RS) (p : Nat) (e : Int) (he : e ≠ 0) : (st.give p e).err ≠ 0 := by
  unfold RS.give
  split
  · exact he
  · rename_i h; exact h
set_option maxRecDepth 20000 in
set_option maxHeartbeats 8000000 in
theorem rdCellsC {B rb : Nat} {T : Nat → Nat} {w : World} {X : RX} {st : RS} (h : RdV B T w rb X st) :
    Calls Tryz.prog 67 #[ptr0 rb] w fun r w' => ∃ a m c wv, r = .returned (.slice a m c) ∧ Mov B T w rb X st.cells w' wv ∧ (st.cells.err = 0 → ImC T w' (.slice a m c) (rxA st.hd.2.2).1) := by
  obtain ⟨b, o, n, cap, ⟨c0, k, p, t, le, l1, l2⟩, -, -⟩ := h.ahd
  have GT := hid (takeC h (decide (st.hd.1 = 2)) (fun e => by have := of_decide_eq_true e; omega))
  have HP : Hid (∀ u, (∃ wv, Mov B T w rb X (st.take (decide (st.hd.1 = 2))) u wv) → Calls Tryz.prog 90 #[.string (strT st.hd.2.2)] (u.alloc (boxW st.hd)) fun e w' => ∃ a m c n, e = .returned (.tuple #[.slice a m c, .int .i64 n, .int .i64 (rxA st.hd.2.2).2]) ∧ w'.heap[u.heap.size]? = some (boxW st.hd) ∧ ((rxA st.hd.2.2).2 = 0 → ∃ wv, Mov B T w rb X st.cells w' wv ∧ (st.cells.err = 0 → ImC T w' (.slice a m c) (rxA st.hd.2.2).1)) ∧ ((rxA st.hd.2.2).2 ≠ 0 → Calls Tryz.prog 22 #[ptr0 rb, .int .i64 (st.hd.2.1 : Int), .int .i64 (rxA st.hd.2.2).2] w' fun r w'' => r = .returned (.tuple #[]) ∧ ∃ wv, Mov B T w rb X st.cells w'' wv ∧ (st.cells.err = 0 → ImC T w'' (.slice a m c) (rxA st.hd.2.2).1))) := hid (fun u hu => by
    obtain ⟨wv, hM⟩ := hu
    have hal := al' u (boxW st.hd)
    have hM1 := hM.keep hal
    refine (rxC st.hd.2.2 (u.alloc (boxW st.hd))).mono ?_
    rintro e w' ⟨a, m, c, n, rfl, hg, hb⟩
    have hM2 := hM1.keep hb
    refine ⟨a, m, c, n, rfl, hs_keep (heap_new u _) hb, fun h0 => ⟨wv, ?_, fun _ => ?_⟩, fun h0 => (giveC hM2.rd st.hd.2.1 _ h0).mono ?_⟩
    · have e9 : st.cells = st.take (decide (st.hd.1 = 2)) := by unfold RS.cells RS.fail; rw [if_pos h0]
      rw [e9]; exact hM2
    · obtain ⟨hC, hO⟩ := hg h0
      exact ⟨hC, hO.mono (fun b hb9 => (hM1.rd.own b hb9).2)⟩
    · rintro r w'' ⟨e9, hM3⟩
      have e8 : st.cells = (st.take (decide (st.hd.1 = 2))).give st.hd.2.1 (rxA st.hd.2.2).2 := by unfold RS.cells RS.fail; rw [if_neg h0]
      refine ⟨e9, wv, ?_, fun h9 => ?_⟩
      · rw [e8]; exact hM2.trans hM3
      · rw [e8] at h9; exact absurd h9 (RS.give_err _ _ _ h0))
  have her := rxA_err st.hd.2.2
  clear h
  generalize st.take (decide (st.hd.1 = 2)) = sA at *
  generalize st.cells = sC at *
  generalize hH : st.hd = H at *
  obtain ⟨hk, hp, ht⟩ := H
  dsimp only at *
  clear hH
  generalize (rxA ht).1 = cl at *
  generalize (rxA ht).2 = er at *
  obtain ⟨bb, hbb⟩ : ∃ b : Bool, decide (hk = 2) = b := ⟨_, rfl⟩
  rw [hbb] at GT
  have hz : ((hk : Int) == 2) = bb := by rw [← hbb, Bool.eq_iff_iff, beq_iff_eq, decide_eq_true_iff]; omega
  clear hbb
  by_cases h0 : er = 0
  · subst h0
    go_enter Tryz.func67, Tryz.ntmps67
    go_wp2_with (first
      | (go_at_call 65; refine GT.out.mono ?_; clear GT; rintro e u ⟨rfl, hu⟩; have G2 := hid (HP.out u hu); clear HP hu; obtain ⟨v0, v1, v2, -, -⟩ := rd3 (heap_new u (boxW (hk, hp, ht))); obtain ⟨W, hW⟩ : ∃ y, u.alloc (boxW (hk, hp, ht)) = y := ⟨_, rfl⟩; rw [hW] at G2 v0 v1 v2)
      | (go_at_call 90; go_loud (refine G2.out.mono ?_; clear G2; rintro e u2 ⟨a, m, c, n9, rfl, h8, hg, h9⟩; clear h8 h9; have hg := hid (hg (by first | rfl | trivial)))))
    go_ret
    obtain ⟨wv, hM, hI⟩ := hg.out
    exact ⟨a, m, c, wv, rfl, hM, hI⟩
  · have h0b : (er != 0) = true := bne_iff_ne.2 h0
    go_enter Tryz.func67, Tryz.ntmps67
    go_wp2_with (first
      | (go_at_call 65; refine GT.out.mono ?_; clear GT; rintro e u ⟨rfl, hu⟩; have G2 := hid (HP.out u hu); clear HP hu; obtain ⟨v0, v1, v2, -, -⟩ := rd3 (heap_new u (boxW (hk, hp, ht))); obtain ⟨W, hW⟩ : ∃ y, u.alloc (boxW (hk, hp, ht)) = y := ⟨_, rfl⟩; rw [hW] at G2 v0 v1 v2)
      | (go_at_call 90; refine G2.out.mono ?_; clear G2; rintro e u2 ⟨a, m, c, n9, rfl, hbx, -, hg⟩; have hg := hid (hg h0); obtain ⟨t0, t1, t2, -, -⟩ := rd3 hbx; clear hbx)
      | (go_at_call 22; refine hg.out.mono ?_; clear hg; rintro e u3 ⟨rfl, hP⟩; have hP := hid hP))
    go_ret
    obtain ⟨wv, hM, hI⟩ := hP.out
    exact ⟨a, m, c, wv, rfl, hM, hI⟩

end Go.Proofs.YtcledgljbmepaaaGreatDoor
namespace Go.Proofs.YtcledgljbmepaaaGreatDoor
open Go.RowKit Go.Maps Go.Sort

theorem collapse5 {R F : World → Nat → Option Addr → Nat → Nat → Prop} {G : Prop} (h : (∀ V q a m c, F V q a m c → R V q a m c) → G) (pf : ∀ V q a m c, F V q a m c → R V q a m c) : G := h pf
/-- a box that is laid ahead of a call that moves the reader on, and stored into behind -/
theorem RdV.boxG {B rb : Nat} {T : Nat → Nat} {W u V : World} {X : RX} {st st' : RS} {wv : Value} {Z O : Obj} (h : RdV B T W rb X st) (hM : Mov B (tagT T W.heap.size 77) (W.alloc Z) rb X st' u wv) (hF : Kept (oneBlk W.heap.size) u V) (hV : V.heap[W.heap.size]? = some O) :
    RdV B T V rb { X with wv := wv } st' ∧ Chg T T W V ∧ Im T V W.heap.size O ∧ (∀ b o, Im T W b o → Im T V b o) ∧ (∀ v l, ImC (tagT T W.heap.size 77) u v l → ImC T V v l) := by
  have hal := al' W Z
  have h0 := h.fresh (Nat.le_refl _)
  have hq : tagT T W.heap.size 77 W.heap.size = 77 := if_pos rfl
  have hk7 : Kept (fun b => tagT T W.heap.size 77 b = 77) u V := hF.mono (fun b _ e => by rw [show b = W.heap.size from e, hq])
  have htg : ∀ b, b < u.heap.size → tagT T W.heap.size 77 b ≠ 77 → T b = tagT T W.heap.size 77 b := fun b _ h7 => (if_neg (fun e => h7 (by rw [e, hq]))).symm
  have k1 : Kept (oneBlk rb) W u := (Kept.of_below hal).step hM.kept (fun _ _ h => h)
  have hc : Chg T T W V := ⟨(k1.mono (fun k _ e => by rw [show k = rb from e, h.rt]; decide)).step hF (fun k hk e => absurd hk (by rw [show k = W.heap.size from e]; exact Nat.lt_irrefl _)), fun _ _ => rfl⟩
  exact ⟨hM.rd.wrote hF h0, hc, ⟨h0, hV⟩, fun b o hi => hi.keep hc, fun v l hi => hi.mv hk7 htg⟩
abbrev boxU (t : Txt) (v : Value) (s : Bool) : Obj := .cells #[.string (strT t), v, .bool s] 68
abbrev boxU0 : Obj := .cells #[.string ⟨#[]⟩, .slice none 0 0, .bool false] 68
/-- nothing but words, place and error has changed -/
structure SameL (a b : RS) : Prop where
  rules : b.rules = a.rules
  nonts : b.nonts = a.nonts
  prods : b.prods = a.prods
  levels : b.levels = a.levels
  starts : b.starts = a.starts
  skips : b.skips = a.skips
  terms : b.terms = a.terms
  nons : b.nons = a.nons
  later : b.later = a.later
  err : b.err = 0 → a.err = 0
  ws : b.ws.length ≤ a.ws.length
theorem SameL.refl (a : RS) : SameL a a := ⟨rfl, rfl, rfl, rfl, rfl, rfl, rfl, rfl, rfl, id, Nat.le_refl _⟩
theorem SameL.trans {a b c : RS} (h : SameL a b) (g : SameL b c) : SameL a c := ⟨g.rules.trans h.rules, g.nonts.trans h.nonts, g.prods.trans h.prods, g.levels.trans h.levels, g.starts.trans h.starts, g.skips.trans h.skips, g.terms.trans h.terms, g.nons.trans h.nons, g.later.trans h.later, fun e => h.err (g.err e), Nat.le_trans g.ws h.ws⟩
theorem SameL.give (st : RS) (p : Nat) {e : Int} (he : e ≠ 0) : SameL st (st.give p e) := by
  unfold RS.give
  split
  · exact ⟨rfl, rfl, rfl, rfl, rfl, rfl, rfl, rfl, rfl, fun h => absurd h he, Nat.le_refl _⟩
  · exact SameL.refl st
theorem SameL.take (st : RS) (b : Bool) : SameL st (st.take b) := by
  unfold RS.take
  split
  · exact ⟨rfl, rfl, rfl, rfl, rfl, rfl, rfl, rfl, rfl, id, by show st.ws.tail.length ≤ _; rw [List.length_tail]; omega⟩
  · exact SameL.give st _ (by decide)
theorem SameL.full (st : RS) (b : Bool) (p : Nat) : SameL st (st.full b p) := by
  unfold RS.full
  split
  · exact SameL.give st _ (by decide)
  · exact SameL.refl st
theorem SameL.fail (st : RS) (p : Nat) (e : Int) : SameL st (st.fail p e) := by
  unfold RS.fail
  split
  · exact SameL.refl st
  · rename_i h; exact SameL.give st _ h
theorem SameL.tkN (st : RS) : SameL st st.tkN := SameL.take _ _
theorem SameL.tkS (st : RS) (t : Txt) : SameL st (st.tkS t) := SameL.take _ _
theorem SameL.cells (st : RS) : SameL st st.cells := (SameL.take _ _).trans (SameL.fail _ _ _)
theorem SameL.rule1 (st : RS) : SameL st st.rule1 := (SameL.take _ _).trans (SameL.full _ _ _)
/-- behind the rule's literal -/
def RuF (B : Nat) (T : Nat → Nat) (w : World) (rb : Nat) (x1 x2 : Wd) (sk : Bool) (cl : List Cel) (s3 : RS) (q1 q3 : Nat) (V : World) (q : Nat) (a : Option Addr) (m c : Nat) : Prop :=
  ∃ T1 X1, RdV B T1 V rb X1 s3 ∧ Chg T T1 w V ∧ Im T1 V q1 (boxW x1) ∧ Im T1 V q3 (boxW x2) ∧ Im T1 V q (boxU x2.2.2 (.slice a m c) sk) ∧ (s3.err = 0 → ImC T1 V (.slice a m c) cl)
theorem put3U {u : World} {q : Nat} {x0 x1 x2 : Value} (h : u.heap[q]? = some (.cells #[x0, x1, x2] 68 (0, 0))) (v0 v1 v2 : Value) : Kept (oneBlk q) u (((u.setCell ⟨q, 0, none⟩ v0).setCell ⟨q, 1, none⟩ v1).setCell ⟨q, 2, none⟩ v2) ∧ (((u.setCell ⟨q, 0, none⟩ v0).setCell ⟨q, 1, none⟩ v1).setCell ⟨q, 2, none⟩ v2).heap[q]? = some (.cells #[v0, v1, v2] 68 (0, 0)) :=
  ⟨(((Kept.refl (oneBlk q) u).setCell (a := ⟨q, 0, none⟩) (fun _ => rfl)).setCell (a := ⟨q, 1, none⟩) (fun _ => rfl)).setCell (a := ⟨q, 2, none⟩) (fun _ => rfl), heap_setCell (heap_setCell (heap_setCell h))⟩
/-- behind the append -/
def RuP (B : Nat) (T : Nat → Nat) (w : World) (rb : Nat) (x2 : Wd) (U : Obj) (s : RS) (q3 q : Nat) (V : World) : Prop := ∃ T1 X1, RdV B T1 V rb X1 s ∧ Chg T T1 w V ∧ Im T1 V q3 (boxW x2) ∧ Im T1 V q U
set_option maxRecDepth 20000 in
theorem ruleApp {B rb q1 q3 q m c : Nat} {T : Nat → Nat} {w V : World} {x1 x2 : Wd} {sk : Bool} {cl : List Cel} {s3 : RS} {a : Option Addr} (h : RuF B T w rb x1 x2 sk cl s3 q1 q3 V q a m c) (hn : s3.rules.length ≤ 99000) :
    Calls Tryz.prog 68 #[ptr0 rb, .string ⟨#[59]⟩] V fun r u => r = .returned (.tuple #[]) ∧ ∃ rv A C w6, (u.drew.cell? ⟨rb, 1, none⟩ = some rv ∧ u.drew.cell? ⟨q, 0, none⟩ = some (.string (strT x2.2.2)) ∧ u.drew.cell? ⟨q, 1, none⟩ = some (.slice a m c) ∧ u.drew.cell? ⟨q, 2, none⟩ = some (.bool sk)) ∧
      ((u.alloc (boxU x2.2.2 (.slice a m c) sk)).drew.cell? ⟨rb, 1, none⟩ = some rv ∧ (u.alloc (boxU x2.2.2 (.slice a m c) sk)).drew.cell? ⟨q, 0, none⟩ = some (.string (strT x2.2.2)) ∧ (u.alloc (boxU x2.2.2 (.slice a m c) sk)).drew.cell? ⟨q, 1, none⟩ = some (.slice a m c) ∧ (u.alloc (boxU x2.2.2 (.slice a m c) sk)).drew.cell? ⟨q, 2, none⟩ = some (.bool sk)) ∧
      (Builtin.append_ #[23, 23] 23 #[rv, .slice (some ⟨u.heap.size, 0, none⟩) 1 1]).run Tryz.prog (u.alloc (boxU x2.2.2 (.slice a m c) sk)).drew = .ok (.slice A (s3.rules.length + 1) C) w6 ∧ w6.cell? ⟨rb, 1, none⟩ = some rv ∧ w6.frozen? ⟨rb, 1, none⟩ = false ∧
      RuP B T w rb x2 (boxU x2.2.2 (.slice a m c) sk) ((s3.tkS [59]).addR ⟨x2.2.2, cl, sk⟩) q3 q (w6.setCell ⟨rb, 1, none⟩ (.slice A (s3.rules.length + 1) C)) := by
  obtain ⟨T1, X1, hr, hc, i1, i3, iq, hI⟩ := h
  refine (tkSC hr [59]).mono ?_
  rintro r u ⟨e, wv, hM⟩
  have hbd : Below u.heap.size u u.drew := (Below.refl _ u).drew
  have hrd := hM.rd.keep hbd
  have c1 := hM.chg.trans (Chg.of_below (T := T1) hbd)
  have sm := SameL.tkS s3 [59]
  have hnn : (s3.tkS [59]).rules.length = s3.rules.length := by rw [sm.rules]
  obtain ⟨A, C, w6, hrun, hbk, T', X', hR, hC⟩ := hrd.app_rules ⟨x2.2.2, cl, sk⟩ (.slice a m c) ⟨⟨a, m, c, rfl⟩, fun e9 => (hI (sm.err e9)).keep c1⟩ rfl (by rw [hnn]; omega)
  rw [hnn] at hrun hR hC
  have jq := iq.keep c1
  have j3 := i3.keep c1
  have hbl := hrd.blk
  have hb6 := hbk.trans hbl
  have hba : Below u.drew.heap.size u.drew (u.alloc (boxU x2.2.2 (.slice a m c) sk)).drew := al' u.drew _
  have d1 : u.drew.cell? ⟨rb, 1, none⟩ = some X1.rv := blk_cell hbl rfl
  exact ⟨e, X1.rv, A, C, w6, ⟨d1, jq.cell rfl, jq.cell rfl, jq.cell rfl⟩, ⟨keep_cell hba d1, keep_cell hba (jq.cell rfl), keep_cell hba (jq.cell rfl), keep_cell hba (jq.cell rfl)⟩, hrun, blk_cell hb6 rfl, blk_frozen hb6 1, T', X', hR, (hc.trans c1).trans hC, j3.keep hC, jq.keep hC⟩
set_option maxRecDepth 20000 in
theorem ruleAdd {B rb q3 q : Nat} {T : Nat → Nat} {w V : World} {x2 : Wd} {v : Value} {sk : Bool} {s5 : RS} (h : RuP B T w rb x2 (boxU x2.2.2 v sk) s5 q3 q V) (hn : s5.skips.length ≤ 99000) (hn2 : s5.terms.length ≤ 99000) (hn3 : s5.later.length ≤ 99000) :
    (V.drew.cell? ⟨q3, 0, none⟩ = some (.int .i64 (x2.1 : Int)) ∧ V.drew.cell? ⟨q3, 1, none⟩ = some (.int .i64 (x2.2.1 : Int)) ∧ V.drew.cell? ⟨q3, 2, none⟩ = some (.string (strT x2.2.2)) ∧ V.drew.cell? ⟨q, 2, none⟩ = some (.bool sk)) ∧
    Calls Tryz.prog 69 #[.pointer (some ⟨rb, 8, none⟩), wdA x2, .bool sk] V.drew fun r u => r = .returned (.tuple #[]) ∧ (u.cell? ⟨q3, 0, none⟩ = some (.int .i64 (x2.1 : Int)) ∧ u.cell? ⟨q3, 1, none⟩ = some (.int .i64 (x2.2.1 : Int)) ∧ u.cell? ⟨q3, 2, none⟩ = some (.string (strT x2.2.2))) ∧
      Calls Tryz.prog 70 #[ptr0 rb, wdA x2] u fun r w' => r = .returned (.tuple #[]) ∧ RdP B T w rb ((s5.addW x2 sk).once x2) w' := by
  obtain ⟨T1, X1, hr, hc, i3, iq⟩ := h
  have hbd : Below V.heap.size V V.drew := (Below.refl _ V).drew
  have cd := Chg.of_below (T := T1) hbd
  have j3 := i3.keep cd
  have jq := iq.keep cd
  refine ⟨⟨j3.cell rfl, j3.cell rfl, j3.cell rfl, jq.cell rfl⟩, (addRC (hr.keep hbd) x2 sk (by omega) (by omega)).mono ?_⟩
  rintro r u ⟨e, T', X', hr', hc'⟩
  have l3 := j3.keep hc'
  refine ⟨e, ⟨l3.cell rfl, l3.cell rfl, l3.cell rfl⟩, (onceC hr' x2 ?_).mono ?_⟩
  · have : (s5.addW x2 sk).later = s5.later := by unfold RS.addW; split <;> rfl
    rw [this]; omega
  · rintro r w' ⟨e', T'', X'', hr'', hc''⟩
    exact ⟨e', T'', X'', hr'', ((hc.trans cd).trans hc').trans hc''⟩

end Go.Proofs.YtcledgljbmepaaaGreatDoor
