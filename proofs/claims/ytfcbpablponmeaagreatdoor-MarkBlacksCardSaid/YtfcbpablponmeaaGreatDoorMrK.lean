/- MarkBlacks, walked, over the marker's contracts; at this seat's numbers. -/
import Derived.Test.YtfcbpablponmeaaGreatDoorMrB
import Derived.Deep.RegionHeld3
namespace Go.Proofs.YtfcbpablponmeaaGreatDoor
open Go Go.RowKit Go.Shelf Go.MuLone Go.RwLone
set_option linter.unusedSimpArgs false
set_option linter.unusedVariables false
attribute [local go_sem] Oper.semAt_some

structure RbA (B mb tm ib : Nat) (X : ArB) (s : ArS) (obs : List Ob) (vl : Value) (vr : Value) (ys : List Int) (wb : World) (i : Nat) (T : MkB) (c : Col) (bl : List Int) (f : Int → Value) (n nn : Nat) (K : Int → Bool) (cc : Nat) (wr : World) : Prop where
  gm : GmIn B mb n X s obs vl f (adjB obs bl) (fun k => vr.ownBlock = some k ∨ k = ib) T c wb wr
  tm : T.m = tm
  row : RefRow wr vr ys
  map : MapIn wr ib nn (visF bl) K cc
  num : nn ≤ i ∧ n ≤ 240 + i
  blk : Bl bl c
  inn : ∀ x ∈ bl, x ∈ refsI obs
structure RbB (B mb n tm ib : Nat) (X : ArB) (s : ArS) (obs : List Ob) (vl : Value) (vr : Value) (ys : List Int) (bl : List Int) (f : Int → Value) (nn : Nat) (K : Int → Bool) (cc : Nat) (wb : World) (i : Nat) (T : MkB) (c : Col) (ord : List Int) (v14 : Value) (wr : World) : Prop where
  gm : GmIn B mb n X s obs vl f (adjB obs bl) (fun k => (vr.ownBlock = some k ∨ v14.ownBlock = some k) ∨ k = ib) T c wb wr
  tm : T.m = tm
  row : RefRow wr vr ys
  row14 : RefRow wr v14 (ys.take i)
  far : ∀ k, v14.ownBlock = some k → B ≤ k ∧ ¬ GoHas X mb vl f k ∧ vr.ownBlock ≠ some k
  map : MapIn wr ib nn (visF bl) K cc
  tri : Tri (adjB obs bl) (bl ++ ys.take i) c ord
  scb : ∀ x ∈ bl, c.sc x = true
def RbC (B mb n rb ib nn cc : Nat) (K : Int → Bool) (X : ArB) (s : ArS) (obs : List Ob) (vl : Value) (f : Int → Value) (bl vis : List Int) (T : MkB) (c : Col) (wb : World) (v92 : Value) (wr : World) : Prop :=
  ∃ i : Nat, i ≤ obs.length ∧ v92 = .int .i64 (i : Int) ∧ GmIn B mb n X s obs vl f (adjB obs bl) (fun k => k = rb ∨ k = ib) T c wb wr ∧ MapIn wr rb vis.length (visF vis) (visK vis) vis.length ∧ MapIn wr ib nn (visF bl) K cc
theorem rb_hold {B mb n rb ib nn cc : Nat} {K : Int → Bool} {X : ArB} {s : ArS} {obs : List Ob} {vl : Value} {f : Int → Value} {E : Nat → Prop} {bl vis : List Int} {T : MkB} {c : Col} {wb W W' : World} (h1 : GmIn B mb n X s obs vl f (adjB obs bl) E T c wb W)
    (h2 : MapIn W rb vis.length (visF vis) (visK vis) vis.length) (h3 : MapIn W ib nn (visF bl) K cc) (hB : Below W.heap.size W W') (x v u : Int) (hx : (Lit.int .i64 x).wf = true) (hv : visF vis x = v) (hu : visF bl x = u) :
    GmIn B mb n X s obs vl f (adjB obs bl) E T c wb W' ∧ MapIn W' rb vis.length (visF vis) (visK vis) vis.length ∧ MapIn W' ib nn (visF bl) K cc ∧ (Instr.lookup 38 (.map (some rb)) (.int .i64 x) false).run Tryz.prog W' = .ok (.int .i64 v) W' ∧ (Instr.lookup 38 (.map (some ib)) (.int .i64 x) false).run Tryz.prog W' = .ok (.int .i64 u) W' := by
  have h4 := h2.ask hB
  have h5 := h3.ask hB
  exact ⟨h1.ask hB, h4, h5, hv ▸ h4.look x hx, hu ▸ h5.look x hx⟩

set_option maxRecDepth 100000 in
set_option maxHeartbeats 16000000 in
theorem mblacks_true (a0 : Option Addr) (zs : List Int) (cf : Nat) (e0 : Option Addr) (ne ce : Nat) (Q : Nat → Nat → Int) (a1 : Option Addr) (us : List Int) (cu : Nat) (a2 : Option Addr) (vs : List Int) (cv : Nat) (w : World) (hsz : us.length + vs.length ≤ 9223372036854775807)
    (hF : BytesW w a0 zs) (hE : EdgesW w e0 ne Q) (hU : BytesW w a1 us) (hV : BytesW w a2 vs) (hT : Tabs w) :
    Calls Tryz.prog 8 #[.agg #[.slice a0 zs.length cf, .slice e0 ne ce], .slice a1 us.length cu, .slice a2 vs.length cv] w fun e w' => e = .returned (.bool true) ∧ Below w.heap.size w w' := by
  have HA := Lib.hid (And.intro hF (And.intro hE (And.intro hU hV)))
  clear hF hE hU hV
  go_enter Tryz.func8, Tryz.ntmps8
  go_wp2_with fail
  have hG := Blk.new w #[.slice a0 zs.length cf, .slice e0 ne ce] 25
  have hB0 := (Below.refl w.heap.size w).alloc (Nat.le_refl _) (.cells #[.slice a0 zs.length cf, .slice e0 ne ce] 25)
  have hT0 := hT.below hB0
  generalize w.alloc (.cells #[.slice a0 zs.length cf, .slice e0 ne ce] 25) = W0 at *
  refine (mkfit_true W0 hT0.c hT0.b).mono ?_
  rintro e w1 ⟨rfl, hB1⟩
  have hG1 := hG.turn (Turn.ofBelow hB1) (fun e => Nat.lt_irrefl _ (Nat.lt_of_lt_of_le hG.lt e))
  have hB01 := hB0.trans (hB1.mono hB0.size)
  have g0 := hG1.cell 0
  have g1 := hG1.cell 1
  simp only [List.getElem?_toArray, List.getElem?_cons_zero, List.getElem?_cons_succ] at g0 g1
  obtain ⟨q, hq⟩ : ∃ q, (decide (zs.length ≤ 40) && decide (ne ≤ 120)) = q := ⟨_, rfl⟩
  have cS := small_any a0 zs.length cf e0 ne ce w1 q hq
  have HW1 := Lib.hid (And.intro hG1 (And.intro hB01 (hT.below hB01)))
  have hsI : (vs.length : Int) + (us.length : Int) ≤ 9223372036854775807 := by omega
  clear hB0 hB1 hG hT0 hG1 hT hB01 hsz
  go_wp2_with fail
  refine cS.mono ?_
  rintro e w2 ⟨rfl, hB2⟩
  have hB02 := HW1.out.2.1.trans (hB2.mono HW1.out.2.1.size)
  clear cS g0 g1
  by_cases hsm : zs.length ≤ 40 ∧ ne ≤ 120 ∧ us.length + vs.length ≤ 30
  case neg =>
    cases q with
    | false =>
      clear hsm hq
      go_wp2_with fail
      go_ret
      exact ⟨rfl, hB02⟩
    | true =>
      have h20 : 30 < (vs.length : Int) + (us.length : Int) := by
        have h1 : zs.length ≤ 40 := by simpa using (Bool.and_eq_true_iff.1 hq).1
        have h2 : ne ≤ 120 := by simpa using (Bool.and_eq_true_iff.1 hq).2
        have : ¬ us.length + vs.length ≤ 30 := fun h3 => hsm ⟨h1, h2, h3⟩
        omega
      clear hsm hq
      go_wp2_with fail
      go_ret
      exact ⟨rfl, hB02⟩
  case pos =>
  obtain ⟨h40, h120, h30⟩ := hsm
  have hqt : q = true := by rw [← hq, decide_eq_true h40, decide_eq_true h120]; rfl
  subst hqt
  have h30I : ¬ 30 < (vs.length : Int) + (us.length : Int) := by omega
  have hu30 : (us.length : Int) ≤ 30 := by omega
  have hv30 : (vs.length : Int) ≤ 30 := by omega
  have hG2 := HW1.out.1.turn (Turn.ofBelow hB2) (fun e => Nat.lt_irrefl _ (Nat.lt_of_lt_of_le HW1.out.1.lt e))
  have hT2 := HW1.out.2.2.below hB2
  have cM := made_any a0 zs cf e0 ne ce Q w2 h40 h120 (HA.out.1.under hB02 (Nat.le_refl _)) (HA.out.2.1.under hB02 (Nat.le_refl _)) hT2.c
  have HTB := Lib.hid hT2.b
  have g0 := hG2.cell 0
  have g1 := hG2.cell 1
  simp only [List.getElem?_toArray, List.getElem?_cons_zero, List.getElem?_cons_succ] at g0 g1
  have HW2 := Lib.hid hB02
  have H40 := Lib.hid h40
  clear hG2 hT2 hB02 hB2 HW1 hq h40 h120 h30
  go_wp2_with fail
  refine cM.mono ?_
  rintro e w3 hMP
  obtain ⟨X, s, obs, vl, mb, n, f, rfl, hMO⟩ := hMP.ok HTB.out
  have cN := gm_new (E := fun _ => False) hMO.go hMO.P 4 (fun _ h => h.elim) (by omega) hMO.tab hMO.tab.lt
  have holI : (obs.length : Int) ≤ 40 := by have := hMO.len; have := H40.out; omega
  have HO := Lib.hid hMO
  clear hMO hMP cM g0 g1
  go_wp2_with fail
  refine cN.mono ?_
  rintro e w4 ⟨T, rfl, hGm, hB4⟩
  obtain ⟨tm, htm⟩ : ∃ tm, T.m = tm := ⟨_, rfl⟩
  rw [htm]
  have hmm := @run_makeMap Tryz.prog
  have hGi : GmIn w2.heap.size mb n X s obs vl f (ptsAt obs) (fun k => k = w4.heap.size) T Col.white w2 (w4.alloc (.map #[] 0)) := hGm.watch ((Below.refl _ w4).alloc (Nat.le_refl _) _) fun k e => .inr ⟨Nat.le_of_eq (show w4.heap.size = k from e.symm), by rw [show k = w4.heap.size from e]; simp⟩
  have hIn := MapIn.made w4
  have hib : w2.heap.size ≤ w4.heap.size := hGm.size
  have hibm : w4.heap.size ≠ mb := fun e => by have := hGm.go.grp.map.lt; omega
  have hB04 := HW2.out.trans (hGi.below.mono HW2.out.size)
  have cSo := some_any vl (refsI obs) a1 us cu (w4.alloc (.map #[] 0)) hGi.go.row (by rw [refsI_length]; omega) (by omega) (HA.out.2.2.1.under hB04 (Nat.le_refl _))
  have H4 := Lib.hid (And.intro hGi (And.intro htm (And.intro hIn (And.intro hib hibm))))
  clear hGm htm hB4 hB04 cN hGi hIn hib hibm
  go_wp2_with fail
  clear hmm
  generalize w4.alloc (.map #[] 0) = w4a at *
  generalize w4.heap.size = ib at *
  refine cSo.mono ?_
  rintro e w5 ⟨vr, rfl, hvr, hB5, hnew⟩
  obtain ⟨ys, hys⟩ : ∃ ys, ys = someL (refsI obs) us := ⟨_, rfl⟩
  rw [← hys] at hvr
  have hyin : ∀ x ∈ ys, x ∈ refsI obs := fun x hx => someL_mem (hys ▸ hx)
  have hy30 : (ys.length : Int) ≤ 30 := by rw [hys]; have := someL_length (refsI obs) us; omega
  have hlr := hvr.lenRun 3
  have hvi : visF [] = fun _ => 0 := by funext x; simp [visF]
  have h5 : RbA w2.heap.size mb tm ib X s obs vl vr ys w2 0 T Col.white [] f n 0 (fun _ => false) 0 w5 :=
    ⟨(by
      rw [adjB_nil]
      exact H4.out.1.watch hB5 fun k e => (by
        rcases e with e | e
        · exact .inr ⟨hnew k e, hvr.lt e⟩
        · exact .inl e)), H4.out.2.1, hvr, (by rw [hvi]; exact H4.out.2.2.1.ask hB5), ⟨(by omega), (by have := HO.out.n6; have := H40.out; omega)⟩, bl_white, fun x hx => (by cases hx)⟩
  have hvrn : ∀ k, vr.ownBlock = some k → w2.heap.size ≤ k := fun k e => Nat.le_trans H4.out.1.size (hnew k e)
  have HY := Lib.hid (And.intro hyin (And.intro H4.out.2.2.2 hvrn))
  clear cSo hvr hB5 hnew hys hyin hvi hvrn
  go_wp2_with fail
  clear hlr
  go_loopw [46] (fun v46 wr => ∃ (i : Nat) (T : MkB) (c : Col) (bl : List Int) (f : Int → Value) (n nn : Nat) (K : Int → Bool) (cc : Nat), i ≤ ys.length ∧ v46 = .int .i64 (i : Int) ∧ RbA w2.heap.size mb tm ib X s obs vl vr ys w2 i T c bl f n nn K cc wr) (fun v46 _ => ys.length - (intOf v46).toNat)
  case atStart => exact ⟨0, T, Col.white, [], f, n, 0, fun _ => false, 0, Nat.zero_le _, rfl, h5⟩
  case round =>
  clear h5 H4
  obtain ⟨i, T, c, bl, f, n, nn, K, cc, hi, rfl, h1⟩ := hrel
  have hi0 : (0 : Int) ≤ (i : Int) := by omega
  by_cases hlt : i < ys.length
  · have hi1 : (i : Int) < (ys.length : Int) := by omega
    obtain ⟨x, hx⟩ : ∃ x, ys[i]? = some x := ⟨_, List.getElem?_eq_getElem hlt⟩
    rcases h1.row.is with ⟨_, e⟩ | ⟨g, cap, cur, hv, hg, hlc, hcm, hcs, hcell⟩
    · rw [e] at hlt; simp at hlt
    have hca := hcell i hlt
    rw [(List.getElem?_eq_some_iff.1 hx).2] at hca
    have hxin := HY.out.1 x (List.mem_of_getElem? hx)
    have hxb := HO.out.bd x hxin
    have hwf := wf_ref hxb.1 hxb.2
    have cB := h1.gm.blacken x hxin hxb.1 hxb.2
    rw [h1.tm] at cB
    have H := Lib.hid h1
    have HX := Lib.hid (And.intro hxin hwf)
    clear h1 hx hg hlc hcm hcs hcell hxin hxb hwf
    subst hv
    go_wp2_with fail
    refine cB.mono ?_
    rintro e w7 ⟨rfl, T', hm', hG7, hk7⟩
    have hv7 := H.out.row.keepG fun k e => hk7 k (.inl e)
    have hM7 := H.out.map.keep (hk7 ib (.inr rfl))
    obtain ⟨w8, hrun8, hM8, hT8⟩ := hM7.store (by have := H.out.num.1; omega) x HX.out.2 1 (by decide)
    rw [visF_cons] at hM8
    have hib8 : ∃ o : Obj, w7.heap[ib]? = some o ∧ o.isCells = false := hM7.block
    have hG8 := hG7.turnE hT8 fun k e => by
      obtain ⟨o, ho1, ho2⟩ := hib8
      have e2 : k = ib := e
      subst e2
      exact ⟨.inr rfl, HY.out.2.1.1, hG7.go.farObj ho1 ho2 HY.out.2.1.2⟩
    have hv8 := hv7.turn hT8 (fun k e e2 => by
      obtain ⟨_, hb⟩ := hv7.own e
      exact hM7.farBlk hb e2)
    obtain ⟨w9, hrun9, hG9, hT9⟩ := hG8.cut (by have := H.out.num.2; omega) x HX.out.2
    rw [adjB_cons] at hG9
    have hv9 := hv8.turn hT9 (fun k e e2 => by
      obtain ⟨_, hb⟩ := hv8.own e
      exact hG8.go.grp.farBlk hb e2)
    have hM9 := hM8.turn hT9 HY.out.2.1.2
    have h9 : RbA w2.heap.size mb tm ib X s obs vl (.slice (some ⟨g, 0, none⟩) ys.length cap) ys w2 (i + 1) T' (c.black x) (x :: bl) (updI f x (.slice none 0 0)) (n + 1) (nn + 1) (updI K x true) (if K x then cc else cc + 1) w9 :=
      ⟨hG9, hm', hv9, hM9, ⟨by have := H.out.num.1; omega, by have := H.out.num.2; omega⟩, H.out.blk.cons x, fun y hy => by
        rcases List.mem_cons.1 hy with e | e
        · rw [e]; exact HX.out.1
        · exact H.out.inn y e⟩
    have H9 := Lib.hid h9
    clear cB hm' hG7 hk7 hv7 hM7 hM8 hT8 hib8 hG8 hv8 hG9 hT9 hv9 hM9 h9 hca
    go_wp2_with (first | (at_mapUpdate; refine wpList_mapUpdate_run _ rfl _ _ _ _ rfl _ _ _ rfl rfl rfl hrun8 ?_) | (at_mapUpdate; refine wpList_mapUpdate_run _ rfl _ _ _ _ rfl _ _ _ rfl rfl rfl hrun9 ?_))
    go_roundw
    case rel => exact ⟨i + 1, T', _, _, _, _, _, _, _, hlt, by go_num, H9.out⟩
    case measure => simp [intOf]; omega
  · have hi1 : ¬ (i : Int) < (ys.length : Int) := by omega
    clear hlt hi hi0
    obtain ⟨ord, hTri⟩ := h1.blk.tri (obs := obs) (fun x hx => by have := (HO.out.bd x (h1.inn x hx)).1; omega)
    have hB04 := HW2.out.trans (h1.gm.below.mono HW2.out.size)
    have cSo := some_any vl (refsI obs) a2 vs cv wr h1.gm.go.row (by rw [refsI_length]; omega) (by omega) (HA.out.2.2.2.under hB04 (Nat.le_refl _))
    have H := Lib.hid (And.intro h1 hTri)
    clear h1 hB04 hTri
    go_wp2_with fail
    refine cSo.mono ?_
    rintro e w6 ⟨vq, rfl, hvq, hB6, hnew⟩
    obtain ⟨rs, hrs⟩ : ∃ rs, rs = someL (refsI obs) vs := ⟨_, rfl⟩
    rw [← hrs] at hvq
    have hrin : ∀ x ∈ rs, x ∈ refsI obs := fun x hx => someL_mem (hrs ▸ hx)
    have hr30 : (rs.length : Int) ≤ 30 := by rw [hrs]; have := someL_length (refsI obs) vs; omega
    have h6 : RbB w2.heap.size mb n tm ib X s obs vl vq rs bl f nn K cc w2 0 T c ord (.slice none 0 0) w6 :=
      ⟨H.out.1.gm.watch hB6 fun k e => (by
        rcases e with (e | e) | e
        · exact .inr ⟨hnew k e, hvq.lt e⟩
        · cases e
        · exact .inl (.inr e)), H.out.1.tm, hvq, World.ownsRow_nil _ _ _ _, (fun k e => by cases e), H.out.1.map.ask hB6, (by simpa using H.out.2), fun x hx => (H.out.1.blk.sc x).2 hx⟩
    have hlr := hvq.lenRun 3
    have HR := Lib.hid (And.intro hrin (And.intro H.out.1.inn H.out.1.num))
    have hvqn : ∀ k, vq.ownBlock = some k → w2.heap.size ≤ k := fun k e => Nat.le_trans H.out.1.gm.size (hnew k e)
    clear cSo hvq hB6 hnew hrs hrin hvqn H
    go_wp2_with fail
    clear hlr
    go_loopw [14, 62] (fun v14 v62 wr => ∃ (i : Nat) (T : MkB) (c : Col), i ≤ rs.length ∧ v62 = .int .i64 (i : Int) ∧ RbB w2.heap.size mb n tm ib X s obs vl vq rs bl f nn K cc w2 i T c ord v14 wr) (fun _ v62 _ => rs.length - (intOf v62).toNat)
    case atStart => exact ⟨0, T, c, Nat.zero_le _, rfl, h6⟩
    case round =>
    clear h6
    obtain ⟨i, T, c, hi, rfl, h1⟩ := hrel
    have hi0 : (0 : Int) ≤ (i : Int) := by omega
    by_cases hlt : i < rs.length
    · have hi1 : (i : Int) < (rs.length : Int) := by omega
      obtain ⟨x, hx⟩ : ∃ x, rs[i]? = some x := ⟨_, List.getElem?_eq_getElem hlt⟩
      rcases h1.row.is with ⟨_, e⟩ | ⟨g, cap, cur, hv, hg, hlc, hcm, hcs, hcell⟩
      · rw [e] at hlt; simp at hlt
      have hca := hcell i hlt
      rw [(List.getElem?_eq_some_iff.1 hx).2] at hca
      have hxin := HR.out.1 x (List.mem_of_getElem? hx)
      have hxb := HO.out.bd x hxin
      have hwf := wf_ref hxb.1 hxb.2
      have cSh := h1.gm.drew.shade x hxin hxb.1 hxb.2
      rw [h1.tm] at cSh
      have hlk : ∀ u, visF bl x = u → (Instr.lookup 38 (.map (some ib)) (.int .i64 x) false).run Tryz.prog wr = .ok (.int .i64 u) wr := fun u hu => by have := h1.map.look x hwf; rw [hu] at this; exact this
      have hlkD : ∀ u, visF bl x = u → (Instr.lookup 38 (.map (some ib)) (.int .i64 x) false).run Tryz.prog wr.drew = .ok (.int .i64 u) wr.drew := fun u hu => by have := (h1.map.ask (Below.refl _ wr).drew).look x hwf; rw [hu] at this; exact this
      have hxl : (rs.take i).length ≤ 100000 := by rw [List.length_take]; omega
      have H := Lib.hid h1
      have HX := Lib.hid (And.intro hx (And.intro hxb hwf))
      have HLK := Lib.hid hlkD
      subst hv
      clear h1 hx hg hlc hcm hcs hcell hxin hxb hwf hlk hlkD
      by_cases hxbl : x ∈ bl
      · have hb : c.ma x = true := H.out.tri.sub x (H.out.scb x hxbl)
        have hu : visF bl x = 1 := by unfold visF; rw [if_pos hxbl]
        have hlu := HLK.out 1 hu
        have HU := Lib.hid hu
        rw [hb] at cSh
        clear hb hu hxbl
        go_wp2_with fail
        refine wp_region_noPanic ?_
        refine wp_region_held_drew (S := (fun W' => (Instr.lookup 38 (.map (some ib)) (.int .i64 x) false).run Tryz.prog W' = .ok (.int .i64 1) W')) (by kernel_rfl) (HLK.out 1 HU.out) (fun hHeld => ?_)
        refine wpAnyH_take (i := 0) (v := ?vg1x0) rfl (by kernel_rfl) (by kernel_rfl) (by kernel_rfl) (fun _ _ _ h => h) (Or.inl ⟨by rfl, ?hyg1x0⟩) (by assumption) ?restg1x0
        case hyg1x0 => (intro w hSw; (try dsimp only at hSw); go_simp; try with_reducible rfl)
        try simp only [Act.put, List.getElem_toArray, List.getElem_cons_succ, List.getElem_cons_zero, List.setIfInBounds_toArray, List.set_cons_zero, List.set_cons_succ]
        refine wpAnyH_take (i := 1) (v := ?vg1x1) rfl (by kernel_rfl) (by kernel_rfl) (by kernel_rfl) (fun _ _ _ h => h) (Or.inl ⟨by rfl, ?hyg1x1⟩) (by assumption) ?restg1x1
        case hyg1x1 => (intro w hSw; (try dsimp only at hSw); go_simp; try with_reducible rfl)
        try simp only [Act.put, List.getElem_toArray, List.getElem_cons_succ, List.getElem_cons_zero, List.setIfInBounds_toArray, List.set_cons_zero, List.set_cons_succ]
        refine wpAnyH_take (i := 3) (v := ?vg1x3) rfl (by kernel_rfl) (by kernel_rfl) (by kernel_rfl) (fun _ _ _ h => h) (Or.inl ⟨by rfl, ?hyg1x3⟩) (by assumption) ?restg1x3
        case hyg1x3 => (intro w hSw; (try dsimp only at hSw); go_simp; try with_reducible rfl)
        try simp only [Act.put, List.getElem_toArray, List.getElem_cons_succ, List.getElem_cons_zero, List.setIfInBounds_toArray, List.set_cons_zero, List.set_cons_succ]
        refine wpAnyH_take (i := 4) (v := ?vg1x4) rfl (by kernel_rfl) (by kernel_rfl) (by kernel_rfl) (fun _ _ _ h => h) (Or.inl ⟨by rfl, ?hyg1x4⟩) (by assumption) ?restg1x4
        case hyg1x4 => (intro w hSw; (try dsimp only at hSw); go_simp; try with_reducible rfl)
        try simp only [Act.put, List.getElem_toArray, List.getElem_cons_succ, List.getElem_cons_zero, List.setIfInBounds_toArray, List.set_cons_zero, List.set_cons_succ]
        refine wpAnyH_take (i := 5) (v := ?vg1x5) rfl (by kernel_rfl) (by kernel_rfl) (by kernel_rfl) (fun _ _ _ h => h) (Or.inl ⟨by rfl, ?hyg1x5⟩) (by assumption) ?restg1x5
        case hyg1x5 => (intro w hSw; (try dsimp only at hSw); go_simp; try with_reducible rfl)
        try simp only [Act.put, List.getElem_toArray, List.getElem_cons_succ, List.getElem_cons_zero, List.setIfInBounds_toArray, List.set_cons_zero, List.set_cons_succ]
        refine wpAnyH_take (i := 6) (v := ?vg1x6) rfl (by kernel_rfl) (by kernel_rfl) (by kernel_rfl) (fun _ _ _ h => h) (Or.inl ⟨by rfl, ?hyg1x6⟩) (by assumption) ?restg1x6
        case hyg1x6 => (intro w hSw; (try dsimp only at hSw); go_simp; try with_reducible rfl)
        try simp only [Act.put, List.getElem_toArray, List.getElem_cons_succ, List.getElem_cons_zero, List.setIfInBounds_toArray, List.set_cons_zero, List.set_cons_succ]
        refine wpAnyH_ready (rs := [2]) (by kernel_rfl) (by simp) ?_
        refine AllReadyH.cons rfl (fun K hK => ?_) AllReadyH.nil
        go_simp
        refine cSh.mono ?_
        rintro e w7 ⟨rfl, T', hm', hG7, hk7⟩
        have hM7 := H.out.map.keep (hk7 ib (.inr rfl))
        go_wp2_with fail
        refine hK.out _ _ (by have := hM7.look x HX.out.2.2; rw [HU.out] at this; exact this) (fun hHeld => ?_)
        try simp only [Act.put, List.getElem_toArray, List.getElem_cons_succ, List.getElem_cons_zero, List.setIfInBounds_toArray, List.set_cons_zero, List.set_cons_succ]
        refine wpAnyH_take (i := 7) (v := ?vg1x7) rfl (by kernel_rfl) (by kernel_rfl) (by kernel_rfl) (fun _ _ _ h => h) (Or.inl ⟨by rfl, ?hyg1x7⟩) (by assumption) ?restg1x7
        case hyg1x7 => (intro w hSw; (try dsimp only at hSw); go_simp; try with_reducible rfl)
        try simp only [Act.put, List.getElem_toArray, List.getElem_cons_succ, List.getElem_cons_zero, List.setIfInBounds_toArray, List.set_cons_zero, List.set_cons_succ]
        refine wpAnyH_take (i := 8) (v := ?vg1x8) rfl (by kernel_rfl) (by kernel_rfl) (by kernel_rfl) (fun _ _ _ h => h) (Or.inl ⟨by rfl, ?hyg1x8⟩) (by assumption) ?restg1x8
        case hyg1x8 => (intro w hSw; (try dsimp only at hSw); go_simp; try with_reducible rfl)
        try simp only [Act.put, List.getElem_toArray, List.getElem_cons_succ, List.getElem_cons_zero, List.setIfInBounds_toArray, List.set_cons_zero, List.set_cons_succ]
        refine wpAnyH_take (i := 9) (v := undef) rfl (by kernel_rfl) (by kernel_rfl) (by kernel_rfl) (fun _ _ _ h => h) (Or.inr ⟨by rfl, rfl⟩) (by assumption) ?_
        try simp only [Act.put, List.getElem_toArray, List.getElem_cons_succ, List.getElem_cons_zero, List.setIfInBounds_toArray, List.set_cons_zero, List.set_cons_succ]
        refine wpAnyH_take (i := 10) (v := undef) rfl (by kernel_rfl) (by kernel_rfl) (by kernel_rfl) (fun _ _ _ h => h) (Or.inr ⟨by rfl, rfl⟩) (by assumption) ?_
        try simp only [Act.put, List.getElem_toArray, List.getElem_cons_succ, List.getElem_cons_zero, List.setIfInBounds_toArray, List.set_cons_zero, List.set_cons_succ]
        refine wpAnyH_take (i := 11) (v := undef) rfl (by kernel_rfl) (by kernel_rfl) (by kernel_rfl) (fun _ _ _ h => h) (Or.inr ⟨by rfl, rfl⟩) (by assumption) ?_
        try simp only [Act.put, List.getElem_toArray, List.getElem_cons_succ, List.getElem_cons_zero, List.setIfInBounds_toArray, List.set_cons_zero, List.set_cons_succ]
        refine wpAnyH_take (i := 12) (v := undef) rfl (by kernel_rfl) (by kernel_rfl) (by kernel_rfl) (fun _ _ _ h => h) (Or.inr ⟨by rfl, rfl⟩) (by assumption) ?_
        try simp only [Act.put, List.getElem_toArray, List.getElem_cons_succ, List.getElem_cons_zero, List.setIfInBounds_toArray, List.set_cons_zero, List.set_cons_succ]
        refine wpAnyH_take (i := 13) (v := ?vg1x13) rfl (by kernel_rfl) (by kernel_rfl) (by kernel_rfl) (fun _ _ _ h => h) (Or.inl ⟨by rfl, ?hyg1x13⟩) (by assumption) ?restg1x13
        case hyg1x13 => (intro w hSw; (try dsimp only at hSw); go_simp; try with_reducible rfl)
        try simp only [Act.put, List.getElem_toArray, List.getElem_cons_succ, List.getElem_cons_zero, List.setIfInBounds_toArray, List.set_cons_zero, List.set_cons_succ]
        refine wpAnyH_done (by kernel_rfl) (NoPanic.normal ?_) _
        have hv7 := H.out.row.keepG fun k e => hk7 k (.inl (.inl e))
        have h14 := H.out.row14.keepG fun k e => hk7 k (.inl (.inr e))
        have h14a := h14.ask ((Below.refl _ w7).alloc (Nat.le_refl _) (.cells #[.int .i64 x] 36))
        have H7 := Lib.hid (And.intro hG7 (And.intro hv7 (And.intro hM7 (And.intro hm' h14a))))
        clear hm' hG7 hk7 hv7 hM7 h14 cSh hlu hca
        go_wp2_with (at_builtin; refine wpList_pushT rfl _ _ rfl h14a hxl w7.heap.size 1 x ((Blk.new w7 _ _).cell 0) rfl rfl ?_; intro g6 n6 c6 w6 hR6 hT6 hN6; have H6 := Lib.hid (And.intro hR6 (And.intro hT6 hN6)); clear hR6 hT6 hN6 h14a)
        go_roundw
        case rel =>
          obtain ⟨hG7, hv7, hM7, hm', h14a⟩ := H7.out
          obtain ⟨hR6, hT6, hN6⟩ := H6.out
          have hfar := H.out.far
          have hGa := hG7.alloc (.cells #[.int .i64 x] 36)
          have hG8 := hGa.turnE hT6 fun k e => ⟨.inl (.inr e), (hfar k e).1, (hfar k e).2.1⟩
          have hba := (Below.refl _ w7).alloc (Nat.le_refl _) (.cells #[.int .i64 x] 36)
          have hva := hv7.ask hba
          have hMa := hM7.ask hba
          have hg6 : ∀ k, (Value.slice (some ⟨g6, 0, none⟩) n6 c6).ownBlock = some k → w2.heap.size ≤ k ∧ ¬ GoHas X mb vl f k ∧ (Value.slice (some ⟨g, 0, none⟩) rs.length cap).ownBlock ≠ some k ∧ ¬ T'.has k := fun k e => by
            have e2 := own_slice e
            subst e2
            rcases hN6 with e3 | e3
            · exact ⟨(hfar _ e3).1, (hfar _ e3).2.1, (hfar _ e3).2.2, fun e4 => (hG7.own _ e4).2.2 (.inl (.inr e3))⟩
            · have hsz := hGa.size
              exact ⟨by omega, fun e4 => by have := hGa.go.lt _ e4; omega, fun e4 => by have := hva.lt e4; omega, fun e4 => by have := hGa.mt.lt _ e4; omega⟩
          have hT := H.out.tri.shade (x := x) (by have := HX.out.2.1.1; omega)
          rw [List.append_assoc, ← take_nextR HX.out.1] at hT
          refine ⟨i + 1, T', _, hlt, by go_num, ⟨hG8.reE (fun k e => ?_), hm', hva.turn hT6 (fun k e e2 => (hfar k e2).2.2 e), by rw [take_nextR HX.out.1]; exact hR6, fun k e => ⟨(hg6 k e).1, (hg6 k e).2.1, (hg6 k e).2.2.1⟩, hMa.turn hT6 (fun e => by
            obtain ⟨_, hb⟩ := h14a.own e
            exact hMa.farBlk hb rfl), hT, H.out.scb⟩⟩
          rcases e with (e | e) | e
          · exact ⟨fun e2 => (hG8.own k e2).2.2 (.inl (.inl e)), hG8.ext k (.inl (.inl e))⟩
          · exact ⟨(hg6 k e).2.2.2, hR6.lt e⟩
          · exact ⟨fun e2 => (hG8.own k e2).2.2 (.inr e), hG8.ext k (.inr e)⟩
        case measure => simp [intOf]; omega
      · have hu : visF bl x = 0 := by unfold visF; rw [if_neg hxbl]
        have hlu := HLK.out 0 hu
        have HU := Lib.hid hu
        cases hb : c.ma x
        · rw [hb] at cSh
          clear hb hu hxbl
          go_wp2_with fail
          refine wp_region_noPanic ?_
          refine wp_region_held_drew (S := (fun W' => (Instr.lookup 38 (.map (some ib)) (.int .i64 x) false).run Tryz.prog W' = .ok (.int .i64 0) W')) (by kernel_rfl) (HLK.out 0 HU.out) (fun hHeld => ?_)
          refine wpAnyH_take (i := 0) (v := ?vg2x0) rfl (by kernel_rfl) (by kernel_rfl) (by kernel_rfl) (fun _ _ _ h => h) (Or.inl ⟨by rfl, ?hyg2x0⟩) (by assumption) ?restg2x0
          case hyg2x0 => (intro w hSw; (try dsimp only at hSw); go_simp; try with_reducible rfl)
          try simp only [Act.put, List.getElem_toArray, List.getElem_cons_succ, List.getElem_cons_zero, List.setIfInBounds_toArray, List.set_cons_zero, List.set_cons_succ]
          refine wpAnyH_take (i := 1) (v := ?vg2x1) rfl (by kernel_rfl) (by kernel_rfl) (by kernel_rfl) (fun _ _ _ h => h) (Or.inl ⟨by rfl, ?hyg2x1⟩) (by assumption) ?restg2x1
          case hyg2x1 => (intro w hSw; (try dsimp only at hSw); go_simp; try with_reducible rfl)
          try simp only [Act.put, List.getElem_toArray, List.getElem_cons_succ, List.getElem_cons_zero, List.setIfInBounds_toArray, List.set_cons_zero, List.set_cons_succ]
          refine wpAnyH_take (i := 3) (v := ?vg2x3) rfl (by kernel_rfl) (by kernel_rfl) (by kernel_rfl) (fun _ _ _ h => h) (Or.inl ⟨by rfl, ?hyg2x3⟩) (by assumption) ?restg2x3
          case hyg2x3 => (intro w hSw; (try dsimp only at hSw); go_simp; try with_reducible rfl)
          try simp only [Act.put, List.getElem_toArray, List.getElem_cons_succ, List.getElem_cons_zero, List.setIfInBounds_toArray, List.set_cons_zero, List.set_cons_succ]
          refine wpAnyH_take (i := 4) (v := ?vg2x4) rfl (by kernel_rfl) (by kernel_rfl) (by kernel_rfl) (fun _ _ _ h => h) (Or.inl ⟨by rfl, ?hyg2x4⟩) (by assumption) ?restg2x4
          case hyg2x4 => (intro w hSw; (try dsimp only at hSw); go_simp; try with_reducible rfl)
          try simp only [Act.put, List.getElem_toArray, List.getElem_cons_succ, List.getElem_cons_zero, List.setIfInBounds_toArray, List.set_cons_zero, List.set_cons_succ]
          refine wpAnyH_take (i := 5) (v := ?vg2x5) rfl (by kernel_rfl) (by kernel_rfl) (by kernel_rfl) (fun _ _ _ h => h) (Or.inl ⟨by rfl, ?hyg2x5⟩) (by assumption) ?restg2x5
          case hyg2x5 => (intro w hSw; (try dsimp only at hSw); go_simp; try with_reducible rfl)
          try simp only [Act.put, List.getElem_toArray, List.getElem_cons_succ, List.getElem_cons_zero, List.setIfInBounds_toArray, List.set_cons_zero, List.set_cons_succ]
          refine wpAnyH_take (i := 6) (v := ?vg2x6) rfl (by kernel_rfl) (by kernel_rfl) (by kernel_rfl) (fun _ _ _ h => h) (Or.inl ⟨by rfl, ?hyg2x6⟩) (by assumption) ?restg2x6
          case hyg2x6 => (intro w hSw; (try dsimp only at hSw); go_simp; try with_reducible rfl)
          try simp only [Act.put, List.getElem_toArray, List.getElem_cons_succ, List.getElem_cons_zero, List.setIfInBounds_toArray, List.set_cons_zero, List.set_cons_succ]
          refine wpAnyH_ready (rs := [2]) (by kernel_rfl) (by simp) ?_
          refine AllReadyH.cons rfl (fun K hK => ?_) AllReadyH.nil
          go_simp
          refine cSh.mono ?_
          rintro e w7 ⟨rfl, T', hm', hG7, hk7⟩
          have hM7 := H.out.map.keep (hk7 ib (.inr rfl))
          go_wp2_with fail
          refine hK.out _ _ (by have := hM7.look x HX.out.2.2; rw [HU.out] at this; exact this) (fun hHeld => ?_)
          try simp only [Act.put, List.getElem_toArray, List.getElem_cons_succ, List.getElem_cons_zero, List.setIfInBounds_toArray, List.set_cons_zero, List.set_cons_succ]
          refine wpAnyH_take (i := 7) (v := ?vg2x7) rfl (by kernel_rfl) (by kernel_rfl) (by kernel_rfl) (fun _ _ _ h => h) (Or.inl ⟨by rfl, ?hyg2x7⟩) (by assumption) ?restg2x7
          case hyg2x7 => (intro w hSw; (try dsimp only at hSw); go_simp; try with_reducible rfl)
          try simp only [Act.put, List.getElem_toArray, List.getElem_cons_succ, List.getElem_cons_zero, List.setIfInBounds_toArray, List.set_cons_zero, List.set_cons_succ]
          refine wpAnyH_take (i := 8) (v := ?vg2x8) rfl (by kernel_rfl) (by kernel_rfl) (by kernel_rfl) (fun _ _ _ h => h) (Or.inl ⟨by rfl, ?hyg2x8⟩) (by assumption) ?restg2x8
          case hyg2x8 => (intro w hSw; (try dsimp only at hSw); go_simp; try with_reducible rfl)
          try simp only [Act.put, List.getElem_toArray, List.getElem_cons_succ, List.getElem_cons_zero, List.setIfInBounds_toArray, List.set_cons_zero, List.set_cons_succ]
          refine wpAnyH_take (i := 9) (v := undef) rfl (by kernel_rfl) (by kernel_rfl) (by kernel_rfl) (fun _ _ _ h => h) (Or.inr ⟨by rfl, rfl⟩) (by assumption) ?_
          try simp only [Act.put, List.getElem_toArray, List.getElem_cons_succ, List.getElem_cons_zero, List.setIfInBounds_toArray, List.set_cons_zero, List.set_cons_succ]
          refine wpAnyH_take (i := 10) (v := undef) rfl (by kernel_rfl) (by kernel_rfl) (by kernel_rfl) (fun _ _ _ h => h) (Or.inr ⟨by rfl, rfl⟩) (by assumption) ?_
          try simp only [Act.put, List.getElem_toArray, List.getElem_cons_succ, List.getElem_cons_zero, List.setIfInBounds_toArray, List.set_cons_zero, List.set_cons_succ]
          refine wpAnyH_take (i := 11) (v := undef) rfl (by kernel_rfl) (by kernel_rfl) (by kernel_rfl) (fun _ _ _ h => h) (Or.inr ⟨by rfl, rfl⟩) (by assumption) ?_
          try simp only [Act.put, List.getElem_toArray, List.getElem_cons_succ, List.getElem_cons_zero, List.setIfInBounds_toArray, List.set_cons_zero, List.set_cons_succ]
          refine wpAnyH_take (i := 12) (v := undef) rfl (by kernel_rfl) (by kernel_rfl) (by kernel_rfl) (fun _ _ _ h => h) (Or.inr ⟨by rfl, rfl⟩) (by assumption) ?_
          try simp only [Act.put, List.getElem_toArray, List.getElem_cons_succ, List.getElem_cons_zero, List.setIfInBounds_toArray, List.set_cons_zero, List.set_cons_succ]
          refine wpAnyH_take (i := 13) (v := ?vg2x13) rfl (by kernel_rfl) (by kernel_rfl) (by kernel_rfl) (fun _ _ _ h => h) (Or.inl ⟨by rfl, ?hyg2x13⟩) (by assumption) ?restg2x13
          case hyg2x13 => (intro w hSw; (try dsimp only at hSw); go_simp; try with_reducible rfl)
          try simp only [Act.put, List.getElem_toArray, List.getElem_cons_succ, List.getElem_cons_zero, List.setIfInBounds_toArray, List.set_cons_zero, List.set_cons_succ]
          refine wpAnyH_done (by kernel_rfl) (NoPanic.normal ?_) _
          have hv7 := H.out.row.keepG fun k e => hk7 k (.inl (.inl e))
          have h14 := H.out.row14.keepG fun k e => hk7 k (.inl (.inr e))
          have h14a := h14.ask ((Below.refl _ w7).alloc (Nat.le_refl _) (.cells #[.int .i64 x] 36))
          have H7 := Lib.hid (And.intro hG7 (And.intro hv7 (And.intro hM7 (And.intro hm' h14a))))
          clear hm' hG7 hk7 hv7 hM7 h14 cSh hlu hca
          go_wp2_with (at_builtin; refine wpList_pushT rfl _ _ rfl h14a hxl w7.heap.size 1 x ((Blk.new w7 _ _).cell 0) rfl rfl ?_; intro g6 n6 c6 w6 hR6 hT6 hN6; have H6 := Lib.hid (And.intro hR6 (And.intro hT6 hN6)); clear hR6 hT6 hN6 h14a)
          go_roundw
          case rel =>
            obtain ⟨hG7, hv7, hM7, hm', h14a⟩ := H7.out
            obtain ⟨hR6, hT6, hN6⟩ := H6.out
            have hfar := H.out.far
            have hGa := hG7.alloc (.cells #[.int .i64 x] 36)
            have hG8 := hGa.turnE hT6 fun k e => ⟨.inl (.inr e), (hfar k e).1, (hfar k e).2.1⟩
            have hba := (Below.refl _ w7).alloc (Nat.le_refl _) (.cells #[.int .i64 x] 36)
            have hva := hv7.ask hba
            have hMa := hM7.ask hba
            have hg6 : ∀ k, (Value.slice (some ⟨g6, 0, none⟩) n6 c6).ownBlock = some k → w2.heap.size ≤ k ∧ ¬ GoHas X mb vl f k ∧ (Value.slice (some ⟨g, 0, none⟩) rs.length cap).ownBlock ≠ some k ∧ ¬ T'.has k := fun k e => by
              have e2 := own_slice e
              subst e2
              rcases hN6 with e3 | e3
              · exact ⟨(hfar _ e3).1, (hfar _ e3).2.1, (hfar _ e3).2.2, fun e4 => (hG7.own _ e4).2.2 (.inl (.inr e3))⟩
              · have hsz := hGa.size
                exact ⟨by omega, fun e4 => by have := hGa.go.lt _ e4; omega, fun e4 => by have := hva.lt e4; omega, fun e4 => by have := hGa.mt.lt _ e4; omega⟩
            have hT := H.out.tri.shade (x := x) (by have := HX.out.2.1.1; omega)
            rw [List.append_assoc, ← take_nextR HX.out.1] at hT
            refine ⟨i + 1, T', _, hlt, by go_num, ⟨hG8.reE (fun k e => ?_), hm', hva.turn hT6 (fun k e e2 => (hfar k e2).2.2 e), by rw [take_nextR HX.out.1]; exact hR6, fun k e => ⟨(hg6 k e).1, (hg6 k e).2.1, (hg6 k e).2.2.1⟩, hMa.turn hT6 (fun e => by
              obtain ⟨_, hb⟩ := h14a.own e
              exact hMa.farBlk hb rfl), hT, H.out.scb⟩⟩
            rcases e with (e | e) | e
            · exact ⟨fun e2 => (hG8.own k e2).2.2 (.inl (.inl e)), hG8.ext k (.inl (.inl e))⟩
            · exact ⟨(hg6 k e).2.2.2, hR6.lt e⟩
            · exact ⟨fun e2 => (hG8.own k e2).2.2 (.inr e), hG8.ext k (.inr e)⟩
          case measure => simp [intOf]; omega
        · rw [hb] at cSh
          clear hb hu hxbl
          go_wp2_with fail
          refine wp_region_noPanic ?_
          refine wp_region_held_drew (S := (fun W' => (Instr.lookup 38 (.map (some ib)) (.int .i64 x) false).run Tryz.prog W' = .ok (.int .i64 0) W')) (by kernel_rfl) (HLK.out 0 HU.out) (fun hHeld => ?_)
          refine wpAnyH_take (i := 0) (v := ?vg3x0) rfl (by kernel_rfl) (by kernel_rfl) (by kernel_rfl) (fun _ _ _ h => h) (Or.inl ⟨by rfl, ?hyg3x0⟩) (by assumption) ?restg3x0
          case hyg3x0 => (intro w hSw; (try dsimp only at hSw); go_simp; try with_reducible rfl)
          try simp only [Act.put, List.getElem_toArray, List.getElem_cons_succ, List.getElem_cons_zero, List.setIfInBounds_toArray, List.set_cons_zero, List.set_cons_succ]
          refine wpAnyH_take (i := 1) (v := ?vg3x1) rfl (by kernel_rfl) (by kernel_rfl) (by kernel_rfl) (fun _ _ _ h => h) (Or.inl ⟨by rfl, ?hyg3x1⟩) (by assumption) ?restg3x1
          case hyg3x1 => (intro w hSw; (try dsimp only at hSw); go_simp; try with_reducible rfl)
          try simp only [Act.put, List.getElem_toArray, List.getElem_cons_succ, List.getElem_cons_zero, List.setIfInBounds_toArray, List.set_cons_zero, List.set_cons_succ]
          refine wpAnyH_take (i := 3) (v := ?vg3x3) rfl (by kernel_rfl) (by kernel_rfl) (by kernel_rfl) (fun _ _ _ h => h) (Or.inl ⟨by rfl, ?hyg3x3⟩) (by assumption) ?restg3x3
          case hyg3x3 => (intro w hSw; (try dsimp only at hSw); go_simp; try with_reducible rfl)
          try simp only [Act.put, List.getElem_toArray, List.getElem_cons_succ, List.getElem_cons_zero, List.setIfInBounds_toArray, List.set_cons_zero, List.set_cons_succ]
          refine wpAnyH_take (i := 4) (v := ?vg3x4) rfl (by kernel_rfl) (by kernel_rfl) (by kernel_rfl) (fun _ _ _ h => h) (Or.inl ⟨by rfl, ?hyg3x4⟩) (by assumption) ?restg3x4
          case hyg3x4 => (intro w hSw; (try dsimp only at hSw); go_simp; try with_reducible rfl)
          try simp only [Act.put, List.getElem_toArray, List.getElem_cons_succ, List.getElem_cons_zero, List.setIfInBounds_toArray, List.set_cons_zero, List.set_cons_succ]
          refine wpAnyH_take (i := 5) (v := ?vg3x5) rfl (by kernel_rfl) (by kernel_rfl) (by kernel_rfl) (fun _ _ _ h => h) (Or.inl ⟨by rfl, ?hyg3x5⟩) (by assumption) ?restg3x5
          case hyg3x5 => (intro w hSw; (try dsimp only at hSw); go_simp; try with_reducible rfl)
          try simp only [Act.put, List.getElem_toArray, List.getElem_cons_succ, List.getElem_cons_zero, List.setIfInBounds_toArray, List.set_cons_zero, List.set_cons_succ]
          refine wpAnyH_take (i := 6) (v := ?vg3x6) rfl (by kernel_rfl) (by kernel_rfl) (by kernel_rfl) (fun _ _ _ h => h) (Or.inl ⟨by rfl, ?hyg3x6⟩) (by assumption) ?restg3x6
          case hyg3x6 => (intro w hSw; (try dsimp only at hSw); go_simp; try with_reducible rfl)
          try simp only [Act.put, List.getElem_toArray, List.getElem_cons_succ, List.getElem_cons_zero, List.setIfInBounds_toArray, List.set_cons_zero, List.set_cons_succ]
          refine wpAnyH_ready (rs := [2]) (by kernel_rfl) (by simp) ?_
          refine AllReadyH.cons rfl (fun K hK => ?_) AllReadyH.nil
          go_simp
          refine cSh.mono ?_
          rintro e w7 ⟨rfl, T', hm', hG7, hk7⟩
          have hM7 := H.out.map.keep (hk7 ib (.inr rfl))
          go_wp2_with fail
          refine hK.out _ _ (by have := hM7.look x HX.out.2.2; rw [HU.out] at this; exact this) (fun hHeld => ?_)
          try simp only [Act.put, List.getElem_toArray, List.getElem_cons_succ, List.getElem_cons_zero, List.setIfInBounds_toArray, List.set_cons_zero, List.set_cons_succ]
          refine wpAnyH_take (i := 7) (v := ?vg3x7) rfl (by kernel_rfl) (by kernel_rfl) (by kernel_rfl) (fun _ _ _ h => h) (Or.inl ⟨by rfl, ?hyg3x7⟩) (by assumption) ?restg3x7
          case hyg3x7 => (intro w hSw; (try dsimp only at hSw); go_simp; try with_reducible rfl)
          try simp only [Act.put, List.getElem_toArray, List.getElem_cons_succ, List.getElem_cons_zero, List.setIfInBounds_toArray, List.set_cons_zero, List.set_cons_succ]
          refine wpAnyH_take (i := 8) (v := ?vg3x8) rfl (by kernel_rfl) (by kernel_rfl) (by kernel_rfl) (fun _ _ _ h => h) (Or.inl ⟨by rfl, ?hyg3x8⟩) (by assumption) ?restg3x8
          case hyg3x8 => (intro w hSw; (try dsimp only at hSw); go_simp; try with_reducible rfl)
          try simp only [Act.put, List.getElem_toArray, List.getElem_cons_succ, List.getElem_cons_zero, List.setIfInBounds_toArray, List.set_cons_zero, List.set_cons_succ]
          refine wpAnyH_take (i := 9) (v := ?vg3x9) rfl (by kernel_rfl) (by kernel_rfl) (by kernel_rfl) (fun _ _ _ h => h) (Or.inl ⟨by rfl, ?hyg3x9⟩) (by assumption) ?restg3x9
          case hyg3x9 => (intro w hSw; (try dsimp only at hSw); go_simp; try with_reducible rfl)
          try simp only [Act.put, List.getElem_toArray, List.getElem_cons_succ, List.getElem_cons_zero, List.setIfInBounds_toArray, List.set_cons_zero, List.set_cons_succ]
          refine wpAnyH_take (i := 10) (v := ?vg3x10) rfl (by kernel_rfl) (by kernel_rfl) (by kernel_rfl) (fun _ _ _ h => h) (Or.inl ⟨by rfl, ?hyg3x10⟩) (by assumption) ?restg3x10
          case hyg3x10 => (intro w hSw; (try dsimp only at hSw); go_simp; try with_reducible rfl)
          try simp only [Act.put, List.getElem_toArray, List.getElem_cons_succ, List.getElem_cons_zero, List.setIfInBounds_toArray, List.set_cons_zero, List.set_cons_succ]
          refine wpAnyH_take (i := 11) (v := ?vg3x11) rfl (by kernel_rfl) (by kernel_rfl) (by kernel_rfl) (fun _ _ _ h => h) (Or.inl ⟨by rfl, ?hyg3x11⟩) (by assumption) ?restg3x11
          case hyg3x11 => (intro w hSw; (try dsimp only at hSw); go_simp; try with_reducible rfl)
          try simp only [Act.put, List.getElem_toArray, List.getElem_cons_succ, List.getElem_cons_zero, List.setIfInBounds_toArray, List.set_cons_zero, List.set_cons_succ]
          refine wpAnyH_take (i := 12) (v := ?vg3x12) rfl (by kernel_rfl) (by kernel_rfl) (by kernel_rfl) (fun _ _ _ h => h) (Or.inl ⟨by rfl, ?hyg3x12⟩) (by assumption) ?restg3x12
          case hyg3x12 => (intro w hSw; (try dsimp only at hSw); go_simp; try with_reducible rfl)
          try simp only [Act.put, List.getElem_toArray, List.getElem_cons_succ, List.getElem_cons_zero, List.setIfInBounds_toArray, List.set_cons_zero, List.set_cons_succ]
          refine wpAnyH_take (i := 13) (v := ?vg3x13) rfl (by kernel_rfl) (by kernel_rfl) (by kernel_rfl) (fun _ _ _ h => h) (Or.inl ⟨by rfl, ?hyg3x13⟩) (by assumption) ?restg3x13
          case hyg3x13 => (intro w hSw; (try dsimp only at hSw); go_simp; try with_reducible rfl)
          try simp only [Act.put, List.getElem_toArray, List.getElem_cons_succ, List.getElem_cons_zero, List.setIfInBounds_toArray, List.set_cons_zero, List.set_cons_succ]
          refine wpAnyH_done (by kernel_rfl) (NoPanic.normal ?_) _
          have hv7 := H.out.row.keepG fun k e => hk7 k (.inl (.inl e))
          have h14 := H.out.row14.keepG fun k e => hk7 k (.inl (.inr e))
          have h14a := h14.ask ((Below.refl _ w7).alloc (Nat.le_refl _) (.cells #[.int .i64 x] 36))
          have H7 := Lib.hid (And.intro hG7 (And.intro hv7 (And.intro hM7 (And.intro hm' h14a))))
          clear hm' hG7 hk7 hv7 hM7 h14 cSh hlu hca
          go_wp2_with (at_builtin; refine wpList_pushT rfl _ _ rfl h14a hxl w7.heap.size 1 x ((Blk.new w7 _ _).cell 0) rfl rfl ?_; intro g6 n6 c6 w6 hR6 hT6 hN6; have H6 := Lib.hid (And.intro hR6 (And.intro hT6 hN6)); clear hR6 hT6 hN6 h14a)
          go_roundw
          case rel =>
            obtain ⟨hG7, hv7, hM7, hm', h14a⟩ := H7.out
            obtain ⟨hR6, hT6, hN6⟩ := H6.out
            have hfar := H.out.far
            have hGa := hG7.alloc (.cells #[.int .i64 x] 36)
            have hG8 := hGa.turnE hT6 fun k e => ⟨.inl (.inr e), (hfar k e).1, (hfar k e).2.1⟩
            have hba := (Below.refl _ w7).alloc (Nat.le_refl _) (.cells #[.int .i64 x] 36)
            have hva := hv7.ask hba
            have hMa := hM7.ask hba
            have hg6 : ∀ k, (Value.slice (some ⟨g6, 0, none⟩) n6 c6).ownBlock = some k → w2.heap.size ≤ k ∧ ¬ GoHas X mb vl f k ∧ (Value.slice (some ⟨g, 0, none⟩) rs.length cap).ownBlock ≠ some k ∧ ¬ T'.has k := fun k e => by
              have e2 := own_slice e
              subst e2
              rcases hN6 with e3 | e3
              · exact ⟨(hfar _ e3).1, (hfar _ e3).2.1, (hfar _ e3).2.2, fun e4 => (hG7.own _ e4).2.2 (.inl (.inr e3))⟩
              · have hsz := hGa.size
                exact ⟨by omega, fun e4 => by have := hGa.go.lt _ e4; omega, fun e4 => by have := hva.lt e4; omega, fun e4 => by have := hGa.mt.lt _ e4; omega⟩
            have hT := H.out.tri.shade (x := x) (by have := HX.out.2.1.1; omega)
            rw [List.append_assoc, ← take_nextR HX.out.1] at hT
            refine ⟨i + 1, T', _, hlt, by go_num, ⟨hG8.reE (fun k e => ?_), hm', hva.turn hT6 (fun k e e2 => (hfar k e2).2.2 e), by rw [take_nextR HX.out.1]; exact hR6, fun k e => ⟨(hg6 k e).1, (hg6 k e).2.1, (hg6 k e).2.2.1⟩, hMa.turn hT6 (fun e => by
              obtain ⟨_, hb⟩ := h14a.own e
              exact hMa.farBlk hb rfl), hT, H.out.scb⟩⟩
            rcases e with (e | e) | e
            · exact ⟨fun e2 => (hG8.own k e2).2.2 (.inl (.inl e)), hG8.ext k (.inl (.inl e))⟩
            · exact ⟨(hg6 k e).2.2.2, hR6.lt e⟩
            · exact ⟨fun e2 => (hG8.own k e2).2.2 (.inr e), hG8.ext k (.inr e)⟩
          case measure => simp [intOf]; omega
    · have hi1 : ¬ (i : Int) < (rs.length : Int) := by omega
      obtain rfl : i = rs.length := by omega
      clear hlt hi hi0
      have hTri := h1.tri
      rw [List.take_length] at hTri
      have hrow14 := h1.row14
      rw [List.take_length] at hrow14
      have cT := h1.gm.trace HO.out.cl 1000
      rw [h1.tm] at cT
      have H := Lib.hid (And.intro h1 (And.intro hTri hrow14))
      clear h1 hTri hrow14
      go_wp2_with fail
      refine cT.mono ?_
      rintro e w7 ⟨k, T', c', l, rfl, hlk, hm', hG7, hk7, hsc, hkm, hkd⟩
      have hMi := H.out.1.map.keep (hk7 ib (.inr rfl))
      have h14 := H.out.2.2.keepG fun k e => hk7 k (.inl (.inr e))
      obtain ⟨hsc2, hscb⟩ := hsc.swap (P' := adjB obs bl) (fun x hx => by
        unfold adjB
        rw [if_neg (fun e => by have := H.out.1.scb x e; rw [hx] at this; cases this)])
      have hTri := H.out.2.1.scans adjB_zero hsc2
      have hle := hTri.le hG7.inn
      rw [List.length_append, hlk] at hle
      have hd : c'.dry := hkd (by omega)
      have hf6 : ∀ x ∈ refsI obs, (adjB obs bl x).length ≤ 6 := fun x hx => by
        unfold adjB
        split
        · simp
        · exact HO.out.few x hx
      have hrest : restI (adjB obs bl) [] (refsI obs) ≤ 6 * (refsI obs).length := restI_nil_le _ 6 _ hf6
      have cRe := reach_any u14 rs (refsI obs) mb n f (adjB obs bl) w7 h14 hG7.go.grp HO.out.nd HO.out.bd (by rw [refsI_length]; omega) (fun x hx => .inr (HR.out.1 x hx)) (fun x hx y hy => by
        unfold adjB at hy
        split at hy
        · cases hy
        · exact HO.out.pin x hx y hy) (by rw [refsI_length] at hrest; omega) (fun x hx => by have := hf6 x hx; omega)
      have H7 := Lib.hid (And.intro hG7 (And.intro hMi (And.intro hTri (And.intro hd hm'))))
      clear cT hlk hm' hG7 hk7 hsc hkm hkd hMi h14 hsc2 hscb hTri hle hd hf6 hrest
      go_wp2_with fail
      refine cRe.mono ?_
      rintro e w8 ⟨rb, vis, rfl, hMap, hrb, hB8, hvn, hvin, hvis⟩
      have hG8 : GmIn w2.heap.size mb n X s obs vl f (adjB obs bl) (fun k => k = rb ∨ k = ib) T' c' w2 w8 := H7.out.1.watch hB8 fun k e => by
        rcases e with e | e
        · exact .inr ⟨by omega, by have := hMap.lt; omega⟩
        · exact .inl (.inr e)
      have hMi8 := H7.out.2.1.ask hB8
      have hll : ∀ W, (Builtin.len_ #[29] 3 #[vl]).run Tryz.prog W = .ok (.int .i64 (obs.length : Int)) W := fun W => by
        have := hG8.go.row.lenRun 3 W
        rw [refsI_length] at this; exact this
      have h8 : RbC w2.heap.size mb n rb ib nn cc K X s obs vl f bl vis T' c' w2 (.int .i64 ((0 : Nat) : Int)) w8 := ⟨0, Nat.zero_le _, rfl, hG8, hMap, hMi8⟩
      have HV := Lib.hid hvis
      clear cRe hMap hrb hB8 hvn hvin hvis hG8 hMi8
      go_wp2_with fail
      clear hll
      go_loopw [92] (fun v92 wr => RbC w2.heap.size mb n rb ib nn cc K X s obs vl f bl vis T' c' w2 v92 wr) (fun v92 _ => obs.length - (intOf v92).toNat)
      case atStart => exact h8
      case round =>
      clear h8
      obtain ⟨i2, hi2, rfl, hGm, hMap, hMi⟩ := hrel
      have hi20 : (0 : Int) ≤ (i2 : Int) := by omega
      by_cases hlt : i2 < obs.length
      · have hlt1 : (i2 : Int) < (obs.length : Int) := by omega
        obtain ⟨y, hy⟩ : ∃ y, obs[i2]? = some y := ⟨_, List.getElem?_eq_getElem hlt⟩
        rcases hGm.go.row.is with ⟨_, e⟩ | ⟨g, cap, cur, hv, hg, hlc, hcm, hcs, hcell⟩
        · have := congrArg List.length e; rw [refsI_length, List.length_nil] at this; omega
        rw [refsI_length] at hv
        have hca := hcell i2 (by rw [refsI_length]; exact hlt)
        rw [(List.getElem?_eq_some_iff.1 (refsI_at hy)).2] at hca
        have hyin : (y.r : Int) ∈ refsI obs := List.mem_map.2 ⟨y, List.mem_of_getElem? hy, rfl⟩
        have hyb := HO.out.bd _ hyin
        have hwf := wf_ref hyb.1 hyb.2
        have hmv : c'.ma (y.r : Int) = true ↔ ((y.r : Int) ∈ bl ∧ (y.r : Int) ≠ 0) ∨ (y.r : Int) ∈ vis := by
          rw [H7.out.2.2.1.dry H7.out.2.2.2.1 _, rch_blacks, HV.out]
        have hy0 : (y.r : Int) ≠ 0 := by omega
        have cMa := hGm.drew.at_.marked (y.r : Int)
        rw [H7.out.2.2.2.2] at cMa
        have HG := Lib.hid (And.intro hGm (And.intro hMap hMi))
        subst hv
        clear hg hlc hcm hcs hcell hyin hyb hy hGm hMap hMi
        by_cases hyv : (y.r : Int) ∈ vis
        · have hv1 : visF vis (y.r : Int) = 1 := by unfold visF; rw [if_pos hyv]
          rw [hmv.2 (.inr hyv)] at cMa
          have hS0 := rb_hold HG.out.1 HG.out.2.1 HG.out.2.2 (Below.refl _ wr).drew (y.r : Int) 1 (visF bl (y.r : Int)) hwf hv1 rfl
          have HV1 := Lib.hid hv1
          clear hmv hyv hv1 hy0
          go_wp2_with fail
          refine wp_region_noPanic ?_
          refine wp_region_held_drew (S := (fun W' => (Instr.lookup 38 (.map (some rb)) (.int .i64 (y.r : Int)) false).run Tryz.prog W' = .ok (.int .i64 1) W' ∧ (Instr.lookup 38 (.map (some ib)) (.int .i64 (y.r : Int)) false).run Tryz.prog W' = .ok (.int .i64 (visF bl (y.r : Int))) W')) (by kernel_rfl) (hS0.2.2.2) (fun hHeld => ?_)
          refine wpAnyH_take (i := 0) (v := ?vg4x0) rfl (by kernel_rfl) (by kernel_rfl) (by kernel_rfl) (fun _ _ _ h => h) (Or.inl ⟨by rfl, ?hyg4x0⟩) (by assumption) ?restg4x0
          case hyg4x0 => (intro w hSw; obtain ⟨hSw1, hSw2⟩ := hSw; go_simp; try with_reducible rfl)
          try simp only [Act.put, List.getElem_toArray, List.getElem_cons_succ, List.getElem_cons_zero, List.setIfInBounds_toArray, List.set_cons_zero, List.set_cons_succ]
          refine wpAnyH_take (i := 1) (v := ?vg4x1) rfl (by kernel_rfl) (by kernel_rfl) (by kernel_rfl) (fun _ _ _ h => h) (Or.inl ⟨by rfl, ?hyg4x1⟩) (by assumption) ?restg4x1
          case hyg4x1 => (intro w hSw; obtain ⟨hSw1, hSw2⟩ := hSw; go_simp; try with_reducible rfl)
          try simp only [Act.put, List.getElem_toArray, List.getElem_cons_succ, List.getElem_cons_zero, List.setIfInBounds_toArray, List.set_cons_zero, List.set_cons_succ]
          refine wpAnyH_take (i := 3) (v := ?vg4x3) rfl (by kernel_rfl) (by kernel_rfl) (by kernel_rfl) (fun _ _ _ h => h) (Or.inl ⟨by rfl, ?hyg4x3⟩) (by assumption) ?restg4x3
          case hyg4x3 => (intro w hSw; obtain ⟨hSw1, hSw2⟩ := hSw; go_simp; try with_reducible rfl)
          try simp only [Act.put, List.getElem_toArray, List.getElem_cons_succ, List.getElem_cons_zero, List.setIfInBounds_toArray, List.set_cons_zero, List.set_cons_succ]
          refine wpAnyH_take (i := 4) (v := ?vg4x4) rfl (by kernel_rfl) (by kernel_rfl) (by kernel_rfl) (fun _ _ _ h => h) (Or.inl ⟨by rfl, ?hyg4x4⟩) (by assumption) ?restg4x4
          case hyg4x4 => (intro w hSw; obtain ⟨hSw1, hSw2⟩ := hSw; go_simp; try with_reducible rfl)
          try simp only [Act.put, List.getElem_toArray, List.getElem_cons_succ, List.getElem_cons_zero, List.setIfInBounds_toArray, List.set_cons_zero, List.set_cons_succ]
          refine wpAnyH_take (i := 5) (v := ?vg4x5) rfl (by kernel_rfl) (by kernel_rfl) (by kernel_rfl) (fun _ _ _ h => h) (Or.inl ⟨by rfl, ?hyg4x5⟩) (by assumption) ?restg4x5
          case hyg4x5 => (intro w hSw; obtain ⟨hSw1, hSw2⟩ := hSw; go_simp; try with_reducible rfl)
          try simp only [Act.put, List.getElem_toArray, List.getElem_cons_succ, List.getElem_cons_zero, List.setIfInBounds_toArray, List.set_cons_zero, List.set_cons_succ]
          refine wpAnyH_take (i := 6) (v := ?vg4x6) rfl (by kernel_rfl) (by kernel_rfl) (by kernel_rfl) (fun _ _ _ h => h) (Or.inl ⟨by rfl, ?hyg4x6⟩) (by assumption) ?restg4x6
          case hyg4x6 => (intro w hSw; obtain ⟨hSw1, hSw2⟩ := hSw; go_simp; try with_reducible rfl)
          try simp only [Act.put, List.getElem_toArray, List.getElem_cons_succ, List.getElem_cons_zero, List.setIfInBounds_toArray, List.set_cons_zero, List.set_cons_succ]
          refine wpAnyH_ready (rs := [2]) (by kernel_rfl) (by simp) ?_
          refine AllReadyH.cons rfl (fun K hK => ?_) AllReadyH.nil
          go_simp
          refine cMa.mono ?_
          rintro e w9 ⟨rfl, hB9⟩
          have hSa := rb_hold hS0.1 hS0.2.1 hS0.2.2.1 hB9 (y.r : Int) 1 (visF bl (y.r : Int)) hwf HV1.out rfl
          go_wp2_with fail
          refine hK.out _ _ (hSa.2.2.2) (fun hHeld => ?_)
          try simp only [Act.put, List.getElem_toArray, List.getElem_cons_succ, List.getElem_cons_zero, List.setIfInBounds_toArray, List.set_cons_zero, List.set_cons_succ]
          refine wpAnyH_take (i := 7) (v := ?vg4x7) rfl (by kernel_rfl) (by kernel_rfl) (by kernel_rfl) (fun _ _ _ h => h) (Or.inl ⟨by rfl, ?hyg4x7⟩) (by assumption) ?restg4x7
          case hyg4x7 => (intro w hSw; obtain ⟨hSw1, hSw2⟩ := hSw; go_simp; try with_reducible rfl)
          try simp only [Act.put, List.getElem_toArray, List.getElem_cons_succ, List.getElem_cons_zero, List.setIfInBounds_toArray, List.set_cons_zero, List.set_cons_succ]
          refine wpAnyH_take (i := 8) (v := undef) rfl (by kernel_rfl) (by kernel_rfl) (by kernel_rfl) (fun _ _ _ h => h) (Or.inr ⟨by rfl, rfl⟩) (by assumption) ?_
          try simp only [Act.put, List.getElem_toArray, List.getElem_cons_succ, List.getElem_cons_zero, List.setIfInBounds_toArray, List.set_cons_zero, List.set_cons_succ]
          refine wpAnyH_take (i := 9) (v := undef) rfl (by kernel_rfl) (by kernel_rfl) (by kernel_rfl) (fun _ _ _ h => h) (Or.inr ⟨by rfl, rfl⟩) (by assumption) ?_
          try simp only [Act.put, List.getElem_toArray, List.getElem_cons_succ, List.getElem_cons_zero, List.setIfInBounds_toArray, List.set_cons_zero, List.set_cons_succ]
          refine wpAnyH_take (i := 10) (v := undef) rfl (by kernel_rfl) (by kernel_rfl) (by kernel_rfl) (fun _ _ _ h => h) (Or.inr ⟨by rfl, rfl⟩) (by assumption) ?_
          try simp only [Act.put, List.getElem_toArray, List.getElem_cons_succ, List.getElem_cons_zero, List.setIfInBounds_toArray, List.set_cons_zero, List.set_cons_succ]
          refine wpAnyH_take (i := 11) (v := undef) rfl (by kernel_rfl) (by kernel_rfl) (by kernel_rfl) (fun _ _ _ h => h) (Or.inr ⟨by rfl, rfl⟩) (by assumption) ?_
          try simp only [Act.put, List.getElem_toArray, List.getElem_cons_succ, List.getElem_cons_zero, List.setIfInBounds_toArray, List.set_cons_zero, List.set_cons_succ]
          refine wpAnyH_take (i := 12) (v := ?vg4x12) rfl (by kernel_rfl) (by kernel_rfl) (by kernel_rfl) (fun _ _ _ h => h) (Or.inl ⟨by rfl, ?hyg4x12⟩) (by assumption) ?restg4x12
          case hyg4x12 => (intro w hSw; obtain ⟨hSw1, hSw2⟩ := hSw; go_simp; try with_reducible rfl)
          try simp only [Act.put, List.getElem_toArray, List.getElem_cons_succ, List.getElem_cons_zero, List.setIfInBounds_toArray, List.set_cons_zero, List.set_cons_succ]
          refine wpAnyH_take (i := 13) (v := ?vg4x13) rfl (by kernel_rfl) (by kernel_rfl) (by kernel_rfl) (fun _ _ _ h => h) (Or.inl ⟨by rfl, ?hyg4x13⟩) (by assumption) ?restg4x13
          case hyg4x13 => (intro w hSw; obtain ⟨hSw1, hSw2⟩ := hSw; go_simp; try with_reducible rfl)
          try simp only [Act.put, List.getElem_toArray, List.getElem_cons_succ, List.getElem_cons_zero, List.setIfInBounds_toArray, List.set_cons_zero, List.set_cons_succ]
          refine wpAnyH_done (by kernel_rfl) (NoPanic.normal ?_) _
          have HSA := Lib.hid hSa
          clear hSa cMa hS0 hca
          go_wp2_with fail
          go_roundw
          case rel => exact ⟨i2 + 1, hlt, by go_num, HSA.out.1, HSA.out.2.1, HSA.out.2.2.1⟩
          case measure => simp [intOf]; omega
        · have hv1 : visF vis (y.r : Int) = 0 := by unfold visF; rw [if_neg hyv]
          by_cases hyl : (y.r : Int) ∈ bl
          · have hu1 : visF bl (y.r : Int) = 1 := by unfold visF; rw [if_pos hyl]
            rw [hmv.2 (.inl ⟨hyl, hy0⟩)] at cMa
            have hS0 := rb_hold HG.out.1 HG.out.2.1 HG.out.2.2 (Below.refl _ wr).drew (y.r : Int) 0 1 hwf hv1 hu1
            have HV1 := Lib.hid (And.intro hv1 hu1)
            clear hmv hyv hv1 hu1 hyl hy0
            go_wp2_with fail
            refine wp_region_noPanic ?_
            refine wp_region_held_drew (S := (fun W' => (Instr.lookup 38 (.map (some rb)) (.int .i64 (y.r : Int)) false).run Tryz.prog W' = .ok (.int .i64 0) W' ∧ (Instr.lookup 38 (.map (some ib)) (.int .i64 (y.r : Int)) false).run Tryz.prog W' = .ok (.int .i64 1) W')) (by kernel_rfl) (hS0.2.2.2) (fun hHeld => ?_)
            refine wpAnyH_take (i := 0) (v := ?vg5x0) rfl (by kernel_rfl) (by kernel_rfl) (by kernel_rfl) (fun _ _ _ h => h) (Or.inl ⟨by rfl, ?hyg5x0⟩) (by assumption) ?restg5x0
            case hyg5x0 => (intro w hSw; obtain ⟨hSw1, hSw2⟩ := hSw; go_simp; try with_reducible rfl)
            try simp only [Act.put, List.getElem_toArray, List.getElem_cons_succ, List.getElem_cons_zero, List.setIfInBounds_toArray, List.set_cons_zero, List.set_cons_succ]
            refine wpAnyH_take (i := 1) (v := ?vg5x1) rfl (by kernel_rfl) (by kernel_rfl) (by kernel_rfl) (fun _ _ _ h => h) (Or.inl ⟨by rfl, ?hyg5x1⟩) (by assumption) ?restg5x1
            case hyg5x1 => (intro w hSw; obtain ⟨hSw1, hSw2⟩ := hSw; go_simp; try with_reducible rfl)
            try simp only [Act.put, List.getElem_toArray, List.getElem_cons_succ, List.getElem_cons_zero, List.setIfInBounds_toArray, List.set_cons_zero, List.set_cons_succ]
            refine wpAnyH_take (i := 3) (v := ?vg5x3) rfl (by kernel_rfl) (by kernel_rfl) (by kernel_rfl) (fun _ _ _ h => h) (Or.inl ⟨by rfl, ?hyg5x3⟩) (by assumption) ?restg5x3
            case hyg5x3 => (intro w hSw; obtain ⟨hSw1, hSw2⟩ := hSw; go_simp; try with_reducible rfl)
            try simp only [Act.put, List.getElem_toArray, List.getElem_cons_succ, List.getElem_cons_zero, List.setIfInBounds_toArray, List.set_cons_zero, List.set_cons_succ]
            refine wpAnyH_take (i := 4) (v := ?vg5x4) rfl (by kernel_rfl) (by kernel_rfl) (by kernel_rfl) (fun _ _ _ h => h) (Or.inl ⟨by rfl, ?hyg5x4⟩) (by assumption) ?restg5x4
            case hyg5x4 => (intro w hSw; obtain ⟨hSw1, hSw2⟩ := hSw; go_simp; try with_reducible rfl)
            try simp only [Act.put, List.getElem_toArray, List.getElem_cons_succ, List.getElem_cons_zero, List.setIfInBounds_toArray, List.set_cons_zero, List.set_cons_succ]
            refine wpAnyH_take (i := 5) (v := ?vg5x5) rfl (by kernel_rfl) (by kernel_rfl) (by kernel_rfl) (fun _ _ _ h => h) (Or.inl ⟨by rfl, ?hyg5x5⟩) (by assumption) ?restg5x5
            case hyg5x5 => (intro w hSw; obtain ⟨hSw1, hSw2⟩ := hSw; go_simp; try with_reducible rfl)
            try simp only [Act.put, List.getElem_toArray, List.getElem_cons_succ, List.getElem_cons_zero, List.setIfInBounds_toArray, List.set_cons_zero, List.set_cons_succ]
            refine wpAnyH_take (i := 6) (v := ?vg5x6) rfl (by kernel_rfl) (by kernel_rfl) (by kernel_rfl) (fun _ _ _ h => h) (Or.inl ⟨by rfl, ?hyg5x6⟩) (by assumption) ?restg5x6
            case hyg5x6 => (intro w hSw; obtain ⟨hSw1, hSw2⟩ := hSw; go_simp; try with_reducible rfl)
            try simp only [Act.put, List.getElem_toArray, List.getElem_cons_succ, List.getElem_cons_zero, List.setIfInBounds_toArray, List.set_cons_zero, List.set_cons_succ]
            refine wpAnyH_ready (rs := [2]) (by kernel_rfl) (by simp) ?_
            refine AllReadyH.cons rfl (fun K hK => ?_) AllReadyH.nil
            go_simp
            refine cMa.mono ?_
            rintro e w9 ⟨rfl, hB9⟩
            have hSa := rb_hold hS0.1 hS0.2.1 hS0.2.2.1 hB9 (y.r : Int) 0 1 hwf HV1.out.1 HV1.out.2
            go_wp2_with fail
            refine hK.out _ _ (hSa.2.2.2) (fun hHeld => ?_)
            try simp only [Act.put, List.getElem_toArray, List.getElem_cons_succ, List.getElem_cons_zero, List.setIfInBounds_toArray, List.set_cons_zero, List.set_cons_succ]
            refine wpAnyH_take (i := 7) (v := ?vg5x7) rfl (by kernel_rfl) (by kernel_rfl) (by kernel_rfl) (fun _ _ _ h => h) (Or.inl ⟨by rfl, ?hyg5x7⟩) (by assumption) ?restg5x7
            case hyg5x7 => (intro w hSw; obtain ⟨hSw1, hSw2⟩ := hSw; go_simp; try with_reducible rfl)
            try simp only [Act.put, List.getElem_toArray, List.getElem_cons_succ, List.getElem_cons_zero, List.setIfInBounds_toArray, List.set_cons_zero, List.set_cons_succ]
            refine wpAnyH_take (i := 8) (v := ?vg5x8) rfl (by kernel_rfl) (by kernel_rfl) (by kernel_rfl) (fun _ _ _ h => h) (Or.inl ⟨by rfl, ?hyg5x8⟩) (by assumption) ?restg5x8
            case hyg5x8 => (intro w hSw; obtain ⟨hSw1, hSw2⟩ := hSw; go_simp; try with_reducible rfl)
            try simp only [Act.put, List.getElem_toArray, List.getElem_cons_succ, List.getElem_cons_zero, List.setIfInBounds_toArray, List.set_cons_zero, List.set_cons_succ]
            refine wpAnyH_take (i := 9) (v := ?vg5x9) rfl (by kernel_rfl) (by kernel_rfl) (by kernel_rfl) (fun _ _ _ h => h) (Or.inl ⟨by rfl, ?hyg5x9⟩) (by assumption) ?restg5x9
            case hyg5x9 => (intro w hSw; obtain ⟨hSw1, hSw2⟩ := hSw; go_simp; try with_reducible rfl)
            try simp only [Act.put, List.getElem_toArray, List.getElem_cons_succ, List.getElem_cons_zero, List.setIfInBounds_toArray, List.set_cons_zero, List.set_cons_succ]
            refine wpAnyH_take (i := 10) (v := ?vg5x10) rfl (by kernel_rfl) (by kernel_rfl) (by kernel_rfl) (fun _ _ _ h => h) (Or.inl ⟨by rfl, ?hyg5x10⟩) (by assumption) ?restg5x10
            case hyg5x10 => (intro w hSw; obtain ⟨hSw1, hSw2⟩ := hSw; go_simp; try with_reducible rfl)
            try simp only [Act.put, List.getElem_toArray, List.getElem_cons_succ, List.getElem_cons_zero, List.setIfInBounds_toArray, List.set_cons_zero, List.set_cons_succ]
            refine wpAnyH_take (i := 11) (v := ?vg5x11) rfl (by kernel_rfl) (by kernel_rfl) (by kernel_rfl) (fun _ _ _ h => h) (Or.inl ⟨by rfl, ?hyg5x11⟩) (by assumption) ?restg5x11
            case hyg5x11 => (intro w hSw; obtain ⟨hSw1, hSw2⟩ := hSw; go_simp; try with_reducible rfl)
            try simp only [Act.put, List.getElem_toArray, List.getElem_cons_succ, List.getElem_cons_zero, List.setIfInBounds_toArray, List.set_cons_zero, List.set_cons_succ]
            refine wpAnyH_take (i := 12) (v := ?vg5x12) rfl (by kernel_rfl) (by kernel_rfl) (by kernel_rfl) (fun _ _ _ h => h) (Or.inl ⟨by rfl, ?hyg5x12⟩) (by assumption) ?restg5x12
            case hyg5x12 => (intro w hSw; obtain ⟨hSw1, hSw2⟩ := hSw; go_simp; try with_reducible rfl)
            try simp only [Act.put, List.getElem_toArray, List.getElem_cons_succ, List.getElem_cons_zero, List.setIfInBounds_toArray, List.set_cons_zero, List.set_cons_succ]
            refine wpAnyH_take (i := 13) (v := ?vg5x13) rfl (by kernel_rfl) (by kernel_rfl) (by kernel_rfl) (fun _ _ _ h => h) (Or.inl ⟨by rfl, ?hyg5x13⟩) (by assumption) ?restg5x13
            case hyg5x13 => (intro w hSw; obtain ⟨hSw1, hSw2⟩ := hSw; go_simp; try with_reducible rfl)
            try simp only [Act.put, List.getElem_toArray, List.getElem_cons_succ, List.getElem_cons_zero, List.setIfInBounds_toArray, List.set_cons_zero, List.set_cons_succ]
            refine wpAnyH_done (by kernel_rfl) (NoPanic.normal ?_) _
            have HSA := Lib.hid hSa
            clear hSa cMa hS0 hca
            go_wp2_with fail
            go_roundw
            case rel => exact ⟨i2 + 1, hlt, by go_num, HSA.out.1, HSA.out.2.1, HSA.out.2.2.1⟩
            case measure => simp [intOf]; omega
          · have hu1 : visF bl (y.r : Int) = 0 := by unfold visF; rw [if_neg hyl]
            have hmf : c'.ma (y.r : Int) = false := by
              cases e : c'.ma (y.r : Int) with
              | false => rfl
              | true => exact absurd (hmv.1 e) (by rintro (e2 | e2); exact hyl e2.1; exact hyv e2)
            rw [hmf] at cMa
            have hS0 := rb_hold HG.out.1 HG.out.2.1 HG.out.2.2 (Below.refl _ wr).drew (y.r : Int) 0 0 hwf hv1 hu1
            have HV1 := Lib.hid (And.intro hv1 hu1)
            clear hmv hyv hv1 hu1 hyl hmf hy0
            go_wp2_with fail
            refine wp_region_noPanic ?_
            refine wp_region_held_drew (S := (fun W' => (Instr.lookup 38 (.map (some rb)) (.int .i64 (y.r : Int)) false).run Tryz.prog W' = .ok (.int .i64 0) W' ∧ (Instr.lookup 38 (.map (some ib)) (.int .i64 (y.r : Int)) false).run Tryz.prog W' = .ok (.int .i64 0) W')) (by kernel_rfl) (hS0.2.2.2) (fun hHeld => ?_)
            refine wpAnyH_take (i := 0) (v := ?vg6x0) rfl (by kernel_rfl) (by kernel_rfl) (by kernel_rfl) (fun _ _ _ h => h) (Or.inl ⟨by rfl, ?hyg6x0⟩) (by assumption) ?restg6x0
            case hyg6x0 => (intro w hSw; obtain ⟨hSw1, hSw2⟩ := hSw; go_simp; try with_reducible rfl)
            try simp only [Act.put, List.getElem_toArray, List.getElem_cons_succ, List.getElem_cons_zero, List.setIfInBounds_toArray, List.set_cons_zero, List.set_cons_succ]
            refine wpAnyH_take (i := 1) (v := ?vg6x1) rfl (by kernel_rfl) (by kernel_rfl) (by kernel_rfl) (fun _ _ _ h => h) (Or.inl ⟨by rfl, ?hyg6x1⟩) (by assumption) ?restg6x1
            case hyg6x1 => (intro w hSw; obtain ⟨hSw1, hSw2⟩ := hSw; go_simp; try with_reducible rfl)
            try simp only [Act.put, List.getElem_toArray, List.getElem_cons_succ, List.getElem_cons_zero, List.setIfInBounds_toArray, List.set_cons_zero, List.set_cons_succ]
            refine wpAnyH_take (i := 3) (v := ?vg6x3) rfl (by kernel_rfl) (by kernel_rfl) (by kernel_rfl) (fun _ _ _ h => h) (Or.inl ⟨by rfl, ?hyg6x3⟩) (by assumption) ?restg6x3
            case hyg6x3 => (intro w hSw; obtain ⟨hSw1, hSw2⟩ := hSw; go_simp; try with_reducible rfl)
            try simp only [Act.put, List.getElem_toArray, List.getElem_cons_succ, List.getElem_cons_zero, List.setIfInBounds_toArray, List.set_cons_zero, List.set_cons_succ]
            refine wpAnyH_take (i := 4) (v := ?vg6x4) rfl (by kernel_rfl) (by kernel_rfl) (by kernel_rfl) (fun _ _ _ h => h) (Or.inl ⟨by rfl, ?hyg6x4⟩) (by assumption) ?restg6x4
            case hyg6x4 => (intro w hSw; obtain ⟨hSw1, hSw2⟩ := hSw; go_simp; try with_reducible rfl)
            try simp only [Act.put, List.getElem_toArray, List.getElem_cons_succ, List.getElem_cons_zero, List.setIfInBounds_toArray, List.set_cons_zero, List.set_cons_succ]
            refine wpAnyH_take (i := 5) (v := ?vg6x5) rfl (by kernel_rfl) (by kernel_rfl) (by kernel_rfl) (fun _ _ _ h => h) (Or.inl ⟨by rfl, ?hyg6x5⟩) (by assumption) ?restg6x5
            case hyg6x5 => (intro w hSw; obtain ⟨hSw1, hSw2⟩ := hSw; go_simp; try with_reducible rfl)
            try simp only [Act.put, List.getElem_toArray, List.getElem_cons_succ, List.getElem_cons_zero, List.setIfInBounds_toArray, List.set_cons_zero, List.set_cons_succ]
            refine wpAnyH_take (i := 6) (v := ?vg6x6) rfl (by kernel_rfl) (by kernel_rfl) (by kernel_rfl) (fun _ _ _ h => h) (Or.inl ⟨by rfl, ?hyg6x6⟩) (by assumption) ?restg6x6
            case hyg6x6 => (intro w hSw; obtain ⟨hSw1, hSw2⟩ := hSw; go_simp; try with_reducible rfl)
            try simp only [Act.put, List.getElem_toArray, List.getElem_cons_succ, List.getElem_cons_zero, List.setIfInBounds_toArray, List.set_cons_zero, List.set_cons_succ]
            refine wpAnyH_ready (rs := [2]) (by kernel_rfl) (by simp) ?_
            refine AllReadyH.cons rfl (fun K hK => ?_) AllReadyH.nil
            go_simp
            refine cMa.mono ?_
            rintro e w9 ⟨rfl, hB9⟩
            have hSa := rb_hold hS0.1 hS0.2.1 hS0.2.2.1 hB9 (y.r : Int) 0 0 hwf HV1.out.1 HV1.out.2
            go_wp2_with fail
            refine hK.out _ _ (hSa.2.2.2) (fun hHeld => ?_)
            try simp only [Act.put, List.getElem_toArray, List.getElem_cons_succ, List.getElem_cons_zero, List.setIfInBounds_toArray, List.set_cons_zero, List.set_cons_succ]
            refine wpAnyH_take (i := 7) (v := ?vg6x7) rfl (by kernel_rfl) (by kernel_rfl) (by kernel_rfl) (fun _ _ _ h => h) (Or.inl ⟨by rfl, ?hyg6x7⟩) (by assumption) ?restg6x7
            case hyg6x7 => (intro w hSw; obtain ⟨hSw1, hSw2⟩ := hSw; go_simp; try with_reducible rfl)
            try simp only [Act.put, List.getElem_toArray, List.getElem_cons_succ, List.getElem_cons_zero, List.setIfInBounds_toArray, List.set_cons_zero, List.set_cons_succ]
            refine wpAnyH_take (i := 8) (v := ?vg6x8) rfl (by kernel_rfl) (by kernel_rfl) (by kernel_rfl) (fun _ _ _ h => h) (Or.inl ⟨by rfl, ?hyg6x8⟩) (by assumption) ?restg6x8
            case hyg6x8 => (intro w hSw; obtain ⟨hSw1, hSw2⟩ := hSw; go_simp; try with_reducible rfl)
            try simp only [Act.put, List.getElem_toArray, List.getElem_cons_succ, List.getElem_cons_zero, List.setIfInBounds_toArray, List.set_cons_zero, List.set_cons_succ]
            refine wpAnyH_take (i := 9) (v := ?vg6x9) rfl (by kernel_rfl) (by kernel_rfl) (by kernel_rfl) (fun _ _ _ h => h) (Or.inl ⟨by rfl, ?hyg6x9⟩) (by assumption) ?restg6x9
            case hyg6x9 => (intro w hSw; obtain ⟨hSw1, hSw2⟩ := hSw; go_simp; try with_reducible rfl)
            try simp only [Act.put, List.getElem_toArray, List.getElem_cons_succ, List.getElem_cons_zero, List.setIfInBounds_toArray, List.set_cons_zero, List.set_cons_succ]
            refine wpAnyH_take (i := 10) (v := ?vg6x10) rfl (by kernel_rfl) (by kernel_rfl) (by kernel_rfl) (fun _ _ _ h => h) (Or.inl ⟨by rfl, ?hyg6x10⟩) (by assumption) ?restg6x10
            case hyg6x10 => (intro w hSw; obtain ⟨hSw1, hSw2⟩ := hSw; go_simp; try with_reducible rfl)
            try simp only [Act.put, List.getElem_toArray, List.getElem_cons_succ, List.getElem_cons_zero, List.setIfInBounds_toArray, List.set_cons_zero, List.set_cons_succ]
            refine wpAnyH_take (i := 11) (v := ?vg6x11) rfl (by kernel_rfl) (by kernel_rfl) (by kernel_rfl) (fun _ _ _ h => h) (Or.inl ⟨by rfl, ?hyg6x11⟩) (by assumption) ?restg6x11
            case hyg6x11 => (intro w hSw; obtain ⟨hSw1, hSw2⟩ := hSw; go_simp; try with_reducible rfl)
            try simp only [Act.put, List.getElem_toArray, List.getElem_cons_succ, List.getElem_cons_zero, List.setIfInBounds_toArray, List.set_cons_zero, List.set_cons_succ]
            refine wpAnyH_take (i := 12) (v := ?vg6x12) rfl (by kernel_rfl) (by kernel_rfl) (by kernel_rfl) (fun _ _ _ h => h) (Or.inl ⟨by rfl, ?hyg6x12⟩) (by assumption) ?restg6x12
            case hyg6x12 => (intro w hSw; obtain ⟨hSw1, hSw2⟩ := hSw; go_simp; try with_reducible rfl)
            try simp only [Act.put, List.getElem_toArray, List.getElem_cons_succ, List.getElem_cons_zero, List.setIfInBounds_toArray, List.set_cons_zero, List.set_cons_succ]
            refine wpAnyH_take (i := 13) (v := ?vg6x13) rfl (by kernel_rfl) (by kernel_rfl) (by kernel_rfl) (fun _ _ _ h => h) (Or.inl ⟨by rfl, ?hyg6x13⟩) (by assumption) ?restg6x13
            case hyg6x13 => (intro w hSw; obtain ⟨hSw1, hSw2⟩ := hSw; go_simp; try with_reducible rfl)
            try simp only [Act.put, List.getElem_toArray, List.getElem_cons_succ, List.getElem_cons_zero, List.setIfInBounds_toArray, List.set_cons_zero, List.set_cons_succ]
            refine wpAnyH_done (by kernel_rfl) (NoPanic.normal ?_) _
            have HSA := Lib.hid hSa
            clear hSa cMa hS0 hca
            go_wp2_with fail
            go_roundw
            case rel => exact ⟨i2 + 1, hlt, by go_num, HSA.out.1, HSA.out.2.1, HSA.out.2.2.1⟩
            case measure => simp [intOf]; omega
      · have hi1 : ¬ (i2 : Int) < (obs.length : Int) := by omega
        have hfin := HW2.out.trans (hGm.below.mono HW2.out.size)
        have cD := hGm.at_.drained true ⟨fun _ => H7.out.2.2.2.1, fun _ => rfl⟩
        rw [H7.out.2.2.2.2] at cD
        have hsz := hGm.size
        have HB := Lib.hid hGm
        clear hGm hMap hMi
        go_wp2_with fail
        refine cD.mono ?_
        rintro e w9 ⟨rfl, hB9⟩
        have hfin2 := HW2.out.trans ((HB.out.ask hB9).below.mono HW2.out.size)
        clear cD
        go_wp2_with fail
        go_ret
        exact ⟨rfl, hfin2⟩
theorem mblacks_frame (a0 : Option Addr) (zs : List Int) (cf : Nat) (e0 : Option Addr) (ne ce : Nat) (Q : Nat → Nat → Int) (a1 : Option Addr) (us : List Int) (cu : Nat) (a2 : Option Addr) (vs : List Int) (cv : Nat) (w : World) (hsz : us.length + vs.length ≤ 9223372036854775807)
    (hF : BytesW w a0 zs) (hE : EdgesW w e0 ne Q) (hU : BytesW w a1 us) (hV : BytesW w a2 vs) (hTb : TabAt w) (hT : TableAt w) :
    Calls Tryz.prog 8 #[.agg #[.slice a0 zs.length cf, .slice e0 ne ce], .slice a1 us.length cu, .slice a2 vs.length cv] w fun e w' => e = .returned (.bool true) ∧ Below w.heap.size w w' :=
  mblacks_true a0 zs cf e0 ne ce Q a1 us cu a2 vs cv w hsz hF hE hU hV ⟨hT, hTb⟩
end Go.Proofs.YtfcbpablponmeaaGreatDoor
