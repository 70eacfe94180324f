/- MarkOrders, walked, over the marker's contracts; at this seat's numbers. -/
import Derived.Test.YtfcbpablponmeaaGreatDoorMrC
namespace Go.Proofs.YtfcbpablponmeaaGreatDoor
open Go Go.RowKit Go.Shelf Go.MuLone Go.RwLone
set_option linter.unusedSimpArgs false
set_option linter.unusedVariables false
attribute [local go_sem] Oper.semAt_some

structure OrA (B mb n tm tm2 : Nat) (X : ArB) (s : ArS) (obs : List Ob) (vl : Value) (f : Int → Value) (vr : Value) (roots : List Int) (wb : World) (i j : Nat) (T : MkB) (c : Col) (T2 : MkB) (c2 : Col) (wr : World) : Prop where
  gm : Gm2 B mb n X s obs vl f (ptsAt obs) (fun k => vr.ownBlock = some k) T c T2 c2 wb wr
  tm : T.m = tm
  tm2 : T2.m = tm2
  row : RefRow wr vr roots
  tri : Tri (ptsAt obs) (roots.take i) c []
  tri2 : ∃ ord, Tri (ptsAt obs) (roots.reverse.take j) c2 ord
/-- As many scanned as there are: none is grey. -/
theorem Tri.full {obs : List Ob} {P : Int → List Int} {fr ord : List Int} {c : Col} (h : Tri P fr c ord) (hi : ∀ x, c.ma x = true → x ∈ refsI obs) (hl : obs.length ≤ ord.length) : c.dry := fun x hx => by
  cases e : c.sc x with
  | true => rfl
  | false =>
    have hno : x ∉ ord := fun e2 => by have := (h.ord x).2 e2; rw [e] at this; cases this
    have h1 : (x :: ord).length ≤ (refsI obs).length := nodup_sub (List.nodup_cons.2 ⟨hno, h.nod⟩) fun y hy => by
      rcases List.mem_cons.1 hy with e2 | e2
      · rw [e2]; exact hi x hx
      · exact hi y (h.sub y ((h.ord y).2 e2))
    rw [refsI_length, List.length_cons] at h1
    omega
theorem tri_same {P : Int → List Int} {fr fr' ord ord' : List Int} {c c' : Col} (h : Tri P fr c ord) (h' : Tri P fr' c' ord') (hd : c.dry) (hd' : c'.dry) (hf : ∀ x, x ∈ fr ↔ x ∈ fr') (z : Int) : c.ma z = c'.ma z ∧ c.sc z = c'.sc z := by
  have hm : c.ma z = c'.ma z := by
    have h1 := h.dry hd z
    have h2 := h'.dry hd' z
    cases e1 : c.ma z <;> cases e2 : c'.ma z
    · rfl
    · rw [h1.2 ((h2.1 e2).more fun y hy => (hf y).2 hy)] at e1; cases e1
    · rw [h2.2 ((h1.1 e1).more fun y hy => (hf y).1 hy)] at e2; cases e2
    · rfl
  refine ⟨hm, ?_⟩
  cases e1 : c.sc z <;> cases e2 : c'.sc z
  · rfl
  · rw [hd z (hm ▸ h'.sub z e2)] at e1; cases e1
  · rw [hd' z (hm ▸ h.sub z e1)] at e2; cases e2
  · rfl

set_option maxRecDepth 100000 in
set_option maxHeartbeats 16000000 in
theorem morders_true (a0 : Option Addr) (zs : List Int) (cf : Nat) (e0 : Option Addr) (ne ce : Nat) (Q : Nat → Nat → Int) (a1 : Option Addr) (us : List Int) (cu : Nat) (a2 : Option Addr) (vs : List Int) (cv : Nat) (w : World)
    (hF : BytesW w a0 zs) (hE : EdgesW w e0 ne Q) (hU : BytesW w a1 us) (hV : BytesW w a2 vs) (hT : Tabs w) :
    Calls Tryz.prog 7 #[.agg #[.slice a0 zs.length cf, .slice e0 ne ce], .slice a1 us.length cu, .slice a2 vs.length cv] w fun e w' => e = .returned (.bool true) ∧ Below w.heap.size w w' := by
  have HA := Lib.hid (And.intro hF (And.intro hE (And.intro hU hV)))
  clear hF hE hU hV
  go_enter Tryz.func7, Tryz.ntmps7
  go_wp2_with fail
  have hG := Blk.new w #[.slice a0 zs.length cf, .slice e0 ne ce] 25
  have hB0 := (Below.refl w.heap.size w).alloc (Nat.le_refl _) (.cells #[.slice a0 zs.length cf, .slice e0 ne ce] 25)
  have hT0 := hT.below hB0
  generalize w.alloc (.cells #[.slice a0 zs.length cf, .slice e0 ne ce] 25) = W0 at *
  refine (mkfit_true W0 hT0.c hT0.b).mono ?_
  rintro e w1 ⟨rfl, hB1⟩
  have hG1 := hG.turn (Turn.ofBelow hB1) (fun e => Nat.lt_irrefl _ (Nat.lt_of_lt_of_le hG.lt e))
  have hB01 := hB0.trans (hB1.mono hB0.size)
  have g0 := hG1.cell 0
  have g1 := hG1.cell 1
  simp only [List.getElem?_toArray, List.getElem?_cons_zero, List.getElem?_cons_succ] at g0 g1
  obtain ⟨q, hq⟩ : ∃ q, (decide (zs.length ≤ 40) && decide (ne ≤ 120)) = q := ⟨_, rfl⟩
  have cS := small_any a0 zs.length cf e0 ne ce w1 q hq
  have HW1 := Lib.hid (And.intro hG1 (And.intro hB01 (hT.below hB01)))
  clear hB0 hB1 hG hT0 hG1 hT hB01
  go_wp2_with fail
  refine cS.mono ?_
  rintro e w2 ⟨rfl, hB2⟩
  have hB02 := HW1.out.2.1.trans (hB2.mono HW1.out.2.1.size)
  clear cS g0 g1
  by_cases hsm : zs.length ≤ 40 ∧ ne ≤ 120 ∧ us.length ≤ 20 ∧ vs.length ≤ 40
  case neg =>
    cases q with
    | false =>
      clear hsm hq
      go_wp2_with fail
      go_ret
      exact ⟨rfl, hB02⟩
    | true =>
      have h20 : 20 < (us.length : Int) ∨ (¬ 20 < (us.length : Int) ∧ 40 < (vs.length : Int)) := by
        have h1 : zs.length ≤ 40 := by simpa using (Bool.and_eq_true_iff.1 hq).1
        have h2 : ne ≤ 120 := by simpa using (Bool.and_eq_true_iff.1 hq).2
        have : ¬ (us.length ≤ 20 ∧ vs.length ≤ 40) := fun h3 => hsm ⟨h1, h2, h3⟩
        omega
      clear hsm hq
      rcases h20 with h20 | ⟨h20, h40⟩
      · go_wp2_with fail
        go_ret
        exact ⟨rfl, hB02⟩
      · go_wp2_with fail
        go_ret
        exact ⟨rfl, hB02⟩
  case pos =>
  obtain ⟨h40, h120, h20⟩ := hsm
  have hqt : q = true := by rw [← hq, decide_eq_true h40, decide_eq_true h120]; rfl
  subst hqt
  have h20I : ¬ 20 < (us.length : Int) := by omega
  have h40I : ¬ 40 < (vs.length : Int) := by omega
  have hG2 := HW1.out.1.turn (Turn.ofBelow hB2) (fun e => Nat.lt_irrefl _ (Nat.lt_of_lt_of_le HW1.out.1.lt e))
  have hT2 := HW1.out.2.2.below hB2
  have cM := made_any a0 zs cf e0 ne ce Q w2 h40 h120 (HA.out.1.under hB02 (Nat.le_refl _)) (HA.out.2.1.under hB02 (Nat.le_refl _)) hT2.c
  have HTB := Lib.hid hT2.b
  have g0 := hG2.cell 0
  have g1 := hG2.cell 1
  simp only [List.getElem?_toArray, List.getElem?_cons_zero, List.getElem?_cons_succ] at g0 g1
  have HW2 := Lib.hid hB02
  have H40 := Lib.hid (And.intro h40 h20)
  clear hG2 hT2 hB02 hB2 HW1 hq h40 h120 h20
  go_wp2_with fail
  refine cM.mono ?_
  rintro e w3 hMP
  obtain ⟨X, s, obs, vl, mb, n, f, rfl, hMO⟩ := hMP.ok HTB.out
  have holI : (obs.length : Int) ≤ 40 := by have := hMO.len; have := H40.out.1; omega
  have cN := gm2_new (E := fun _ => False) hMO.go hMO.P 5 1 (fun _ h => h.elim) (by omega) (by omega) hMO.tab hMO.tab.lt
  have HO := Lib.hid hMO
  clear hMO hMP cM g0 g1
  go_wp2_with fail
  refine cN.mono ?_
  rintro e w4 ⟨T, rfl, cN2⟩
  obtain ⟨tm, htm⟩ : ∃ tm, T.m = tm := ⟨_, rfl⟩
  rw [htm]
  clear cN
  go_wp2_with fail
  refine cN2.mono ?_
  rintro e w4 ⟨T2, rfl, hGm⟩
  obtain ⟨tm2, htm2⟩ : ∃ tm2, T2.m = tm2 := ⟨_, rfl⟩
  rw [htm2]
  have hB04 := HW2.out.trans (hGm.a.below.mono HW2.out.size)
  have cSo := some_any vl (refsI obs) a1 us cu w4 hGm.a.go.row (by rw [refsI_length]; omega) (by have := H40.out.2; omega) (HA.out.2.2.1.under hB04 (Nat.le_refl _))
  have H4 := Lib.hid (And.intro hGm (And.intro htm htm2))
  clear hGm htm htm2 hB04 cN2
  go_wp2_with fail
  refine cSo.mono ?_
  rintro e w5 ⟨vr, rfl, hvr, hB5, hnew⟩
  obtain ⟨roots, hroots⟩ : ∃ roots, roots = someL (refsI obs) us := ⟨_, rfl⟩
  rw [← hroots] at hvr
  have hrin : ∀ x ∈ roots, x ∈ refsI obs := fun x hx => someL_mem (hroots ▸ hx)
  have hr20 : (roots.length : Int) ≤ 20 := by rw [hroots]; have := someL_length (refsI obs) us; have := H40.out.2; omega
  have hG5 : Gm2 w2.heap.size mb n X s obs vl f (ptsAt obs) (fun k => vr.ownBlock = some k) T Col.white T2 Col.white w2 w5 := H4.out.1.watch hB5 fun k e => .inr ⟨hnew k e, hvr.lt e⟩
  have hlr := hvr.lenRun 3
  have h5 : OrA w2.heap.size mb n tm tm2 X s obs vl f vr roots w2 0 0 T Col.white T2 Col.white w5 := ⟨hG5, H4.out.2.1, H4.out.2.2, hvr, good_white, [], good_white⟩
  have HRI := Lib.hid hrin
  clear cSo hvr hB5 hnew hroots hrin hG5 H4
  go_wp2_with fail
  clear hlr
  go_loopw [49] (fun v49 wr => ∃ (i : Nat) (T : MkB) (c : Col), i ≤ roots.length ∧ v49 = .int .i64 (i : Int) ∧ OrA w2.heap.size mb n tm tm2 X s obs vl f vr roots w2 i 0 T c T2 Col.white wr) (fun v49 _ => roots.length - (intOf v49).toNat)
  case atStart => exact ⟨0, T, Col.white, Nat.zero_le _, rfl, h5⟩
  case round =>
  clear h5
  obtain ⟨i, T, c, hi, rfl, h1⟩ := hrel
  have hi0 : (0 : Int) ≤ (i : Int) := by omega
  by_cases hlt : i < roots.length
  · have hi1 : (i : Int) < (roots.length : Int) := by omega
    obtain ⟨x, hx⟩ : ∃ x, roots[i]? = some x := ⟨_, List.getElem?_eq_getElem hlt⟩
    rcases h1.row.is with ⟨_, e⟩ | ⟨g, cap, cur, hv, hg, hlc, hcm, hcs, hcell⟩
    · rw [e] at hlt; simp at hlt
    have hca := hcell i hlt
    rw [(List.getElem?_eq_some_iff.1 hx).2] at hca
    have hxin := HRI.out x (List.mem_of_getElem? hx)
    have hxb := HO.out.bd x hxin
    have cA := h1.gm.a.shade x hxin hxb.1 hxb.2
    rw [h1.tm] at cA
    have H := Lib.hid h1
    have HX := Lib.hid (And.intro hx (And.intro hxin hxb))
    subst hv
    clear h1 hx hg hlc hcm hcs hcell hxin hxb
    go_wp2_with fail
    refine cA.mono ?_
    rintro e w6 ⟨rfl, T', hm', hG6, hk6⟩
    obtain ⟨h6, hE6⟩ := H.out.gm.stepA hG6 hk6
    have hTa := H.out.tri.shade (x := x) (by have := HX.out.2.2.1; omega)
    rw [← take_nextR HX.out.1] at hTa
    have h8 : OrA w2.heap.size mb n tm tm2 X s obs vl f (.slice (some ⟨g, 0, none⟩) roots.length cap) roots w2 (i + 1) 0 T' (c.shade x) T2 Col.white w6 := ⟨h6, hm', H.out.tm2, H.out.row.keepG hE6, hTa, H.out.tri2⟩
    have H8 := Lib.hid h8
    clear cA hm' hG6 hk6 h6 hE6 hTa h8 hca
    go_wp2_with fail
    go_roundw
    case rel => exact ⟨i + 1, T', _, hlt, by go_num, H8.out⟩
    case measure => simp [intOf]; omega
  · have hi1 : ¬ (i : Int) < (roots.length : Int) := by omega
    obtain rfl : i = roots.length := by omega
    have hlr := h1.row.lenRun 3
    clear hlt hi
    go_wp2_with fail
    clear hlr
    go_loopw [61] (fun v61 wr => ∃ (i : Nat) (T2 : MkB) (c2 : Col), i ≤ roots.length ∧ v61 = .int .i64 (i : Int) ∧ OrA w2.heap.size mb n tm tm2 X s obs vl f vr roots w2 roots.length i T c T2 c2 wr) (fun v61 _ => roots.length - (intOf v61).toNat)
    case atStart => exact ⟨0, T2, Col.white, Nat.zero_le _, rfl, h1⟩
    case round =>
    clear h1
    obtain ⟨i, T2, c2, hi, rfl, h1⟩ := hrel
    have hi0 : (0 : Int) ≤ (i : Int) := by omega
    by_cases hlt : i < roots.length
    · have hi1 : (i : Int) < (roots.length : Int) := by omega
      obtain ⟨j, hj⟩ : ∃ j, j = roots.length - 1 - i := ⟨_, rfl⟩
      have hjl : j < roots.length := by omega
      obtain ⟨x, hx⟩ : ∃ x, roots[j]? = some x := ⟨_, List.getElem?_eq_getElem hjl⟩
      have hxr : roots.reverse[i]? = some x := by rw [List.getElem?_reverse hlt, ← hj]; exact hx
      rcases h1.row.is with ⟨_, e⟩ | ⟨g, cap, cur, hv, hg, hlc, hcm, hcs, hcell⟩
      · rw [e] at hlt; simp at hlt
      have hca := hcell j hjl
      rw [(List.getElem?_eq_some_iff.1 hx).2] at hca
      have hxin := HRI.out x (List.mem_of_getElem? hx)
      have hxb := HO.out.bd x hxin
      have cB := h1.gm.b.shade x hxin hxb.1 hxb.2
      rw [h1.tm2] at cB
      have H := Lib.hid h1
      have HX := Lib.hid (And.intro hxr hxb)
      have hjI : (roots.length : Int) - 1 - (i : Int) = (j : Int) := by omega
      have hj0 : (0 : Int) ≤ (j : Int) := by omega
      have hj1 : (j : Int) < (roots.length : Int) := by omega
      subst hv
      clear h1 hx hxr hg hlc hcm hcs hcell hxin hxb hj hjl
      go_wp2_with fail
      refine cB.mono ?_
      rintro e w6 ⟨rfl, T', hm', hG6, hk6⟩
      obtain ⟨h6, hE6⟩ := H.out.gm.symm.stepA hG6 hk6
      obtain ⟨ord, ht2⟩ := H.out.tri2
      have hTb := ht2.shade (x := x) (by have := HX.out.2.1; omega)
      rw [← take_nextR HX.out.1] at hTb
      have h8 : OrA w2.heap.size mb n tm tm2 X s obs vl f (.slice (some ⟨g, 0, none⟩) roots.length cap) roots w2 roots.length (i + 1) T c T' (c2.shade x) w6 := ⟨h6.symm, H.out.tm, hm', H.out.row.keepG hE6, H.out.tri, ord, hTb⟩
      clear cB hm' hG6 hk6 h6 hE6 ht2 hTb hca hjI hj0 hj1
      by_cases hp : i < vs.length
      · have hp1 : (i : Int) < (vs.length : Int) := by omega
        have hB06 := HW2.out.trans (h8.gm.a.below.mono HW2.out.size)
        obtain ⟨bk, off, rfl, hbk, hq0, hwf⟩ := HA.out.2.2.2 i hp
        have hc0 := (hB06.cell (p := ⟨bk, off + i, none⟩) hbk).trans hq0
        obtain ⟨z, hz9, hz256⟩ := u8_natW hwf
        rw [hz9] at hc0
        obtain ⟨K, hK⟩ : ∃ K, K = z % 4 := ⟨_, rfl⟩
        have hKt : (z : Int).tmod 4 = (K : Int) := by rw [Int.tmod_eq_emod_of_nonneg (by omega)]; omega
        have hK9 : K < 4 := by omega
        have hKu : IntKind.u8.wrap (K : Int) = (K : Int) := by simp [IntKind.wrap, IntKind.bits, IntKind.signed]; omega
        have cT := h8.gm.b.trace HO.out.cl (K : Int)
        rw [h8.tm2] at cT
        have H8 := Lib.hid h8
        clear h8 hB06 hq0 hwf hz9 hK
        go_wp2_with fail
        refine cT.mono ?_
        rintro e w7 ⟨k, T3, c3, l, rfl, hlk, hm3, hG7, hk7, hsc, hkm, hkd⟩
        obtain ⟨h7, hE7⟩ := H8.out.gm.symm.stepA hG7 hk7
        obtain ⟨ord2, ht3⟩ := H8.out.tri2
        have h9 : OrA w2.heap.size mb n tm tm2 X s obs vl f (.slice (some ⟨g, 0, none⟩) roots.length cap) roots w2 roots.length (i + 1) T c T3 c3 w7 := ⟨h7.symm, H8.out.tm, hm3, H8.out.row.keepG hE7, H8.out.tri, ord2 ++ l, ht3.scans ptsAt_zero hsc⟩
        have H9 := Lib.hid h9
        clear cT hlk hm3 hG7 hk7 hsc hkm hkd h7 hE7 ht3 h9 hc0 hKt hKu
        go_wp2_with fail
        go_roundw
        case rel => exact ⟨i + 1, T3, c3, hlt, by go_num, H9.out⟩
        case measure => simp [intOf]; omega
      · have hp1 : ¬ (i : Int) < (vs.length : Int) := by omega
        have H8 := Lib.hid h8
        clear h8
        go_wp2_with fail
        go_roundw
        case rel => exact ⟨i + 1, T', _, hlt, by go_num, H8.out⟩
        case measure => simp [intOf]; omega
    · have hi1 : ¬ (i : Int) < (roots.length : Int) := by omega
      obtain rfl : i = roots.length := by omega
      have hll : ∀ W, (Builtin.len_ #[29] 3 #[vl]).run Tryz.prog W = .ok (.int .i64 (obs.length : Int)) W := fun W => by
        have := h1.gm.a.go.row.lenRun 3 W
        rw [refsI_length] at this; exact this
      have HLL := Lib.hid hll
      have cT := h1.gm.a.trace HO.out.cl (obs.length : Int)
      rw [h1.tm] at cT
      have H := Lib.hid h1
      clear h1 hlt hi
      go_wp2_with fail
      refine cT.mono ?_
      rintro e w6 ⟨k, T', c', l, rfl, hlk, hm', hG6, hk6, hsc, hkm, hkd⟩
      obtain ⟨h6, hE6⟩ := H.out.gm.stepA hG6 hk6
      have hTri := H.out.tri.scans ptsAt_zero hsc
      rw [List.nil_append, List.take_length] at hTri
      have hdry : c'.dry := by
        by_cases hk : (k : Int) < (obs.length : Int)
        · exact hkd hk
        · exact hTri.full hG6.inn (by omega)
      obtain ⟨ord, ht2⟩ := H.out.tri2
      have e0 : roots.reverse.take roots.length = roots.reverse := by rw [← List.length_reverse, List.take_length]
      rw [e0] at ht2
      have h6w : Gm2 w2.heap.size mb n X s obs vl f (ptsAt obs) (fun _ => False) T' c' T2 c2 w2 w6 := h6.watch (Below.refl _ _) fun k e => e.elim
      have h7 : ∃ (i : Nat) (T2 : MkB) (c2 : Col) (ord : List Int), i ≤ vs.length ∧ (.int .i64 ((0 : Nat) : Int) : Value) = .int .i64 (i : Int) ∧ T2.m = tm2 ∧ Gm2 w2.heap.size mb n X s obs vl f (ptsAt obs) (fun _ => False) T' c' T2 c2 w2 w6 ∧ Tri (ptsAt obs) roots.reverse c2 ord := ⟨0, T2, c2, ord, Nat.zero_le _, rfl, H.out.tm2, h6w, ht2⟩
      have H6 := Lib.hid (And.intro hTri (And.intro hdry hm'))
      clear cT hlk hm' hG6 hk6 hsc hkm hkd h6 hE6 hTri hdry ht2 h6w e0 hll
      go_wp2_with fail
      go_loopw [93] (fun v93 wr => ∃ (i : Nat) (T2 : MkB) (c2 : Col) (ord : List Int), i ≤ vs.length ∧ v93 = .int .i64 (i : Int) ∧ T2.m = tm2 ∧ Gm2 w2.heap.size mb n X s obs vl f (ptsAt obs) (fun _ => False) T' c' T2 c2 w2 wr ∧ Tri (ptsAt obs) roots.reverse c2 ord) (fun v93 _ => vs.length - (intOf v93).toNat)
      case atStart => exact h7
      case round =>
      clear h7
      obtain ⟨i, T2, c2, ord, hi, rfl, htm2, h1, ht2⟩ := hrel
      have hi0 : (0 : Int) ≤ (i : Int) := by omega
      by_cases hp : i < vs.length
      · have hp1 : (i : Int) < (vs.length : Int) := by omega
        have hB06 := HW2.out.trans (h1.a.below.mono HW2.out.size)
        obtain ⟨bk, off, rfl, hbk, hq0, hwf⟩ := HA.out.2.2.2 i hp
        have hc0 := (hB06.cell (p := ⟨bk, off + i, none⟩) hbk).trans hq0
        obtain ⟨z, hz9, hz256⟩ := u8_natW hwf
        rw [hz9] at hc0
        obtain ⟨K, hK⟩ : ∃ K, K = z % 5 := ⟨_, rfl⟩
        have hKt : (z : Int).tmod 5 = (K : Int) := by rw [Int.tmod_eq_emod_of_nonneg (by omega)]; omega
        have hK9 : K < 5 := by omega
        have hKu : IntKind.u8.wrap (K : Int) = (K : Int) := by simp [IntKind.wrap, IntKind.bits, IntKind.signed]; omega
        have cT := h1.b.trace HO.out.cl (K : Int)
        rw [htm2] at cT
        have H1 := Lib.hid (And.intro h1 ht2)
        clear h1 ht2 hB06 hq0 hwf hz9 hK htm2
        go_wp2_with fail
        refine cT.mono ?_
        rintro e w7 ⟨k, T3, c3, l, rfl, hlk, hm3, hG7, hk7, hsc, hkm, hkd⟩
        obtain ⟨h7, _⟩ := H1.out.1.symm.stepA hG7 hk7
        have H9 := Lib.hid (And.intro hm3 (And.intro h7.symm (H1.out.2.scans ptsAt_zero hsc)))
        clear cT hlk hm3 hG7 hk7 hsc hkm hkd h7 hc0 hKt hKu
        go_wp2_with fail
        go_roundw
        case rel => exact ⟨i + 1, T3, c3, _, hp, by go_num, H9.out⟩
        case measure => simp [intOf]; omega
      · have hp1 : ¬ (i : Int) < (vs.length : Int) := by omega
        have cT := h1.b.trace HO.out.cl (obs.length : Int)
        rw [htm2] at cT
        have H1 := Lib.hid (And.intro h1 ht2)
        have hll := HLL.out
        clear h1 ht2 htm2 hp hi hi0
        go_wp2_with fail
        refine cT.mono ?_
        rintro e w7 ⟨k, T3, c3, l, rfl, hlk, hm3, hG7, hk7, hsc, hkm, hkd⟩
        obtain ⟨h7, _⟩ := H1.out.1.symm.stepA hG7 hk7
        have ht3 := H1.out.2.scans ptsAt_zero hsc
        have hdry : c3.dry := by
          by_cases hk : (k : Int) < (obs.length : Int)
          · exact hkd hk
          · exact ht3.full hG7.inn (by rw [List.length_append]; omega)
        have hsame := tri_same H6.out.1 ht3 H6.out.2.1 hdry (fun z => List.mem_reverse.symm)
        have HS := Lib.hid (And.intro hsame (And.intro hm3 hdry))
        have h9 : ∃ i : Nat, i ≤ obs.length ∧ (.int .i64 ((0 : Nat) : Int) : Value) = .int .i64 (i : Int) ∧ Gm2 w2.heap.size mb n X s obs vl f (ptsAt obs) (fun _ => False) T' c' T3 c3 w2 w7 := ⟨0, Nat.zero_le _, rfl, h7.symm⟩
        clear cT hlk hm3 hG7 hk7 hsc hkm hkd h7 ht3 hdry hsame
        go_wp2_with fail
        clear hll
        go_loopw [109] (fun v109 wr => ∃ i : Nat, i ≤ obs.length ∧ v109 = .int .i64 (i : Int) ∧ Gm2 w2.heap.size mb n X s obs vl f (ptsAt obs) (fun _ => False) T' c' T3 c3 w2 wr) (fun v109 _ => obs.length - (intOf v109).toNat)
        case atStart => exact h9
        case round =>
        clear h9
        obtain ⟨i3, hi3, rfl, hGm⟩ := hrel
        have hi30 : (0 : Int) ≤ (i3 : Int) := by omega
        by_cases hlt : i3 < obs.length
        · have hlt1 : (i3 : Int) < (obs.length : Int) := by omega
          obtain ⟨y, hy⟩ : ∃ y, obs[i3]? = some y := ⟨_, List.getElem?_eq_getElem hlt⟩
          rcases hGm.a.go.row.is with ⟨_, e⟩ | ⟨g, cap, cur, hv, hg, hlc, hcm, hcs, hcell⟩
          · have := congrArg List.length e; rw [refsI_length, List.length_nil] at this; omega
          rw [refsI_length] at hv
          have hca := hcell i3 (by rw [refsI_length]; exact hlt)
          rw [(List.getElem?_eq_some_iff.1 (refsI_at hy)).2] at hca
          obtain ⟨bq, hbq⟩ : ∃ bq, c'.ma (y.r : Int) = bq := ⟨_, rfl⟩
          obtain ⟨sq, hsq⟩ : ∃ sq, c'.sc (y.r : Int) = sq := ⟨_, rfl⟩
          have hbd : c3.ma (y.r : Int) = bq := by rw [← (HS.out.1 _).1]; exact hbq
          have hsd : c3.sc (y.r : Int) = sq := by rw [← (HS.out.1 _).2]; exact hsq
          have hqq : (bq != bq) = false := by cases bq <;> rfl
          have hqs : (sq != sq) = false := by cases sq <;> rfl
          have cM1 := hGm.a.at_.marked (y.r : Int)
          rw [H6.out.2.2, hbq] at cM1
          have HG := Lib.hid hGm
          have HBD := Lib.hid (And.intro hbd (And.intro hsq hsd))
          subst hv
          clear hg hlc hcm hcs hcell hy hGm hbq hsq hbd hsd
          go_wp2_with fail
          refine cM1.mono ?_
          rintro e we ⟨rfl, hBe⟩
          have hGe := HG.out.ask hBe
          have cM2 := hGe.b.at_.marked (y.r : Int)
          rw [HS.out.2.1, HBD.out.1] at cM2
          have HE := Lib.hid hGe
          clear cM1 hBe hGe hca
          go_wp2_with fail
          refine cM2.mono ?_
          rintro e wf ⟨rfl, hBf⟩
          have hGf := HE.out.ask hBf
          have cM3 := hGf.a.at_.scanned (y.r : Int)
          rw [H6.out.2.2, HBD.out.2.1] at cM3
          have HF := Lib.hid hGf
          clear cM2 hBf hGf
          go_wp2_with fail
          refine cM3.mono ?_
          rintro e wg ⟨rfl, hBg⟩
          have hGg := HF.out.ask hBg
          have cM4 := hGg.b.at_.scanned (y.r : Int)
          rw [HS.out.2.1, HBD.out.2.2] at cM4
          have HG2 := Lib.hid hGg
          clear cM3 hBg hGg
          go_wp2_with fail
          refine cM4.mono ?_
          rintro e wh ⟨rfl, hBh⟩
          have HH := Lib.hid (HG2.out.ask hBh)
          clear cM4 hBh
          go_wp2_with fail
          go_roundw
          case rel => exact ⟨i3 + 1, hlt, by go_num, HH.out⟩
          case measure => simp [intOf]; omega
        · have hi1 : ¬ (i3 : Int) < (obs.length : Int) := by omega
          have cD := hGm.a.at_.drained true ⟨fun _ => H6.out.2.1, fun _ => rfl⟩
          rw [H6.out.2.2] at cD
          have HG := Lib.hid hGm
          clear hGm hlt hi3 hi30
          go_wp2_with fail
          refine cD.mono ?_
          rintro e we ⟨rfl, hBe⟩
          have hGe := HG.out.ask hBe
          have cD2 := hGe.b.at_.drained true ⟨fun _ => HS.out.2.2, fun _ => rfl⟩
          rw [HS.out.2.1] at cD2
          have HE := Lib.hid hGe
          clear cD hBe hGe
          go_wp2_with fail
          refine cD2.mono ?_
          rintro e wf ⟨rfl, hBf⟩
          have hGf := HE.out.ask hBf
          have hfin := HW2.out.trans (hGf.a.below.mono HW2.out.size)
          clear cD2 hBf hGf
          go_wp2_with fail
          go_ret
          exact ⟨rfl, hfin⟩
theorem morders_frame (a0 : Option Addr) (zs : List Int) (cf : Nat) (e0 : Option Addr) (ne ce : Nat) (Q : Nat → Nat → Int) (a1 : Option Addr) (us : List Int) (cu : Nat) (a2 : Option Addr) (vs : List Int) (cv : Nat) (w : World) (_ : us.length ≤ 9223372036854775807) (_ : vs.length ≤ 9223372036854775807)
    (hF : BytesW w a0 zs) (hE : EdgesW w e0 ne Q) (hU : BytesW w a1 us) (hV : BytesW w a2 vs) (hTb : TabAt w) (hT : TableAt w) :
    Calls Tryz.prog 7 #[.agg #[.slice a0 zs.length cf, .slice e0 ne ce], .slice a1 us.length cu, .slice a2 vs.length cv] w fun e w' => e = .returned (.bool true) ∧ Below w.heap.size w w' :=
  morders_true a0 zs cf e0 ne ce Q a1 us cu a2 vs cv w hF hE hU hV ⟨hT, hTb⟩
end Go.Proofs.YtfcbpablponmeaaGreatDoor
