/- MarkTwice, walked, over the marker's contracts; at this seat's numbers. -/
import Derived.Test.YtfcbpablponmeaaGreatDoorMrA
import Derived.Deep.RegionHeld3
namespace Go.Proofs.YtfcbpablponmeaaGreatDoor
open Go Go.RowKit Go.Shelf Go.MuLone Go.RwLone
set_option linter.unusedSimpArgs false
set_option linter.unusedVariables false
attribute [local go_sem] Oper.semAt_some

def RtS (B mb n tm : Nat) (X : ArB) (s : ArS) (obs : List Ob) (vl : Value) (f : Int → Value) (vr : Value) (ys : List Int) (wb : World) (v46 : Value) (wr : World) : Prop :=
  ∃ (i : Nat) (T : MkB) (c : Col), i ≤ ys.length ∧ v46 = .int .i64 (i : Int) ∧ T.m = tm ∧ GmIn B mb n X s obs vl f (ptsAt obs) (fun k => vr.ownBlock = some k) T c wb wr ∧ RefRow wr vr ys
def RtW (B mb n : Nat) (X : ArB) (s : ArS) (obs : List Ob) (vl : Value) (f : Int → Value) (T : MkB) (wb : World) (v63 : Value) (wr : World) : Prop :=
  ∃ i : Nat, i ≤ obs.length ∧ v63 = .int .i64 (i : Int) ∧ GmIn B mb n X s obs vl f (ptsAt obs) (fun _ => False) T Col.white wb wr
def RtA (B mb n tm : Nat) (X : ArB) (s : ArS) (obs : List Ob) (vl : Value) (f : Int → Value) (vr : Value) (roots : List Int) (wb : World) (v81 : Value) (wr : World) : Prop :=
  ∃ (i : Nat) (T : MkB) (c : Col), i ≤ roots.length ∧ v81 = .int .i64 (i : Int) ∧ T.m = tm ∧ GmIn B mb n X s obs vl f (ptsAt obs) (fun k => vr.ownBlock = some k) T c wb wr ∧ RefRow wr vr roots ∧ Tri (ptsAt obs) (roots.take i) c []
def RtC (B mb n rb : Nat) (X : ArB) (s : ArS) (obs : List Ob) (vl : Value) (f : Int → Value) (vis : List Int) (T : MkB) (c : Col) (wb : World) (v99 : Value) (wr : World) : Prop :=
  ∃ i : Nat, i ≤ obs.length ∧ v99 = .int .i64 (i : Int) ∧ GmIn B mb n X s obs vl f (ptsAt obs) (fun k => k = rb) T c wb wr ∧ MapIn wr rb vis.length (visF vis) (visK vis) vis.length

set_option maxRecDepth 100000 in
set_option maxHeartbeats 16000000 in
theorem mtwice_true (a0 : Option Addr) (zs : List Int) (cf : Nat) (e0 : Option Addr) (ne ce : Nat) (Q : Nat → Nat → Int) (a1 : Option Addr) (us : List Int) (cu : Nat) (a2 : Option Addr) (vs : List Int) (cv : Nat) (w : World) (hsz : us.length + vs.length ≤ 9223372036854775807)
    (hF : BytesW w a0 zs) (hE : EdgesW w e0 ne Q) (hU : BytesW w a1 us) (hV : BytesW w a2 vs) (hT : Tabs w) :
    Calls Tryz.prog 9 #[.agg #[.slice a0 zs.length cf, .slice e0 ne ce], .slice a1 us.length cu, .slice a2 vs.length cv] w fun e w' => e = .returned (.bool true) ∧ Below w.heap.size w w' := by
  have HA := Lib.hid (And.intro hF (And.intro hE (And.intro hU hV)))
  clear hF hE hU hV
  go_enter Tryz.func9, Tryz.ntmps9
  go_wp2_with fail
  have hG := Blk.new w #[.slice a0 zs.length cf, .slice e0 ne ce] 25
  have hB0 := (Below.refl w.heap.size w).alloc (Nat.le_refl _) (.cells #[.slice a0 zs.length cf, .slice e0 ne ce] 25)
  have hT0 := hT.below hB0
  generalize w.alloc (.cells #[.slice a0 zs.length cf, .slice e0 ne ce] 25) = W0 at *
  refine (mkfit_true W0 hT0.c hT0.b).mono ?_
  rintro e w1 ⟨rfl, hB1⟩
  have hG1 := hG.turn (Turn.ofBelow hB1) (fun e => Nat.lt_irrefl _ (Nat.lt_of_lt_of_le hG.lt e))
  have hB01 := hB0.trans (hB1.mono hB0.size)
  have g0 := hG1.cell 0
  have g1 := hG1.cell 1
  simp only [List.getElem?_toArray, List.getElem?_cons_zero, List.getElem?_cons_succ] at g0 g1
  obtain ⟨q, hq⟩ : ∃ q, (decide (zs.length ≤ 40) && decide (ne ≤ 120)) = q := ⟨_, rfl⟩
  have cS := small_any a0 zs.length cf e0 ne ce w1 q hq
  have HW1 := Lib.hid (And.intro hG1 (And.intro hB01 (hT.below hB01)))
  have hsI : (us.length : Int) + (vs.length : Int) ≤ 9223372036854775807 := by omega
  clear hB0 hB1 hG hT0 hG1 hT hB01 hsz
  go_wp2_with fail
  refine cS.mono ?_
  rintro e w2 ⟨rfl, hB2⟩
  have hB02 := HW1.out.2.1.trans (hB2.mono HW1.out.2.1.size)
  clear cS g0 g1
  by_cases hsm : zs.length ≤ 40 ∧ ne ≤ 120 ∧ us.length + vs.length ≤ 30
  case neg =>
    cases q with
    | false =>
      clear hsm hq
      go_wp2_with fail
      go_ret
      exact ⟨rfl, hB02⟩
    | true =>
      have h20 : 30 < (us.length : Int) + (vs.length : Int) := by
        have h1 : zs.length ≤ 40 := by simpa using (Bool.and_eq_true_iff.1 hq).1
        have h2 : ne ≤ 120 := by simpa using (Bool.and_eq_true_iff.1 hq).2
        have : ¬ us.length + vs.length ≤ 30 := fun h3 => hsm ⟨h1, h2, h3⟩
        omega
      clear hsm hq
      go_wp2_with fail
      go_ret
      exact ⟨rfl, hB02⟩
  case pos =>
  obtain ⟨h40, h120, h30⟩ := hsm
  have hqt : q = true := by rw [← hq, decide_eq_true h40, decide_eq_true h120]; rfl
  subst hqt
  have h30I : ¬ 30 < (us.length : Int) + (vs.length : Int) := by omega
  have hu30 : (us.length : Int) ≤ 30 := by omega
  have hv30 : (vs.length : Int) ≤ 30 := by omega
  have hG2 := HW1.out.1.turn (Turn.ofBelow hB2) (fun e => Nat.lt_irrefl _ (Nat.lt_of_lt_of_le HW1.out.1.lt e))
  have hT2 := HW1.out.2.2.below hB2
  have cM := made_any a0 zs cf e0 ne ce Q w2 h40 h120 (HA.out.1.under hB02 (Nat.le_refl _)) (HA.out.2.1.under hB02 (Nat.le_refl _)) hT2.c
  have HTB := Lib.hid hT2.b
  have g0 := hG2.cell 0
  have g1 := hG2.cell 1
  simp only [List.getElem?_toArray, List.getElem?_cons_zero, List.getElem?_cons_succ] at g0 g1
  have HW2 := Lib.hid hB02
  have H40 := Lib.hid h40
  clear hG2 hT2 hB02 hB2 HW1 hq h40 h120 h30
  go_wp2_with fail
  refine cM.mono ?_
  rintro e w3 hMP
  obtain ⟨X, s, obs, vl, mb, n, f, rfl, hMO⟩ := hMP.ok HTB.out
  have cN := gm_new (E := fun _ => False) hMO.go hMO.P 2 (fun _ h => h.elim) (by omega) hMO.tab hMO.tab.lt
  have holI : (obs.length : Int) ≤ 40 := by have := hMO.len; have := H40.out; omega
  have HO := Lib.hid hMO
  clear hMO hMP cM g0 g1
  go_wp2_with fail
  refine cN.mono ?_
  rintro e w4 ⟨T, rfl, hGm, hB4⟩
  obtain ⟨tm, htm⟩ : ∃ tm, T.m = tm := ⟨_, rfl⟩
  rw [htm]
  have hB04 := HW2.out.trans (hGm.below.mono HW2.out.size)
  have cSo := some_any vl (refsI obs) a2 vs cv w4 hGm.go.row (by rw [refsI_length]; omega) (by omega) (HA.out.2.2.2.under hB04 (Nat.le_refl _))
  have H4 := Lib.hid (And.intro hGm htm)
  clear hGm htm hB4 hB04 cN
  go_wp2_with fail
  refine cSo.mono ?_
  rintro e w5 ⟨vr, rfl, hvr, hB5, hnew⟩
  obtain ⟨ys, hys⟩ : ∃ ys, ys = someL (refsI obs) vs := ⟨_, rfl⟩
  rw [← hys] at hvr
  have hyin : ∀ x ∈ ys, x ∈ refsI obs := fun x hx => someL_mem (hys ▸ hx)
  have hy30 : (ys.length : Int) ≤ 30 := by rw [hys]; have := someL_length (refsI obs) vs; omega
  have hG5 : GmIn w2.heap.size mb n X s obs vl f (ptsAt obs) (fun k => vr.ownBlock = some k) T Col.white w2 w5 := H4.out.1.watch hB5 fun k e => .inr ⟨hnew k e, hvr.lt e⟩
  have hlr := hvr.lenRun 3
  have h5 : RtS w2.heap.size mb n tm X s obs vl f vr ys w2 (.int .i64 ((0 : Nat) : Int)) w5 := ⟨0, T, Col.white, Nat.zero_le _, rfl, H4.out.2, hG5, hvr⟩
  have HY := Lib.hid hyin
  clear cSo hvr hB5 hnew hys hyin hG5
  go_wp2_with fail
  clear hlr
  go_loopw [46] (fun v46 wr => RtS w2.heap.size mb n tm X s obs vl f vr ys w2 v46 wr) (fun v46 _ => ys.length - (intOf v46).toNat)
  case atStart => exact h5
  case round =>
    clear h5
    obtain ⟨i, T, c, hi, rfl, htm, hGm, hvr⟩ := hrel
    have hi0 : (0 : Int) ≤ (i : Int) := by omega
    by_cases hlt : i < ys.length
    · have hi1 : (i : Int) < (ys.length : Int) := by omega
      obtain ⟨x, hx⟩ : ∃ x, ys[i]? = some x := ⟨_, List.getElem?_eq_getElem hlt⟩
      rcases hvr.is with ⟨_, e⟩ | ⟨g, cap, cur, hv, hg, hlc, hcm, hcs, hcell⟩
      · rw [e] at hlt; simp at hlt
      have hca := hcell i hlt
      rw [(List.getElem?_eq_some_iff.1 hx).2] at hca
      have hxin := HY.out x (List.mem_of_getElem? hx)
      have hxb := HO.out.bd x hxin
      have cSh := hGm.shade x hxin hxb.1 hxb.2
      rw [htm] at cSh
      have H := Lib.hid (And.intro hvr (And.intro hx hx))
      have HX := Lib.hid hxb
      subst hv
      clear hGm hvr hx hg hlc hcm hcs hcell hxin hxb htm
      go_wp2_with fail
      refine cSh.mono ?_
      rintro e w7 ⟨rfl, T', hm', hG7, hk7⟩
      have H7 := Lib.hid (And.intro hG7 (And.intro (H.out.1.keepG hk7) hm'))
      clear cSh hG7 hk7 hm' hca
      go_wp2_with fail
      go_roundw
      case rel =>
        exact ⟨i + 1, T', _, hlt, by go_num, H7.out.2.2, H7.out.1, H7.out.2.1⟩
      case measure => simp [intOf]; omega
    · have hi1 : ¬ (i : Int) < (ys.length : Int) := by omega
      obtain ⟨m3, hm3, hm3e⟩ := i64_and_mask (vs.length : Int) 3 (by decide)
      replace hm3e : bits .and .i64 (vs.length : Int) 3 = (m3 : Int) := hm3e
      have cT := hGm.trace HO.out.cl (m3 : Int)
      rw [htm] at cT
      clear hGm hvr htm hlt hi hi0
      go_wp2_with fail
      refine cT.mono ?_
      rintro e w6 ⟨k0, T2, c2, l2, rfl, _, htm2, hG6, _, _, _, _⟩
      have cR := hG6.reset
      rw [htm2] at cR
      clear cT hm3e hG6
      go_wp2_with fail
      refine cR.mono ?_
      rintro e w7 ⟨rfl, T3, htm3, hG7, _⟩
      have htm37 : T3.m = tm := htm3
      have hG7w : GmIn w2.heap.size mb n X s obs vl f (ptsAt obs) (fun _ => False) T3 Col.white w2 w7 := hG7.watch (Below.refl _ _) fun k e => e.elim
      have hll : ∀ W, (Builtin.len_ #[29] 3 #[vl]).run Tryz.prog W = .ok (.int .i64 (obs.length : Int)) W := fun W => by
        have := hG7.go.row.lenRun 3 W
        rw [refsI_length] at this; exact this
      have HLL := Lib.hid hll
      have h7 : RtW w2.heap.size mb n X s obs vl f T3 w2 (.int .i64 ((0 : Nat) : Int)) w7 := ⟨0, Nat.zero_le _, rfl, hG7w⟩
      have HTM := Lib.hid htm37
      clear cR hG7 hG7w htm3 htm37 htm2
      go_wp2_with fail
      clear hll
      go_loopw [63] (fun v63 wr => RtW w2.heap.size mb n X s obs vl f T3 w2 v63 wr) (fun v63 _ => obs.length - (intOf v63).toNat)
      case atStart => exact h7
      case round =>
      clear h7
      obtain ⟨i2, hi2, rfl, hGm⟩ := hrel
      have hi20 : (0 : Int) ≤ (i2 : Int) := by omega
      by_cases hlt : i2 < obs.length
      · have hlt1 : (i2 : Int) < (obs.length : Int) := by omega
        obtain ⟨y, hy⟩ : ∃ y, obs[i2]? = some y := ⟨_, List.getElem?_eq_getElem hlt⟩
        rcases hGm.go.row.is with ⟨_, e⟩ | ⟨g, cap, cur, hv, hg, hlc, hcm, hcs, hcell⟩
        · have := congrArg List.length e; rw [refsI_length, List.length_nil] at this; omega
        rw [refsI_length] at hv
        have hca := hcell i2 (by rw [refsI_length]; exact hlt)
        rw [(List.getElem?_eq_some_iff.1 (refsI_at hy)).2] at hca
        have cMa := hGm.at_.marked (y.r : Int)
        rw [HTM.out] at cMa
        have H := Lib.hid hGm
        subst hv
        clear hg hlc hcm hcs hcell hy hGm
        go_wp2_with fail
        refine cMa.mono ?_
        rintro e w8 ⟨rfl, hB8⟩
        have hG8 := H.out.ask hB8
        have cSc := hG8.at_.scanned (y.r : Int)
        rw [HTM.out] at cSc
        have H8 := Lib.hid hG8
        have e1 : Col.white.ma (y.r : Int) = false := rfl
        have e2 : Col.white.sc (y.r : Int) = false := rfl
        rw [e1]
        rw [e2] at cSc
        clear cMa hB8 hG8 e1 e2 hca
        go_wp2_with fail
        refine cSc.mono ?_
        rintro e w9 ⟨rfl, hB9⟩
        have H9 := Lib.hid (H8.out.ask hB9)
        clear cSc hB9
        go_wp2_with fail
        go_roundw
        case rel => exact ⟨i2 + 1, hlt, by go_num, H9.out⟩
        case measure => simp [intOf]; omega
      · have hi1 : ¬ (i2 : Int) < (obs.length : Int) := by omega
        have hB04 := HW2.out.trans (hGm.below.mono HW2.out.size)
        have cSo := some_any vl (refsI obs) a1 us cu wr hGm.go.row (by rw [refsI_length]; omega) (by omega) (HA.out.2.2.1.under hB04 (Nat.le_refl _))
        have H4 := Lib.hid hGm
        clear hGm hB04 hlt hi2 hi20
        go_wp2_with fail
        refine cSo.mono ?_
        rintro e w5 ⟨vq, rfl, hvr, hB5, hnew⟩
        obtain ⟨roots, hroots⟩ : ∃ roots, roots = someL (refsI obs) us := ⟨_, rfl⟩
        rw [← hroots] at hvr
        have hrin : ∀ x ∈ roots, x ∈ refsI obs := fun x hx => someL_mem (hroots ▸ hx)
        have hr30 : (roots.length : Int) ≤ 30 := by rw [hroots]; have := someL_length (refsI obs) us; omega
        have hG5 : GmIn w2.heap.size mb n X s obs vl f (ptsAt obs) (fun k => vq.ownBlock = some k) T3 Col.white w2 w5 := H4.out.watch hB5 fun k e => .inr ⟨hnew k e, hvr.lt e⟩
        have hlr := hvr.lenRun 3
        have h8 : RtA w2.heap.size mb n tm X s obs vl f vq roots w2 (.int .i64 ((0 : Nat) : Int)) w5 := ⟨0, T3, Col.white, Nat.zero_le _, rfl, HTM.out, hG5, hvr, good_white⟩
        have HRI := Lib.hid hrin
        clear cSo hvr hB5 hnew hroots hrin hG5
        go_wp2_with fail
        clear hlr
        go_loopw [81] (fun v81 wr => RtA w2.heap.size mb n tm X s obs vl f vq roots w2 v81 wr) (fun v81 _ => roots.length - (intOf v81).toNat)
        case atStart => exact h8
        case round =>
          clear h8
          obtain ⟨i, T, c, hi, rfl, htm, hGm, hvr, hTri⟩ := hrel
          have hi0 : (0 : Int) ≤ (i : Int) := by omega
          by_cases hlt : i < roots.length
          · have hi1 : (i : Int) < (roots.length : Int) := by omega
            obtain ⟨x, hx⟩ : ∃ x, roots[i]? = some x := ⟨_, List.getElem?_eq_getElem hlt⟩
            rcases hvr.is with ⟨_, e⟩ | ⟨g, cap, cur, hv, hg, hlc, hcm, hcs, hcell⟩
            · rw [e] at hlt; simp at hlt
            have hca := hcell i hlt
            rw [(List.getElem?_eq_some_iff.1 hx).2] at hca
            have hxin := HRI.out x (List.mem_of_getElem? hx)
            have hxb := HO.out.bd x hxin
            have cSh := hGm.shade x hxin hxb.1 hxb.2
            rw [htm] at cSh
            have H := Lib.hid (And.intro hvr (And.intro hx hTri))
            have HX := Lib.hid hxb
            subst hv
            clear hGm hvr hx hg hlc hcm hcs hcell hxin hxb htm hTri
            go_wp2_with fail
            refine cSh.mono ?_
            rintro e w7 ⟨rfl, T', hm', hG7, hk7⟩
            have H7 := Lib.hid (And.intro hG7 (And.intro (H.out.1.keepG hk7) hm'))
            clear cSh hG7 hk7 hm' hca
            go_wp2_with fail
            go_roundw
            case rel =>
              have hT := H.out.2.2.shade (x := x) (by have := HX.out.1; omega)
              rw [← take_nextR H.out.2.1] at hT
              exact ⟨i + 1, T', _, hlt, by go_num, H7.out.2.2, H7.out.1, H7.out.2.1, hT⟩
            case measure => simp [intOf]; omega
          · have hi1 : ¬ (i : Int) < (roots.length : Int) := by omega
            obtain rfl : i = roots.length := by omega
            rw [List.take_length] at hTri
            have hrest : restI (ptsAt obs) [] (refsI obs) ≤ 6 * (refsI obs).length := restI_nil_le _ 6 _ HO.out.few
            have cRe := reach_any vq roots (refsI obs) mb n f (ptsAt obs) wr hvr hGm.go.grp HO.out.nd HO.out.bd (by rw [refsI_length]; omega) (fun x hx => .inr (HRI.out x hx)) HO.out.pin (by rw [refsI_length] at hrest; omega) (fun x hx => by have := HO.out.few x hx; omega)
            have H := Lib.hid (And.intro hGm (And.intro hTri htm))
            clear hGm hvr hTri htm hrest hi hlt
            go_wp2_with fail
            refine cRe.mono ?_
            rintro e w6 ⟨rb, vis, rfl, hMap, hrb, hB6, hvn, hvin, hvis⟩
            have hG6 : GmIn w2.heap.size mb n X s obs vl f (ptsAt obs) (fun k => k = rb) T c w2 w6 := H.out.1.watch hB6 fun k e => .inr ⟨by have e2 : k = rb := e; omega, by have e2 : k = rb := e; have := hMap.lt; omega⟩
            have cT := hG6.trace HO.out.cl 1000
            rw [H.out.2.2] at cT
            have HV := Lib.hid (And.intro hvn (And.intro hvis hMap))
            clear cRe hMap hB6 hvn hvin hvis hG6 hrb
            go_wp2_with fail
            refine cT.mono ?_
            rintro e w7 ⟨k, T', c', l, rfl, hlk, hm', hG7, hk7, hsc, hkm, hkd⟩
            have hMap := HV.out.2.2.keep (hk7 rb rfl)
            have hTri := H.out.2.1.scans ptsAt_zero hsc
            rw [List.nil_append] at hTri
            have hle := hTri.le hG7.inn
            have hd : c'.dry := hkd (by omega)
            have hkv : k = vis.length := by rw [← hlk]; exact same_length hTri.nod HV.out.1 fun z => (hTri.ordDry hd z).trans (HV.out.2.1 z).symm
            subst hkv
            have hlen := hMap.len 3
            have hnn : ((vis.length : Int) != (vis.length : Int)) = false := by simp
            have h7 : RtC w2.heap.size mb n rb X s obs vl f vis T' c' w2 (.int .i64 ((0 : Nat) : Int)) w7 := ⟨0, Nat.zero_le _, rfl, hG7, hMap⟩
            have H7 := Lib.hid (And.intro hTri (And.intro hd hm'))
            have hll := HLL.out
            clear cT hlk hm' hG7 hk7 hsc hkm hkd hMap hTri hle hd
            go_wp2_with fail
            clear hll hlen hnn
            go_loopw [99] (fun v99 wr => RtC w2.heap.size mb n rb X s obs vl f vis T' c' w2 v99 wr) (fun v99 _ => obs.length - (intOf v99).toNat)
            case atStart => exact h7
            case round =>
            clear h7
            obtain ⟨i2, hi2, rfl, hGm, hMap⟩ := hrel
            have hi20 : (0 : Int) ≤ (i2 : Int) := by omega
            by_cases hlt : i2 < obs.length
            · have hlt1 : (i2 : Int) < (obs.length : Int) := by omega
              obtain ⟨y, hy⟩ : ∃ y, obs[i2]? = some y := ⟨_, List.getElem?_eq_getElem hlt⟩
              rcases hGm.go.row.is with ⟨_, e⟩ | ⟨g, cap, cur, hv, hg, hlc, hcm, hcs, hcell⟩
              · have := congrArg List.length e; rw [refsI_length, List.length_nil] at this; omega
              rw [refsI_length] at hv
              have hca := hcell i2 (by rw [refsI_length]; exact hlt)
              rw [(List.getElem?_eq_some_iff.1 (refsI_at hy)).2] at hca
              have hyin : (y.r : Int) ∈ refsI obs := List.mem_map.2 ⟨y, List.mem_of_getElem? hy, rfl⟩
              have hyb := HO.out.bd _ hyin
              have hwf := wf_ref hyb.1 hyb.2
              have hmv : c'.ma (y.r : Int) = true ↔ (y.r : Int) ∈ vis := (H7.out.1.dry H7.out.2.1 _).trans (HV.out.2.1 _).symm
              subst hv
              clear hg hlc hcm hcs hcell hyin hyb hy
              cases hb : c'.ma (y.r : Int)
              · have hnv : ¬ (y.r : Int) ∈ vis := fun e => by have := hmv.2 e; rw [hb] at this; cases this
                have hvv : visF vis (y.r : Int) = 0 := by unfold visF; rw [if_neg hnv]
                clear hmv hnv
                have cMa := hGm.drew.at_.marked (y.r : Int)
                rw [H7.out.2.2, hb] at cMa
                have hS0 := rr_hold hGm hMap (Below.refl _ wr).drew (y.r : Int) 0 hwf hvv
                have HVV := Lib.hid hvv
                clear hb hvv hGm hMap
                go_wp2_with fail
                go_region_held3 (fun W' => (Instr.lookup 38 (.map (some rb)) (.int .i64 (y.r : Int)) false).run Tryz.prog W' = .ok (.int .i64 0) W')
                  (first | exact hSa.2.2 | exact hS0.2.2)
                  (first
                    | (go_at_call 15; refine cMa.mono ?_; rintro e w' ⟨rfl, hB'⟩; have hSa := rr_hold hS0.1 hS0.2.1 hB' (y.r : Int) 0 hwf HVV.out))
                all_goals
                  go_wp2_with fail
                  go_roundw
                  case rel => exact ⟨i2 + 1, hlt, by go_num, hSa.1, hSa.2.1⟩
                  case measure => simp [intOf]; omega
              · have hvv : visF vis (y.r : Int) = 1 := by unfold visF; rw [if_pos (hmv.1 hb)]
                clear hmv
                have cMa := hGm.drew.at_.marked (y.r : Int)
                rw [H7.out.2.2, hb] at cMa
                have hS0 := rr_hold hGm hMap (Below.refl _ wr).drew (y.r : Int) 1 hwf hvv
                have HVV := Lib.hid hvv
                clear hb hvv hGm hMap
                go_wp2_with fail
                go_region_held3 (fun W' => (Instr.lookup 38 (.map (some rb)) (.int .i64 (y.r : Int)) false).run Tryz.prog W' = .ok (.int .i64 1) W')
                  (first | exact hSa.2.2 | exact hS0.2.2)
                  (first
                    | (go_at_call 15; refine cMa.mono ?_; rintro e w' ⟨rfl, hB'⟩; have hSa := rr_hold hS0.1 hS0.2.1 hB' (y.r : Int) 1 hwf HVV.out))
                all_goals
                  go_wp2_with fail
                  go_roundw
                  case rel => exact ⟨i2 + 1, hlt, by go_num, hSa.1, hSa.2.1⟩
                  case measure => simp [intOf]; omega
            · have hi1 : ¬ (i2 : Int) < (obs.length : Int) := by omega
              have hfin := HW2.out.trans (hGm.below.mono HW2.out.size)
              clear hGm hMap
              go_wp2_with fail
              go_ret
              exact ⟨rfl, hfin⟩
theorem mtwice_frame (a0 : Option Addr) (zs : List Int) (cf : Nat) (e0 : Option Addr) (ne ce : Nat) (Q : Nat → Nat → Int) (a1 : Option Addr) (us : List Int) (cu : Nat) (a2 : Option Addr) (vs : List Int) (cv : Nat) (w : World) (hsz : us.length + vs.length ≤ 9223372036854775807)
    (hF : BytesW w a0 zs) (hE : EdgesW w e0 ne Q) (hU : BytesW w a1 us) (hV : BytesW w a2 vs) (hTb : TabAt w) (hT : TableAt w) :
    Calls Tryz.prog 9 #[.agg #[.slice a0 zs.length cf, .slice e0 ne ce], .slice a1 us.length cu, .slice a2 vs.length cv] w fun e w' => e = .returned (.bool true) ∧ Below w.heap.size w w' :=
  mtwice_true a0 zs cf e0 ne ce Q a1 us cu a2 vs cv w hsz hF hE hU hV ⟨hT, hTb⟩
end Go.Proofs.YtfcbpablponmeaaGreatDoor
