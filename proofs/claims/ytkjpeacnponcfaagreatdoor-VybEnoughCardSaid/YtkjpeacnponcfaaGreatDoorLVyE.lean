/- VybEnough, walked, over the barrier's contracts; at this seat's numbers. -/
import Derived.Test.YtkjpeacnponcfaaGreatDoorLVyC
import Derived.Test.YtkjpeacnponcfaaGreatDoorLVyW
import Derived.Test.YtkjpeacnponcfaaGreatDoorLMrC
import Derived.Test.YtkjpeacnponcfaaGreatDoorArgsF
import Derived.Deep.RegionHeld3
namespace Go.Proofs.YtkjpeacnponcfaaGreatDoor
open Go Go.RowKit Go.Shelf Go.MuLone Go.RwLone
set_option linter.unusedSimpArgs false
set_option linter.unusedVariables false
attribute [local go_sem] Oper.semAt_some

set_option maxRecDepth 100000 in
set_option maxHeartbeats 16000000 in
theorem venough_true (a0 : Option Addr) (zs : List Int) (cf : Nat) (e0 : Option Addr) (ne ce : Nat) (Q : Nat → Nat → Int) (a1 : Option Addr) (n1 c1 : Nat) (Q1 : Nat → Nat → Int) (a8 : Nat) (h8 : a8 < 256) (w : World)
    (hF : BytesW w a0 zs) (hE : EdgesW w e0 ne Q) (hP : FoursW w a1 n1 Q1) (hT : Tabs w) :
    Calls Tryz.prog 5 #[.agg #[.slice a0 zs.length cf, .slice e0 ne ce], .slice a1 n1 c1, .int .u8 (a8 : Int)] w fun e w' => e = .returned (.bool true) ∧ Below w.heap.size w w' := by
  have HA := Lib.hid (And.intro hF (And.intro hE hP))
  clear hF hE hP
  go_enter Tryz.func5, Tryz.ntmps5
  go_wp2_with fail
  have hG := Blk.new w #[.slice a0 zs.length cf, .slice e0 ne ce] 25
  have hB0 := (Below.refl w.heap.size w).alloc (Nat.le_refl _) (.cells #[.slice a0 zs.length cf, .slice e0 ne ce] 25)
  have hT0 := hT.below hB0
  generalize w.alloc (.cells #[.slice a0 zs.length cf, .slice e0 ne ce] 25) = W0 at *
  refine (vyfit_true W0 hT0).mono ?_
  rintro e w1 ⟨rfl, hB1⟩
  have hG1 := hG.turn (Turn.ofBelow hB1) (fun e => Nat.lt_irrefl _ (Nat.lt_of_lt_of_le hG.lt e))
  have hB01 := hB0.trans (hB1.mono hB0.size)
  have g0 := hG1.cell 0
  have g1 := hG1.cell 1
  simp only [List.getElem?_toArray, List.getElem?_cons_zero, List.getElem?_cons_succ] at g0 g1
  obtain ⟨q, hq⟩ : ∃ q, (decide (zs.length ≤ 40) && decide (ne ≤ 120)) = q := ⟨_, rfl⟩
  have cS := small_any a0 zs.length cf e0 ne ce w1 q hq
  have HW1 := Lib.hid (And.intro hG1 (And.intro hB01 (hT.below hB01)))
  clear hB0 hB1 hG hT0 hG1 hT hB01
  go_wp2_with fail
  refine cS.mono ?_
  rintro e w2 ⟨rfl, hB2⟩
  have hB02 := HW1.out.2.1.trans (hB2.mono HW1.out.2.1.size)
  clear cS g0 g1
  by_cases hsm : zs.length ≤ 40 ∧ ne ≤ 120 ∧ n1 ≤ 60
  case neg =>
    cases q with
    | false =>
      clear hsm hq
      go_wp2_with fail
      go_ret
      exact ⟨rfl, hB02⟩
    | true =>
      have h20 : 60 < (n1 : Int) := by
        have h1 : zs.length ≤ 40 := by simpa using (Bool.and_eq_true_iff.1 hq).1
        have h2 : ne ≤ 120 := by simpa using (Bool.and_eq_true_iff.1 hq).2
        have : ¬ n1 ≤ 60 := fun h3 => hsm ⟨h1, h2, h3⟩
        omega
      clear hsm hq
      go_wp2_with fail
      go_ret
      exact ⟨rfl, hB02⟩
  case pos =>
  obtain ⟨h40, h120, hn40⟩ := hsm
  have hqt : q = true := by rw [← hq, decide_eq_true h40, decide_eq_true h120]; rfl
  subst hqt
  have hn40I : ¬ 60 < (n1 : Int) := by omega
  have hG2 := HW1.out.1.turn (Turn.ofBelow hB2) (fun e => Nat.lt_irrefl _ (Nat.lt_of_lt_of_le HW1.out.1.lt e))
  have hT2 := HW1.out.2.2.below hB2
  have cM := made_any a0 zs cf e0 ne ce Q w2 h40 h120 (HA.out.1.under hB02 (Nat.le_refl _)) (HA.out.2.1.under hB02 (Nat.le_refl _)) hT2.c
  have HTB := Lib.hid hT2.b
  have g0 := hG2.cell 0
  have g1 := hG2.cell 1
  simp only [List.getElem?_toArray, List.getElem?_cons_zero, List.getElem?_cons_succ] at g0 g1
  have HW2 := Lib.hid hB02
  have H40 := Lib.hid (And.intro h40 hn40)
  clear hG2 hT2 hB02 hB2 HW1 hq h40 h120 hn40
  go_wp2_with fail
  refine cM.mono ?_
  rintro e w3 hMP
  obtain ⟨X, s, obs, vl, mb, n, f, rfl, hMO⟩ := hMP.ok HTB.out
  obtain ⟨L, hL⟩ : ∃ L, L = obs.length := ⟨_, rfl⟩
  have hLI : (L : Int) ≤ 40 := by have := hMO.len; have := H40.out.1; omega
  have cN := gm_new (E := fun _ => False) hMO.go hMO.P 64 (fun _ h => h.elim) (by omega) hMO.tab hMO.tab.lt
  have HO := Lib.hid hMO
  have HL := Lib.hid hL
  have hl6 := hMO.go.row.lenRun 3
  rw [refsI_length, ← hL] at hl6
  by_cases hn0 : L = 0
  · have hLz : ((L : Int) == 0) = true := by simp; omega
    have HF := Lib.hid (HW2.out.trans (hMO.go.ar.below.mono HW2.out.size))
    clear hMO hMP cM cN g0 g1 hL hn0
    go_wp2_with fail
    go_ret
    exact ⟨rfl, HF.out⟩
  have hLz : ((L : Int) == 0) = false := by simp; omega
  have hL0 : 0 < L := by omega
  obtain ⟨r0, hr0⟩ : ∃ r0 : Nat, r0 = a8 % 20 := ⟨_, rfl⟩
  have hrt : (a8 : Int).tmod 20 = (r0 : Int) := by rw [Int.tmod_eq_emod_of_nonneg (by omega), hr0]; omega
  have hrw : IntKind.i64.wrap (r0 : Int) = (r0 : Int) := by simp [IntKind.wrap, IntKind.bits, IntKind.signed]; omega
  have hr20 : r0 < 20 := by omega
  obtain ⟨ri, hri⟩ : ∃ ri : Int, ri = (r0 : Int) - 3 := ⟨_, rfl⟩
  have hrs : wrap64 ((r0 : Int) - 3) = ri := by simp [wrap64]; omega
  obtain ⟨rm, hrm⟩ : ∃ rm : Nat, (rm : Int) = max ri 0 := ⟨(max ri 0).toNat, by omega⟩
  have hri9 : ri ≤ 4096 := by omega
  clear hMO hMP cM g0 g1 hL hn0 hr0 hri hr20
  go_wp2_with fail
  refine cN.mono ?_
  rintro e w4 ⟨T, rfl, hGm, hB4⟩
  obtain ⟨tm, htm⟩ : ∃ tm, T.m = tm := ⟨_, rfl⟩
  rw [htm]
  have cS := vy_new (room := rm) hGm htm ri hrm hri9
  clear cN hB4 hGm htm hri9
  go_wp2_with fail
  refine cS.mono ?_
  rintro e w5 ⟨bt, rfl, h5, _⟩
  rcases h5.go.row.is with ⟨_, e⟩ | ⟨g, cap, cur, hv, hg, hlc, hcm, hcs, hcell⟩
  · have := congrArg List.length e; rw [refsI_length, ← HL.out] at this; simp at this; omega
  rw [refsI_length, ← HL.out] at hv
  subst hv
  have hRL : (refsI obs).length = L := by rw [refsI_length, ← HL.out]
  have hmm := @run_makeMap Tryz.prog
  have h6 := VyC.made h5
  have H6 := Lib.hid h6
  clear cS hg hlc hcm hcs hcell hrt hrw hrs hrm h5 h6
  go_wp2_with fail
  clear hl6 hmm
  have h6 := H6.out
  clear H6
  generalize w5.alloc (.map #[] 0) = w6 at *
  generalize w5.heap.size = rb at *
  go_loopw [48] (fun v48 wr => ∃ (i lg : Nat) (cnt : Int → Nat) (hue : Int → Int), i ≤ n1 ∧ v48 = .int .i64 (i : Int) ∧ lg ≤ i ∧ VyC w2.heap.size mb n rb (2 * i) X s obs (.slice (some ⟨g, 0, none⟩) L cap) f (ptsAt obs) (fun k => k = rb) hue T Col.white bt tm cnt lg rm w2 wr ∧ Enough cnt hue ∧ ∀ z, -(i : Int) ≤ hue z ∧ hue z ≤ i) (fun v48 _ => n1 - (intOf v48).toNat)
  case atStart => exact ⟨0, 0, fun _ => 0, fun _ => 0, Nat.zero_le _, rfl, Nat.le_refl _, h6, fun r _ => .inr (by simp), fun z => by simp⟩
  case round =>
  clear h6
  obtain ⟨i, lg, cnt, hue, hi, rfl, hlg, h1, hen, hbd⟩ := hrel
  have hi0 : (0 : Int) ≤ (i : Int) := by omega
  have hi60 : i ≤ 60 := by have := H40.out.2; omega
  by_cases hlt : i < n1
  · have hi1 : (i : Int) < (n1 : Int) := by omega
    have hB06 := HW2.out.trans (h1.vy.go.ar.below.mono HW2.out.size)
    obtain ⟨bk, off, rfl, hbk, hcs⟩ := HA.out.2.2 i hlt
    have hd0 := (hB06.cell (p := ⟨bk, off + i * 4, none⟩) hbk).trans (hcs 0 (by decide)).1
    have hd1 := (hB06.cell (p := ⟨bk, off + i * 4 + 1, none⟩) hbk).trans (hcs 1 (by decide)).1
    have hd2 := (hB06.cell (p := ⟨bk, off + i * 4 + 2, none⟩) hbk).trans (hcs 2 (by decide)).1
    have hd3 := (hB06.cell (p := ⟨bk, off + i * 4 + 3, none⟩) hbk).trans (hcs 3 (by decide)).1
    obtain ⟨qa, hqa, hqa6⟩ := u8_natW (hcs 0 (by decide)).2
    obtain ⟨qb, hqb, hqb6⟩ := u8_natW (hcs 1 (by decide)).2
    obtain ⟨qc, hqc, hqc6⟩ := u8_natW (hcs 2 (by decide)).2
    obtain ⟨qd, hqd, hqd6⟩ := u8_natW (hcs 3 (by decide)).2
    rw [hqa] at hd0
    rw [hqb] at hd1
    rw [hqc] at hd2
    rw [hqd] at hd3
    have b1 := (Below.refl wr.heap.size wr).alloc (Nat.le_refl _) (.cells #[.int .u8 (qa : Int), .int .u8 (qb : Int), .int .u8 (qc : Int), .int .u8 (qd : Int)] 38)
    have h1a := h1.ask b1
    have cW := write_any h1a.vy.go.row hRL hL0 qa qb qc qd hqa6 hqb6 hqc6 hqd6
    have HS := Lib.hid (And.intro h1a (And.intro hlg (And.intro hen hbd)))
    clear hqa hqb hqc hqd hcs h1 hbk hB06 b1 h1a hlg hen hbd
    go_wp2_with fail
    refine cW.mono ?_
    rintro e V1 ⟨x, o, y, p, rfl, hx, ho, hy, hB1⟩
    have h2 := (HS.out.1.ask hB1).box (.cells #[.int .i64 x, .int .i64 o, .int .i64 y, .bool p, .bool false] 41)
    have hW0 := Blk.new V1 #[.int .i64 x, .int .i64 o, .int .i64 y, .bool p, .bool false] 41
    have cQ := vy_post h2.vy x o y p false ho hy HO.out.bd (by have := HS.out.2.1; omega)
    have hwy : (Lit.int .i64 y).wf = true := by
      rcases hy with e | e
      · have := HO.out.bd _ e; exact wf_ref this.1 this.2
      · rw [e]; rfl
    have hwo : (Lit.int .i64 o).wf = true := by
      rcases ho with e | e
      · have := HO.out.bd _ e; exact wf_ref this.1 this.2
      · rw [e]; rfl
    have hrl := (HS.out.1.ask hB1).vy.gm.ext rb rfl
    have H2 := Lib.hid (And.intro h2 (And.intro hW0 (And.intro hwy hwo)))
    have HR := Lib.hid hrl
    clear hrl
    clear cW hd0 hd1 hd2 hd3 h2 hB1 hW0 hwy hwo
    go_wp2_with fail
    refine cQ.mono ?_
    rintro e V2 ⟨rfl, h3', hk⟩
    have h3 := H2.out.1.went h3' hk
    have hW2 : Blk V2 V1.heap.size #[.int .i64 x, .int .i64 o, .int .i64 y, .bool p, .bool false] 41 := by
      have h9 := H2.out.2.1; unfold Blk at *; rw [hk _ (.inr rfl)]; exact h9
    have hl2 : vyLg lg p y ≤ i + 1 := by unfold vyLg; have := HS.out.2.1; split <;> (try split) <;> omega
    have hen2 := HS.out.2.2.1.next HS.out.1.vy.most p y o
    have hbd2 := netP_bd HS.out.2.2.2 p y o
    have d3 := hW2.cell 3
    have d2 := hW2.cell 2
    have d1 := hW2.cell 1
    simp only [List.getElem?_toArray, List.getElem?_cons_zero, List.getElem?_cons_succ] at d1 d2 d3
    clear cQ h3' hk
    cases p with
    | false =>
      have hne : netP hue false y o = hue := if_neg (by decide)
      rw [hne] at hen2 hbd2
      have H3 := Lib.hid (And.intro hl2 (And.intro ((h3.less (E' := fun k => k = rb) (fun k e => .inl e) rfl).up (show 2 * i ≤ 2 * (i + 1) by omega)) (And.intro hen2 hbd2)))
      clear h3 hl2 hen2 hbd2 hne hW2
      go_wp2_with fail
      go_roundw
      case rel => exact ⟨i + 1, _, _, _, hlt, by go_num, H3.out.1, H3.out.2.1, H3.out.2.2.1, by have := H3.out.2.2.2; push_cast; exact this⟩
      case measure => simp [intOf]; omega
    | true =>
      have hb9 := HS.out.2.2.2 y
      have hu : wrap64 (hue y + 1) = hue y + 1 := wrapM (by omega) (by omega)
      have hlk := h3.look y H2.out.2.2.1 (hue y) rfl
      obtain ⟨V3, hrun, h4, hT3⟩ := h3.put (by omega) y H2.out.2.2.1 (hue y + 1) (wf_small (by omega) (by omega))
      have hn3 : ¬ V1.heap.size = rb := fun e => by have := HR.out; omega
      have hW3 := hW2.turn hT3 hn3
      have e1 := hW3.cell 1
      simp only [List.getElem?_toArray, List.getElem?_cons_zero, List.getElem?_cons_succ] at e1
      obtain ⟨ho', hho'⟩ : ∃ v, updI hue y (hue y + 1) o = v := ⟨_, rfl⟩
      have hb8 : -(i : Int) ≤ ho' ∧ ho' ≤ i + 1 := by
        rw [← hho']
        by_cases e : o = y
        · rw [e, updI_at]; omega
        · rw [updI_ne e]; have := HS.out.2.2.2 o; omega
      have hu2 : wrap64 (ho' - 1) = ho' - 1 := wrapM (by omega) (by omega)
      have hlk2 := h4.look o H2.out.2.2.2 ho' hho'
      obtain ⟨V4, hrun2, h5, hT4⟩ := h4.put (by omega) o H2.out.2.2.2 (ho' - 1) (wf_small (by omega) (by omega))
      have hne : netP hue true y o = updI (updI hue y (hue y + 1)) o (ho' - 1) := by rw [← hho']; exact if_pos rfl
      rw [hne] at hen2 hbd2
      have H3 := Lib.hid (And.intro hl2 (And.intro ((h5.less (E' := fun k => k = rb) (fun k e => .inl e) rfl).up (show 2 * i + 1 + 1 ≤ 2 * (i + 1) by omega)) (And.intro hen2 hbd2)))
      generalize hue y = hy1 at *
      clear h3 hl2 hen2 hbd2 hne hW2 h4 h5 hT3 hT4 hW3 hb8 hb9 hho' hn3
      go_wp2_with (first | (at_mapUpdate; refine wpList_mapUpdate_run _ rfl _ _ _ _ rfl _ _ _ rfl rfl rfl hrun ?_) | (at_mapUpdate; refine wpList_mapUpdate_run _ rfl _ _ _ _ rfl _ _ _ rfl rfl rfl hrun2 ?_))
      go_roundw
      case rel => exact ⟨i + 1, _, _, _, hlt, by go_num, H3.out.1, H3.out.2.1, H3.out.2.2.1, by have := H3.out.2.2.2; push_cast; exact this⟩
      case measure => simp [intOf]; omega
  · have hi1 : ¬ (i : Int) < (n1 : Int) := by omega
    have cR := vy_remark h1.vy
    have H1 := Lib.hid (And.intro h1 (And.intro hen hbd))
    clear hlt h1 hi hlg hen hbd
    go_wp2_with fail
    refine cR.mono ?_
    rintro e V2 ⟨rfl, T2, h3', hk⟩
    have h3 := H1.out.1.went h3' hk
    have hl6 := h3.vy.go.row.lenRun 3
    rw [refsI_length, ← HL.out] at hl6
    have H3 := Lib.hid h3
    clear cR h3 h3' hk
    go_wp2_with fail
    clear hl6
    go_loopw [75] (fun v75 W => ∃ k : Nat, k ≤ L ∧ v75 = .int .i64 (k : Int) ∧ Below V2.heap.size V2 W) (fun v75 _ => L - (intOf v75).toNat)
    case atStart => exact ⟨0, Nat.zero_le _, rfl, Below.refl _ _⟩
    case round =>
    obtain ⟨k, hk, rfl, hBW⟩ := hrel
    have hk0 : (0 : Int) ≤ (k : Int) := by omega
    have hV := H3.out.ask hBW
    by_cases hlt2 : k < L
    · have hk1 : (k : Int) < (L : Int) := by omega
      obtain ⟨u, hu⟩ : ∃ u, obs[k]? = some u := ⟨_, List.getElem?_eq_getElem (by have := HL.out; omega)⟩
      have huR : (u.r : Int) ∈ refsI obs := List.mem_of_getElem? (refsI_at hu)
      have hub := HO.out.bd _ huR
      have hwu := wf_ref hub.1 hub.2
      have hca2 := row_cellB hV.vy.go.row (refsI_at hu)
      obtain ⟨nv, hnv⟩ : ∃ nv : Int, hue (u.r : Int) = nv := ⟨_, rfl⟩
      have hlk := hV.look (u.r : Int) hwu nv hnv
      have HV := Lib.hid hV
      have HB := Lib.hid hBW
      by_cases hp : 0 < nv
      · have hma : (vyCol Col.white cnt).ma (u.r : Int) = true := by
          show (false || decide (0 < cnt (u.r : Int))) = true
          have := H1.out.2.1.counts (r := (u.r : Int)) (by omega) (by omega)
          simpa using this
        have cM := hV.vy.by_.marked (u.r : Int)
        rw [hV.vy.tmE, hma] at cM
        clear hu hV hBW hma huR hub hwu hnv
        go_wp2_with fail
        refine cM.mono ?_
        rintro e V3 ⟨rfl, hB3⟩
        have HB5 := Lib.hid (HB.out.trans (hB3.mono HB.out.size))
        clear cM hB3 hca2 hlk
        go_wp2_with fail
        go_roundw
        case rel => exact ⟨k + 1, by omega, by go_num, HB5.out⟩
        case measure => simp [intOf]; omega
      · clear hu hV hBW huR hub hwu hnv
        go_wp2_with fail
        clear hca2 hlk
        go_roundw
        case rel => exact ⟨k + 1, by omega, by go_num, HB.out⟩
        case measure => simp [intOf]; omega
    · have hk1 : ¬ (k : Int) < (L : Int) := by omega
      have HF := Lib.hid (HW2.out.trans (hV.vy.go.ar.below.mono HW2.out.size))
      clear hlt2 hV hBW
      go_wp2_with fail
      go_ret
      exact ⟨rfl, HF.out⟩
/-- As the frame asks it. -/
theorem venough_frame (a0 : Option Addr) (zs : List Int) (cf : Nat) (e0 : Option Addr) (ne ce : Nat) (Q : Nat → Nat → Int) (a1 : Option Addr) (n1 c1 : Nat) (Q1 : Nat → Nat → Int) (nv : Int) (hn : (Lit.int .u8 nv).wf = true) (w : World) (hl : n1 ≤ 9223372036854775807)
    (hF : BytesW w a0 zs) (hE : EdgesW w e0 ne Q) (hP : FoursW w a1 n1 Q1) (hT : TableAt w) :
    Calls Tryz.prog 5 #[.agg #[.slice a0 zs.length cf, .slice e0 ne ce], .slice a1 n1 c1, .int .u8 nv] w fun e w' => e = .returned (.bool true) ∧ Below w.heap.size w w' := by
  obtain ⟨m, rfl, hm⟩ := u8_natW hn
  exact venough_true a0 zs cf e0 ne ce Q a1 n1 c1 Q1 m hm w hF hE hP ⟨hT, trivial⟩
end Go.Proofs.YtkjpeacnponcfaaGreatDoor
