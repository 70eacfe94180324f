/- VybCounts, walked, over the barrier's contracts; at this seat's numbers. -/
import Derived.Test.YtkjpeacnponcfaaGreatDoorVyC
import Derived.Test.YtkjpeacnponcfaaGreatDoorVyW
import Derived.Test.YtkjpeacnponcfaaGreatDoorMrC
import Derived.Test.YtkjpeacnponcfaaGreatDoorArgsF
import Derived.Deep.RegionHeld3
import Derived.Deep.DeepCutAuto
import Derived.Deep.CutBlock
namespace Go.Proofs.YtkjpeacnponcfaaGreatDoor
open Go Go.RowKit Go.Shelf Go.MuLone Go.RwLone
set_option linter.unusedSimpArgs false
set_option linter.unusedVariables false
attribute [local go_sem] Oper.semAt_some

theorem up_min {cnt : Int → Nat} {y mv : Int} {cv : Nat} (hcv : cnt y = cv) (h3 : cv ≤ 3) {c1 : Int} (h1 : c1 = (cv : Int) + 1) (h : (if c1 < 3 then c1 else 3) = mv) : (Lit.int .i64 mv).wf = true ∧ mv = ((min 3 (cnt y + 1) : Nat) : Int) := by
  rw [hcv]
  split at h
  · exact ⟨wf_small (by omega) (by omega), by omega⟩
  · exact ⟨wf_small (by omega) (by omega), by omega⟩
theorem cntI_up {cnt : Int → Nat} {y v : Int} (hy : y ≠ 0) (hv : v = ((min 3 (cnt y + 1) : Nat) : Int)) : updI (cntI cnt) y v = cntI (vyUp cnt y) := by
  funext z; unfold cntI
  by_cases e : z = y
  · rw [e, updI_at, vyUp_at hy, hv]
  · rw [updI_ne e, vyUp_ne e]
theorem cntI_down {cnt : Int → Nat} {o v : Int} (ho : o ≠ 0) (hn : cnt o = 1 ∨ cnt o = 2) (hv : v = ((cnt o : Nat) : Int) - 1) : updI (cntI cnt) o v = cntI (vyDown cnt o) := by
  funext z; unfold cntI
  by_cases e : z = o
  · rw [e, updI_at, vyDown_at ho, if_pos hn, hv]; omega
  · rw [updI_ne e, vyDown_ne e]
theorem vyDown_no {cnt : Int → Nat} {o : Int} (h : ¬ (o ≠ 0 ∧ (cnt o = 1 ∨ cnt o = 2))) : vyDown cnt o = cnt := by
  unfold vyDown
  by_cases e : o = 0
  · rw [if_pos e]
  · rw [if_neg e, if_neg (fun e2 => h ⟨e, e2⟩)]
set_option maxRecDepth 100000 in
set_option maxHeartbeats 16000000 in
theorem vcounts_true (a0 : Option Addr) (zs : List Int) (cf : Nat) (e0 : Option Addr) (ne ce : Nat) (Q : Nat → Nat → Int) (a1 : Option Addr) (n1 c1 : Nat) (Q1 : Nat → Nat → Int) (a8 : Nat) (h8 : a8 < 256) (w : World)
    (hF : BytesW w a0 zs) (hE : EdgesW w e0 ne Q) (hP : FoursW w a1 n1 Q1) (hT : Tabs w) :
    Calls Tryz.prog 3 #[.agg #[.slice a0 zs.length cf, .slice e0 ne ce], .slice a1 n1 c1, .int .u8 (a8 : Int)] w fun e w' => e = .returned (.bool true) ∧ Below w.heap.size w w' := by
  have HA := Lib.hid (And.intro hF (And.intro hE hP))
  clear hF hE hP
  go_enter Tryz.func3, Tryz.ntmps3
  go_wp2_with fail
  have hG := Blk.new w #[.slice a0 zs.length cf, .slice e0 ne ce] 25
  have hB0 := (Below.refl w.heap.size w).alloc (Nat.le_refl _) (.cells #[.slice a0 zs.length cf, .slice e0 ne ce] 25)
  have hT0 := hT.below hB0
  generalize w.alloc (.cells #[.slice a0 zs.length cf, .slice e0 ne ce] 25) = W0 at *
  refine (vyfit_true W0 hT0).mono ?_
  rintro e w1 ⟨rfl, hB1⟩
  have hG1 := hG.turn (Turn.ofBelow hB1) (fun e => Nat.lt_irrefl _ (Nat.lt_of_lt_of_le hG.lt e))
  have hB01 := hB0.trans (hB1.mono hB0.size)
  have g0 := hG1.cell 0
  have g1 := hG1.cell 1
  simp only [List.getElem?_toArray, List.getElem?_cons_zero, List.getElem?_cons_succ] at g0 g1
  obtain ⟨q, hq⟩ : ∃ q, (decide (zs.length ≤ 40) && decide (ne ≤ 120)) = q := ⟨_, rfl⟩
  have cS := small_any a0 zs.length cf e0 ne ce w1 q hq
  have HW1 := Lib.hid (And.intro hG1 (And.intro hB01 (hT.below hB01)))
  clear hB0 hB1 hG hT0 hG1 hT hB01
  go_wp2_with fail
  refine cS.mono ?_
  rintro e w2 ⟨rfl, hB2⟩
  have hB02 := HW1.out.2.1.trans (hB2.mono HW1.out.2.1.size)
  clear cS g0 g1
  by_cases hsm : zs.length ≤ 40 ∧ ne ≤ 120 ∧ n1 ≤ 60
  case neg =>
    cases q with
    | false =>
      clear hsm hq
      go_wp2_with fail
      go_ret
      exact ⟨rfl, hB02⟩
    | true =>
      have h20 : 60 < (n1 : Int) := by
        have h1 : zs.length ≤ 40 := by simpa using (Bool.and_eq_true_iff.1 hq).1
        have h2 : ne ≤ 120 := by simpa using (Bool.and_eq_true_iff.1 hq).2
        have : ¬ n1 ≤ 60 := fun h3 => hsm ⟨h1, h2, h3⟩
        omega
      clear hsm hq
      go_wp2_with fail
      go_ret
      exact ⟨rfl, hB02⟩
  case pos =>
  obtain ⟨h40, h120, hn40⟩ := hsm
  have hqt : q = true := by rw [← hq, decide_eq_true h40, decide_eq_true h120]; rfl
  subst hqt
  have hn40I : ¬ 60 < (n1 : Int) := by omega
  have hG2 := HW1.out.1.turn (Turn.ofBelow hB2) (fun e => Nat.lt_irrefl _ (Nat.lt_of_lt_of_le HW1.out.1.lt e))
  have hT2 := HW1.out.2.2.below hB2
  have cM := made_any a0 zs cf e0 ne ce Q w2 h40 h120 (HA.out.1.under hB02 (Nat.le_refl _)) (HA.out.2.1.under hB02 (Nat.le_refl _)) hT2.c
  have HTB := Lib.hid hT2.b
  have g0 := hG2.cell 0
  have g1 := hG2.cell 1
  simp only [List.getElem?_toArray, List.getElem?_cons_zero, List.getElem?_cons_succ] at g0 g1
  have HW2 := Lib.hid hB02
  have H40 := Lib.hid (And.intro h40 hn40)
  clear hG2 hT2 hB02 hB2 HW1 hq h40 h120 hn40
  go_wp2_with fail
  refine cM.mono ?_
  rintro e w3 hMP
  obtain ⟨X, s, obs, vl, mb, n, f, rfl, hMO⟩ := hMP.ok HTB.out
  obtain ⟨L, hL⟩ : ∃ L, L = obs.length := ⟨_, rfl⟩
  have hLI : (L : Int) ≤ 40 := by have := hMO.len; have := H40.out.1; omega
  have cN := gm_new (E := fun _ => False) hMO.go hMO.P 64 (fun _ h => h.elim) (by omega) hMO.tab hMO.tab.lt
  have HO := Lib.hid hMO
  have HL := Lib.hid hL
  have hl6 := hMO.go.row.lenRun 3
  rw [refsI_length, ← hL] at hl6
  by_cases hn0 : L = 0
  · have hLz : ((L : Int) == 0) = true := by simp; omega
    have HF := Lib.hid (HW2.out.trans (hMO.go.ar.below.mono HW2.out.size))
    clear hMO hMP cM cN g0 g1 hL hn0
    go_wp2_with fail
    go_ret
    exact ⟨rfl, HF.out⟩
  have hLz : ((L : Int) == 0) = false := by simp; omega
  have hL0 : 0 < L := by omega
  obtain ⟨rm, hrm⟩ : ∃ rm : Nat, rm = a8 % 12 := ⟨_, rfl⟩
  have hrt : (a8 : Int).tmod 12 = (rm : Int) := by rw [Int.tmod_eq_emod_of_nonneg (by omega), hrm]; omega
  have hrw : IntKind.i64.wrap (rm : Int) = (rm : Int) := by simp [IntKind.wrap, IntKind.bits, IntKind.signed]; omega
  have hr12 : rm < 12 := by omega
  have HRT := Lib.hid (And.intro hrt hrw)
  clear hMO hMP cM g0 g1 hL hn0 hrm
  go_wp2_with fail
  refine cN.mono ?_
  rintro e w4 ⟨T, rfl, hGm, hB4⟩
  obtain ⟨tm, htm⟩ : ∃ tm, T.m = tm := ⟨_, rfl⟩
  rw [htm]
  have cS := vy_new (room := rm) hGm htm (rm : Int) (by omega) (by omega)
  clear cN hB4 hGm htm
  go_wp2_with fail
  refine cS.mono ?_
  rintro e w5 ⟨bt, rfl, h5, _⟩
  rcases h5.go.row.is with ⟨_, e⟩ | ⟨g, cap, cur, hv, hg, hlc, hcm, hcs, hcell⟩
  · have := congrArg List.length e; rw [refsI_length, ← HL.out] at this; simp at this; omega
  rw [refsI_length, ← HL.out] at hv
  subst hv
  have hRL : (refsI obs).length = L := by rw [refsI_length, ← HL.out]
  have hmm := @run_makeMap Tryz.prog
  have h6 := VyC.made h5
  have H6 := Lib.hid h6
  clear cS hg hlc hcm hcs hcell hrt hrw h5 h6
  go_wp2_with fail
  clear hl6 hmm
  have h6 := H6.out
  clear H6
  generalize w5.alloc (.map #[] 0) = w6 at *
  generalize w5.heap.size = rb at *
  go_loopw [13, 51] (fun v13 v51 wr => ∃ (i lg : Nat) (cnt : Int → Nat), i ≤ n1 ∧ v51 = .int .i64 (i : Int) ∧ v13 = .int .i64 (lg : Int) ∧ lg ≤ i ∧ VyC w2.heap.size mb n rb (2 * i) X s obs (.slice (some ⟨g, 0, none⟩) L cap) f (ptsAt obs) (fun k => k = rb) (cntI cnt) T Col.white bt tm cnt lg rm w2 wr) (fun _ v51 _ => n1 - (intOf v51).toNat)
  case atStart => exact ⟨0, 0, fun _ => 0, Nat.zero_le _, rfl, rfl, Nat.le_refl _, h6⟩
  case round =>
  clear h6
  obtain ⟨i, lg, cnt, hi, rfl, rfl, hlg, h1⟩ := hrel
  have hi0 : (0 : Int) ≤ (i : Int) := by omega
  have hi60 : i ≤ 60 := by have := H40.out.2; omega
  by_cases hlt : i < n1
  · have hi1 : (i : Int) < (n1 : Int) := by omega
    have hB06 := HW2.out.trans (h1.vy.go.ar.below.mono HW2.out.size)
    obtain ⟨bk, off, rfl, hbk, hcs⟩ := HA.out.2.2 i hlt
    have hd0 := (hB06.cell (p := ⟨bk, off + i * 4, none⟩) hbk).trans (hcs 0 (by decide)).1
    have hd1 := (hB06.cell (p := ⟨bk, off + i * 4 + 1, none⟩) hbk).trans (hcs 1 (by decide)).1
    have hd2 := (hB06.cell (p := ⟨bk, off + i * 4 + 2, none⟩) hbk).trans (hcs 2 (by decide)).1
    have hd3 := (hB06.cell (p := ⟨bk, off + i * 4 + 3, none⟩) hbk).trans (hcs 3 (by decide)).1
    obtain ⟨qa, hqa, hqa6⟩ := u8_natW (hcs 0 (by decide)).2
    obtain ⟨qb, hqb, hqb6⟩ := u8_natW (hcs 1 (by decide)).2
    obtain ⟨qc, hqc, hqc6⟩ := u8_natW (hcs 2 (by decide)).2
    obtain ⟨qd, hqd, hqd6⟩ := u8_natW (hcs 3 (by decide)).2
    rw [hqa] at hd0
    rw [hqb] at hd1
    rw [hqc] at hd2
    rw [hqd] at hd3
    have b1 := (Below.refl wr.heap.size wr).alloc (Nat.le_refl _) (.cells #[.int .u8 (qa : Int), .int .u8 (qb : Int), .int .u8 (qc : Int), .int .u8 (qd : Int)] 38)
    have h1a := h1.ask b1
    have cW := write_any h1a.vy.go.row hRL hL0 qa qb qc qd hqa6 hqb6 hqc6 hqd6
    have HS := Lib.hid (And.intro h1a hlg)
    clear hqa hqb hqc hqd hcs h1 hbk hB06 b1 h1a hlg
    go_wp2_with fail
    refine cW.mono ?_
    rintro e V1 ⟨x, o, y, p, rfl, hx, ho, hy, hB1⟩
    have h2a := HS.out.1.ask hB1
    have HR := Lib.hid (h2a.vy.gm.ext rb rfl)
    have h2 := h2a.box (.cells #[.int .i64 x, .int .i64 o, .int .i64 y, .bool p, .bool false] 41)
    have hW0 := Blk.new V1 #[.int .i64 x, .int .i64 o, .int .i64 y, .bool p, .bool false] 41
    have cP := vy_pre bt x o
    have cQ := vy_post h2.vy x o y p false ho hy HO.out.bd (by have := HS.out.2; omega)
    have hwy : (Lit.int .i64 y).wf = true := by
      rcases hy with e | e
      · have := HO.out.bd _ e; exact wf_ref this.1 this.2
      · rw [e]; rfl
    have hwo : (Lit.int .i64 o).wf = true := by
      rcases ho with e | e
      · have := HO.out.bd _ e; exact wf_ref this.1 this.2
      · rw [e]; rfl
    have H2 := Lib.hid (And.intro h2 (And.intro hW0 (And.intro hwy hwo)))
    clear cW hd0 hd1 hd2 hd3 h2 h2a hB1 hW0 hwy hwo hx ho hy
    go_wp2_with fail
    refine (cP _).mono ?_
    rintro e w' ⟨rfl, rfl⟩
    clear cP
    go_wp2_with fail
    refine cQ.mono ?_
    rintro e V2 ⟨rfl, h3', hk⟩
    have h3 := H2.out.1.went h3' hk
    have hW2 : Blk V2 V1.heap.size #[.int .i64 x, .int .i64 o, .int .i64 y, .bool p, .bool false] 41 := by
      have h9 := H2.out.2.1; unfold Blk at *; rw [hk _ (.inr rfl)]; exact h9
    obtain ⟨P1, hP1⟩ : ∃ P1 : Bool, (p && !decide (y = 0)) = P1 := ⟨_, rfl⟩
    have HP1 := Lib.hid hP1
    have H3 := Lib.hid (And.intro h3 hW2)
    clear cQ h3' hk h3 hW2 hP1
    go_upto_region 18 with fail
    go_cut [73] (fun v73 wx => v73 = .bool P1 ∧ wx = V2)
    case first =>
      have d3 := H3.out.2.cell 3
      have d2 := H3.out.2.cell 2
      simp only [List.getElem?_toArray, List.getElem?_cons_zero, List.getElem?_cons_succ] at d2 d3
      cases p with
      | false =>
        go_wp2_with fail
        go_meet
        case rel => exact ⟨congrArg Value.bool (by rw [← HP1.out]; rfl), rfl⟩
      | true =>
        by_cases hy0 : y = 0
        · go_wp2_with fail
          go_meet
          case rel => exact ⟨congrArg Value.bool (by rw [← HP1.out, decide_eq_true hy0]; rfl), rfl⟩
        · go_wp2_with fail
          go_meet
          case rel => exact ⟨congrArg Value.bool (by rw [← HP1.out, decide_eq_false hy0]; simp [hy0]), rfl⟩
    case rest =>
    obtain ⟨rfl, rfl⟩ := hcut
    obtain ⟨cm, hcm⟩ : ∃ cm : Int → Nat, cm = if P1 then vyUp cnt y else cnt := ⟨_, rfl⟩
    obtain ⟨lg2, hlg2⟩ : ∃ lg2 : Nat, lg2 = vyLg lg p y := ⟨_, rfl⟩
    obtain ⟨cn2, hcn2⟩ : ∃ cn2 : Int → Nat, cn2 = vyPost cnt p y o := ⟨_, rfl⟩
    have hl2 : lg2 ≤ i + 1 := by rw [hlg2]; unfold vyLg; have := HS.out.2; split <;> (try split) <;> omega
    have hlq : lg2 = if P1 then lg + 1 else lg := by
      rw [hlg2, ← HP1.out]; unfold vyLg
      cases p <;> simp
    have hcq : cn2 = if p then vyDown cm o else cnt := by
      rw [hcn2, hcm, ← HP1.out]; unfold vyPost
      cases p
      · rfl
      · by_cases hy0 : y = 0
        · subst hy0; simp [vyUp_zero]
        · simp [hy0]
    have hH3 := H3.out
    rw [← hlg2, ← hcn2] at hH3
    have H4 := Lib.hid hH3
    have HQ := Lib.hid (And.intro hl2 (And.intro hlq (And.intro hcq hcm)))
    clear H3 hH3 hlg2 hcn2 hl2 hlq hcq hcm
    go_upto_if 73 with fail
    go_cut [13] (fun v13 wx => v13 = .int .i64 (lg2 : Int) ∧ VyC w2.heap.size mb n rb (2 * i + 1) X s obs (.slice (some ⟨g, 0, none⟩) L cap) f (ptsAt obs) (fun k => k = rb ∨ k = V1.heap.size) (cntI cm) T Col.white bt tm cn2 lg2 rm w2 wx ∧ Blk wx V1.heap.size #[.int .i64 x, .int .i64 o, .int .i64 y, .bool p, .bool false] 41)
    case first =>
      cases P1 with
      | false =>
        have e1 : cm = cnt := HQ.out.2.2.2
        have e2 : lg2 = lg := HQ.out.2.1
        go_wp2_with fail
        go_meet
        case rel => rw [e1, e2]; rw [e2] at H4; exact ⟨rfl, H4.out.1.up (by omega), H4.out.2⟩
      | true =>
        have e1 : cm = vyUp cnt y := HQ.out.2.2.2
        have e2 : lg2 = lg + 1 := HQ.out.2.1
        have hy0 : y ≠ 0 := fun e => by have := HP1.out; rw [decide_eq_true e] at this; simp at this
        have d2 := H4.out.2.cell 2
        simp only [List.getElem?_toArray, List.getElem?_cons_zero, List.getElem?_cons_succ] at d2
        obtain ⟨cv, hcv⟩ : ∃ cv : Nat, cnt y = cv := ⟨_, rfl⟩
        have hc3 : cv ≤ 3 := by rw [← hcv]; exact HS.out.1.vy.most y
        have hlk := H4.out.1.look y H2.out.2.2.1 (cv : Int) (by unfold cntI; rw [hcv])
        obtain ⟨c1, hc1⟩ : ∃ c1 : Int, c1 = (cv : Int) + 1 := ⟨_, rfl⟩
        have hu : wrap64 ((cv : Int) + 1) = c1 := (wrapM (by omega) (by omega)).trans hc1.symm
        have hlw : wrap64 ((lg : Int) + 1) = ((lg2 : Nat) : Int) := (wrapM (by omega) (by have := HS.out.2; omega)).trans (by omega)
        have hn3 : ¬ V1.heap.size = rb := fun e => by have := HR.out; omega
        obtain ⟨mv, hmv⟩ : ∃ mv : Int, (if c1 < 3 then c1 else 3) = mv := ⟨_, rfl⟩
        have hmm := up_min hcv hc3 hc1 hmv
        obtain ⟨V3, hrun, h4, hT3⟩ := H4.out.1.put (by omega) y H2.out.2.2.1 mv hmm.1
        rw [cntI_up hy0 hmm.2, ← e1] at h4
        have H5 := Lib.hid (And.intro h4 (H4.out.2.turn hT3 hn3))
        clear h4 hT3 hn3 e1 e2 hcv hmm hc1 hc3
        go_wp2_with (at_mapUpdate; refine wpList_mapUpdate_run _ rfl _ _ _ _ rfl _ _ _ rfl rfl rfl hrun ?_)
        go_meet
        case rel => exact ⟨rfl, H5.out.1, H5.out.2⟩
    case rest =>
    obtain ⟨rfl, h5, hW5⟩ := hcut
    obtain ⟨nv, hnv⟩ : ∃ nv : Nat, cm o = nv := ⟨_, rfl⟩
    have hlk := h5.look o H2.out.2.2.2 (nv : Int) (by unfold cntI; rw [hnv])
    obtain ⟨P2, hP2⟩ : ∃ P2 : Bool, (p && (!decide (o = 0) && (decide (nv = 1) || decide (nv = 2)))) = P2 := ⟨_, rfl⟩
    have d1 := hW5.cell 1
    simp only [List.getElem?_toArray, List.getElem?_cons_zero, List.getElem?_cons_succ] at d1
    have H5 := Lib.hid (And.intro h5 (And.intro hW5 (And.intro hnv hP2)))
    clear h5 hW5 hnv hP2 H4
    go_upto_region 22 with fail
    clear hlk d1
    go_cut [103] (fun v103 wx => v103 = .bool P2 ∧ VyC w2.heap.size mb n rb (2 * i + 1) X s obs (.slice (some ⟨g, 0, none⟩) L cap) f (ptsAt obs) (fun k => k = rb ∨ k = V1.heap.size) (cntI cm) T Col.white bt tm cn2 lg2 rm w2 wx ∧ Blk wx V1.heap.size #[.int .i64 x, .int .i64 o, .int .i64 y, .bool p, .bool false] 41)
    case first =>
      have d3 := H5.out.2.1.cell 3
      have d1 := H5.out.2.1.cell 1
      simp only [List.getElem?_toArray, List.getElem?_cons_zero, List.getElem?_cons_succ] at d1 d3
      have hP2 := H5.out.2.2.2
      cases p with
      | false =>
        go_wp2_with fail
        go_meet
        case rel => exact ⟨congrArg Value.bool (by rw [← hP2]; rfl), H5.out.1, H5.out.2.1⟩
      | true =>
        by_cases ho0 : o = 0
        · have hP2' : P2 = false := by rw [← hP2, decide_eq_true ho0]; rfl
          clear hP2
          go_wp2_with fail
          go_meet
          case rel => exact ⟨congrArg Value.bool hP2'.symm, H5.out.1, H5.out.2.1⟩
        · have hob : (o != 0) = true := by simpa using ho0
          have hoc : (o == 0) = false := by simpa using ho0
          obtain ⟨b1, hb1⟩ : ∃ b1 : Bool, ((nv : Int) == 1) = b1 := ⟨_, rfl⟩
          obtain ⟨b2, hb2⟩ : ∃ b2 : Bool, ((nv : Int) == 2) = b2 := ⟨_, rfl⟩
          have hP2' : P2 = (b1 || b2) := by
            rw [← hP2, ← hb1, ← hb2, decide_eq_false ho0]
            have e1 : ((nv : Int) == 1) = decide (nv = 1) := by rw [Bool.eq_iff_iff]; simp; omega
            have e2 : ((nv : Int) == 2) = decide (nv = 2) := by rw [Bool.eq_iff_iff]; simp; omega
            rw [e1, e2]; rfl
          clear hP2
          cases b1 with
          | true =>
            have hP3 : P2 = true := by rw [hP2']; rfl
            have hn1 : nv = 1 := by have := of_decide_eq_true (p := (nv : Int) = 1) (by simpa using hb1); omega
            clear hP2' hb2 hb1
            subst hn1
            go_wp2_with fail
            go_meet
            case rel => exact ⟨congrArg Value.bool (by first | rfl | exact hP3 | exact hP3.symm), H5.out.1, H5.out.2.1⟩
          | false =>
            have hP3 : P2 = b2 := by rw [hP2']; rfl
            clear hP2'
            go_wp2_with fail
            go_meet
            case rel => exact ⟨congrArg Value.bool (by first | rfl | exact hP3 | exact hP3.symm), H5.out.1, H5.out.2.1⟩
    case rest =>
    obtain ⟨rfl, h5b, hW5b⟩ := hcut
    have H5b := Lib.hid (And.intro h5b (And.intro hW5b H5.out.2.2))
    clear h5b hW5b H5
    go_upto_if 103 with fail
    go_cut [13] (fun v13 wx => v13 = .int .i64 (lg2 : Int) ∧ VyC w2.heap.size mb n rb (2 * (i + 1)) X s obs (.slice (some ⟨g, 0, none⟩) L cap) f (ptsAt obs) (fun k => k = rb) (cntI cn2) T Col.white bt tm cn2 lg2 rm w2 wx)
    case first =>
      have hP2 := H5b.out.2.2.2
      have hnv := H5b.out.2.2.1
      cases P2 with
      | false =>
        have e1 : cn2 = cm := by
          rw [HQ.out.2.2.1]
          cases p with
          | false => exact HQ.out.2.2.2.symm ▸ (by have := HP1.out; simp at this; subst this; rfl)
          | true =>
            refine (if_pos rfl).trans (vyDown_no fun e => ?_)
            rw [hnv] at e
            simp at hP2
            rcases e.2 with e2 | e2
            · exact (hP2 e.1).1 e2
            · exact (hP2 e.1).2 e2
        have H6 := Lib.hid ((H5b.out.1.less (E' := fun k => k = rb) (fun k e => .inl e) rfl).up (show 2 * i + 1 ≤ 2 * (i + 1) by omega))
        clear hP2 hnv
        go_wp2_with fail
        go_meet
        case rel => have h9 := H6.out; rw [← e1] at h9; exact ⟨rfl, h9⟩
      | true =>
        simp only [Bool.and_eq_true, Bool.or_eq_true, decide_eq_true_eq, Bool.not_eq_true', decide_eq_false_iff_not] at hP2
        obtain ⟨hp, ho0, hn12⟩ := hP2
        have e1 : cn2 = vyDown cm o := by rw [HQ.out.2.2.1, if_pos hp]
        have d1 := H5b.out.2.1.cell 1
        simp only [List.getElem?_toArray, List.getElem?_cons_zero, List.getElem?_cons_succ] at d1
        have hlk := H5b.out.1.look o H2.out.2.2.2 (nv : Int) (by unfold cntI; rw [hnv])
        have hu : wrap64 ((nv : Int) - 1) = (nv : Int) - 1 := wrapM (by omega) (by omega)
        obtain ⟨V3, hrun, h4, hT3⟩ := H5b.out.1.put (by omega) o H2.out.2.2.2 ((nv : Int) - 1) (wf_small (by omega) (by omega))
        rw [cntI_down ho0 (by rw [hnv]; exact hn12) (by rw [hnv]), ← e1] at h4
        have H6 := Lib.hid ((h4.less (E' := fun k => k = rb) (fun k e => .inl e) rfl).up (show 2 * i + 1 + 1 ≤ 2 * (i + 1) by omega))
        clear h4 hT3 e1 hn12 hnv hp
        go_wp2_with (at_mapUpdate; refine wpList_mapUpdate_run _ rfl _ _ _ _ rfl _ _ _ rfl rfl rfl hrun ?_)
        go_meet
        case rel => exact ⟨rfl, H6.out⟩
    case rest =>
    obtain ⟨rfl, h6⟩ := hcut
    have hl2 := HQ.out.1
    have hl6 := h6.vy.go.row.lenRun 3
    rw [refsI_length, ← HL.out] at hl6
    have H6 := Lib.hid (And.intro h6 hl2)
    obtain ⟨q9, hq9⟩ : ∃ q9 : Bool, decide (rm < lg2) = q9 := ⟨_, rfl⟩
    have HQ9 := Lib.hid hq9
    clear h6 hl2 H5b HQ HP1 H2 HR HS hq9
    go_wp2_with fail
    clear hl6
    go_loopw [111] (fun v111 W => ∃ k : Nat, k ≤ L ∧ v111 = .int .i64 (k : Int) ∧ VyC w2.heap.size mb n rb (2 * (i + 1)) X s obs (.slice (some ⟨g, 0, none⟩) L cap) f (ptsAt obs) (fun k => k = rb) (cntI cn2) T Col.white bt tm cn2 lg2 rm w2 W) (fun v111 _ => L - (intOf v111).toNat)
    case atStart => exact ⟨0, Nat.zero_le _, rfl, H6.out.1⟩
    case round =>
    obtain ⟨k, hk, rfl, hV⟩ := hrel
    have hk0 : (0 : Int) ≤ (k : Int) := by omega
    by_cases hlt2 : k < L
    · have hk1 : (k : Int) < (L : Int) := by omega
      obtain ⟨u, hu⟩ : ∃ u, obs[k]? = some u := ⟨_, List.getElem?_eq_getElem (by have := HL.out; omega)⟩
      have huR : (u.r : Int) ∈ refsI obs := List.mem_of_getElem? (refsI_at hu)
      have hub := HO.out.bd _ huR
      have hwu := wf_ref hub.1 hub.2
      have hca2 := row_cellB hV.vy.go.row (refsI_at hu)
      have hD := hV.ask (Below.refl _ _).drew
      obtain ⟨cv, hcv⟩ : ∃ cv : Nat, cn2 (u.r : Int) = cv := ⟨_, rfl⟩
      have hcvI : cntI cn2 (u.r : Int) = (cv : Int) := by unfold cntI; rw [hcv]
      have hlk := hD.look (u.r : Int) hwu (cv : Int) hcvI
      have cC := vy_count hD.vy (u.r : Int) (cv : Int) (by rw [hcv])
      have HD := Lib.hid (And.intro hD (And.intro hcvI hwu))
      clear hu huR hub hwu hcv hcvI hV hD
      go_wp2_with fail
      go_region_held3 (fun W' => (Instr.lookup 37 (.map (some rb)) (.int .i64 (u.r : Int)) false).run Tryz.prog W' = .ok (.int .i64 (cv : Int)) W')
        (first | exact hS8 | exact hlk)
        (first
          | (go_at_call 16; refine cC.mono ?_; rintro e V1 ⟨rfl, hB1⟩; have hA1 := HD.out.1.ask hB1; have hS8 := hA1.look (u.r : Int) HD.out.2.2 (cv : Int) HD.out.2.1))
      all_goals
        have HB2 := Lib.hid hA1
        clear cC hB1 hlk hca2 hS8 hA1
        go_wp2_with fail
        go_roundw
        case rel => exact ⟨k + 1, by omega, by go_num, HB2.out⟩
        case measure => simp [intOf]; omega
    · have hk1 : ¬ (k : Int) < (L : Int) := by omega
      have hqx : (!q9 == q9) = false := by cases q9 <;> rfl
      have hqe : (q9 == q9) = true := by cases q9 <;> rfl
      have hq2 : (!q9 == decide (rm < lg2)) = false := by rw [HQ9.out]; exact hqx
      have hq1 := HQ9.out
      have hqI : decide ((rm : Int) < (lg2 : Int)) = q9 := by rw [← hq1]; simp
      have hqq : (q9 != q9) = false := by cases q9 <;> rfl
      have hrt := HRT.out.1
      have hrw := HRT.out.2
      have cO := vy_over hV.vy q9 hq1
      have H7 := Lib.hid hV
      clear hlt2 hV
      go_wp2_with fail
      refine cO.mono ?_
      rintro e V6 ⟨rfl, hB6⟩
      have h7 := H7.out.ask hB6
      have cN : Calls Tryz.prog 18 #[.pointer (some ⟨tm, 0, none⟩)] V6 fun e w' => e = .returned (.int .i64 0) ∧ Below V6.heap.size V6 w' := by
        have h9 := h7.vy.by_.count [] (by simp) (fun u => by simp [Col.white])
        rw [h7.vy.tmE] at h9
        exact h9
      have H8 := Lib.hid h7
      clear cO hB6 h7
      go_wp2_with fail
      refine cN.mono ?_
      rintro e V7 ⟨rfl, hB7⟩
      have H9 := Lib.hid (H8.out.ask hB7)
      clear cN hB7 hqx hqe hq2 hq1 hqI hqq hrt hrw
      go_wp2_with fail
      go_roundw
      case rel => exact ⟨i + 1, lg2, cn2, hlt, by go_num, rfl, H6.out.2, H9.out⟩
      case measure => simp [intOf]; omega
  · have hi1 : ¬ (i : Int) < (n1 : Int) := by omega
    have cR := vy_reset h1.vy
    have H1 := Lib.hid h1
    clear hlt h1 hi hlg
    go_wp2_with fail
    refine cR.mono ?_
    rintro e V2 ⟨rfl, h3, _⟩
    have hl6 := h3.go.row.lenRun 3
    rw [refsI_length, ← HL.out] at hl6
    have H3 := Lib.hid h3
    clear cR h3
    go_wp2_with fail
    clear hl6
    go_loopw [141] (fun v141 W => ∃ k : Nat, k ≤ L ∧ v141 = .int .i64 (k : Int) ∧ Below V2.heap.size V2 W) (fun v141 _ => L - (intOf v141).toNat)
    case atStart => exact ⟨0, Nat.zero_le _, rfl, Below.refl _ _⟩
    case round =>
    obtain ⟨k, hk, rfl, hBW⟩ := hrel
    have hk0 : (0 : Int) ≤ (k : Int) := by omega
    have hV := H3.out.ask hBW
    by_cases hlt2 : k < L
    · have hk1 : (k : Int) < (L : Int) := by omega
      obtain ⟨u, hu⟩ : ∃ u, obs[k]? = some u := ⟨_, List.getElem?_eq_getElem (by have := HL.out; omega)⟩
      have hca2 := row_cellB hV.go.row (refsI_at hu)
      have cC := vy_count hV (u.r : Int) 0 rfl
      have HB := Lib.hid hBW
      clear hu hV hBW
      go_wp2_with fail
      refine cC.mono ?_
      rintro e V3 ⟨rfl, hB3⟩
      have HB2 := Lib.hid (HB.out.trans (hB3.mono HB.out.size))
      clear cC hB3 hca2
      go_wp2_with fail
      go_roundw
      case rel => exact ⟨k + 1, by omega, by go_num, HB2.out⟩
      case measure => simp [intOf]; omega
    · have hk1 : ¬ (k : Int) < (L : Int) := by omega
      have cO := vy_over hV false (by simp)
      have H4 := Lib.hid hV
      clear hlt2 hV hBW
      go_wp2_with fail
      refine cO.mono ?_
      rintro e V3 ⟨rfl, hB3⟩
      have h4 := H4.out.ask hB3
      have cA := vy_count h4 0 0 rfl
      have H5 := Lib.hid h4
      clear cO hB3 h4
      go_wp2_with fail
      refine cA.mono ?_
      rintro e V4 ⟨rfl, hB4⟩
      have h5 := H5.out.ask hB4
      have cB := vy_count h5 (-1) 0 rfl
      have H6 := Lib.hid h5
      clear cA hB4 h5
      go_wp2_with fail
      refine cB.mono ?_
      rintro e V5 ⟨rfl, hB5⟩
      have h6 := H6.out.ask hB5
      have cD := vy_count h6 1099511627776 0 rfl
      have H7 := Lib.hid h6
      clear cB hB5 h6
      go_wp2_with fail
      refine cD.mono ?_
      rintro e V6 ⟨rfl, hB6⟩
      have HF := Lib.hid (HW2.out.trans ((H7.out.ask hB6).go.ar.below.mono HW2.out.size))
      clear cD hB6
      go_wp2_with fail
      go_ret
      exact ⟨rfl, HF.out⟩
/-- As the frame asks it. -/
theorem vcounts_frame (a0 : Option Addr) (zs : List Int) (cf : Nat) (e0 : Option Addr) (ne ce : Nat) (Q : Nat → Nat → Int) (a1 : Option Addr) (n1 c1 : Nat) (Q1 : Nat → Nat → Int) (nv : Int) (hn : (Lit.int .u8 nv).wf = true) (w : World) (hl : n1 ≤ 9223372036854775807)
    (hF : BytesW w a0 zs) (hE : EdgesW w e0 ne Q) (hP : FoursW w a1 n1 Q1) (hTb : TabAt w) (hT : TableAt w) :
    Calls Tryz.prog 3 #[.agg #[.slice a0 zs.length cf, .slice e0 ne ce], .slice a1 n1 c1, .int .u8 nv] w fun e w' => e = .returned (.bool true) ∧ Below w.heap.size w w' := by
  obtain ⟨m, rfl, hm⟩ := u8_natW hn
  exact vcounts_true a0 zs cf e0 ne ce Q a1 n1 c1 Q1 m hm w hF hE hP ⟨hT, hTb⟩
end Go.Proofs.YtkjpeacnponcfaaGreatDoor
