/- VybWhite, walked, over the barrier's contracts; at this seat's numbers. -/
import Derived.Test.YtkjpeacnponcfaaGreatDoorVyF
import Derived.Test.YtkjpeacnponcfaaGreatDoorVyW
import Derived.Test.YtkjpeacnponcfaaGreatDoorMrC
import Derived.Test.YtkjpeacnponcfaaGreatDoorArgsF
import Derived.Deep.RegionHeld3
namespace Go.Proofs.YtkjpeacnponcfaaGreatDoor
open Go Go.RowKit Go.Shelf Go.MuLone Go.RwLone
set_option linter.unusedSimpArgs false
set_option linter.unusedVariables false
attribute [local go_sem] Oper.semAt_some

theorem vyCol_zero (c : Col) : vyCol c (fun _ => 0) = c := by unfold vyCol; simp
set_option maxRecDepth 100000 in
set_option maxHeartbeats 16000000 in
theorem vwhite_true (a0 : Option Addr) (zs : List Int) (cf : Nat) (e0 : Option Addr) (ne ce : Nat) (Q : Nat → Nat → Int) (a1 : Option Addr) (n1 c1 : Nat) (Q1 : Nat → Nat → Int) (w : World)
    (hF : BytesW w a0 zs) (hE : EdgesW w e0 ne Q) (hP : FoursW w a1 n1 Q1) (hT : Tabs w) :
    Calls Tryz.prog 7 #[.agg #[.slice a0 zs.length cf, .slice e0 ne ce], .slice a1 n1 c1] w fun e w' => e = .returned (.bool true) ∧ Below w.heap.size w w' := by
  have HA := Lib.hid (And.intro hF (And.intro hE hP))
  clear hF hE hP
  go_enter Tryz.func7, Tryz.ntmps7
  go_wp2_with fail
  have hG := Blk.new w #[.slice a0 zs.length cf, .slice e0 ne ce] 25
  have hB0 := (Below.refl w.heap.size w).alloc (Nat.le_refl _) (.cells #[.slice a0 zs.length cf, .slice e0 ne ce] 25)
  have hT0 := hT.below hB0
  generalize w.alloc (.cells #[.slice a0 zs.length cf, .slice e0 ne ce] 25) = W0 at *
  refine (vyfit_true W0 hT0).mono ?_
  rintro e w1 ⟨rfl, hB1⟩
  have hG1 := hG.turn (Turn.ofBelow hB1) (fun e => Nat.lt_irrefl _ (Nat.lt_of_lt_of_le hG.lt e))
  have hB01 := hB0.trans (hB1.mono hB0.size)
  have g0 := hG1.cell 0
  have g1 := hG1.cell 1
  simp only [List.getElem?_toArray, List.getElem?_cons_zero, List.getElem?_cons_succ] at g0 g1
  obtain ⟨q, hq⟩ : ∃ q, (decide (zs.length ≤ 40) && decide (ne ≤ 120)) = q := ⟨_, rfl⟩
  have cS := small_any a0 zs.length cf e0 ne ce w1 q hq
  have HW1 := Lib.hid (And.intro hG1 (And.intro hB01 (hT.below hB01)))
  clear hB0 hB1 hG hT0 hG1 hT hB01
  go_wp2_with fail
  refine cS.mono ?_
  rintro e w2 ⟨rfl, hB2⟩
  have hB02 := HW1.out.2.1.trans (hB2.mono HW1.out.2.1.size)
  clear cS g0 g1
  by_cases hsm : zs.length ≤ 40 ∧ ne ≤ 120 ∧ n1 ≤ 60
  case neg =>
    cases q with
    | false =>
      clear hsm hq
      go_wp2_with fail
      go_ret
      exact ⟨rfl, hB02⟩
    | true =>
      have h20 : 60 < (n1 : Int) := by
        have h1 : zs.length ≤ 40 := by simpa using (Bool.and_eq_true_iff.1 hq).1
        have h2 : ne ≤ 120 := by simpa using (Bool.and_eq_true_iff.1 hq).2
        have : ¬ n1 ≤ 60 := fun h3 => hsm ⟨h1, h2, h3⟩
        omega
      clear hsm hq
      go_wp2_with fail
      go_ret
      exact ⟨rfl, hB02⟩
  case pos =>
  obtain ⟨h40, h120, hn40⟩ := hsm
  have hqt : q = true := by rw [← hq, decide_eq_true h40, decide_eq_true h120]; rfl
  subst hqt
  have hn40I : ¬ 60 < (n1 : Int) := by omega
  have hG2 := HW1.out.1.turn (Turn.ofBelow hB2) (fun e => Nat.lt_irrefl _ (Nat.lt_of_lt_of_le HW1.out.1.lt e))
  have hT2 := HW1.out.2.2.below hB2
  have cM := made_any a0 zs cf e0 ne ce Q w2 h40 h120 (HA.out.1.under hB02 (Nat.le_refl _)) (HA.out.2.1.under hB02 (Nat.le_refl _)) hT2.c
  have HTB := Lib.hid hT2.b
  have g0 := hG2.cell 0
  have g1 := hG2.cell 1
  simp only [List.getElem?_toArray, List.getElem?_cons_zero, List.getElem?_cons_succ] at g0 g1
  have HW2 := Lib.hid hB02
  have H40 := Lib.hid (And.intro h40 hn40)
  clear hG2 hT2 hB02 hB2 HW1 hq h40 h120 hn40
  go_wp2_with fail
  refine cM.mono ?_
  rintro e w3 hMP
  obtain ⟨X, s, obs, vl, mb, n, f, rfl, hMO⟩ := hMP.ok HTB.out
  obtain ⟨L, hL⟩ : ∃ L, L = obs.length := ⟨_, rfl⟩
  have hLI : (L : Int) ≤ 40 := by have := hMO.len; have := H40.out.1; omega
  have cN := gm_new (E := fun _ => False) hMO.go hMO.P 64 (fun _ h => h.elim) (by omega) hMO.tab hMO.tab.lt
  have HO := Lib.hid hMO
  have HL := Lib.hid hL
  have hl6 := hMO.go.row.lenRun 3
  rw [refsI_length, ← hL] at hl6
  by_cases hn0 : L = 0
  · have hLz : ((L : Int) == 0) = true := by simp; omega
    have HF := Lib.hid (HW2.out.trans (hMO.go.ar.below.mono HW2.out.size))
    clear hMO hMP cM cN g0 g1 hL hn0
    go_wp2_with fail
    go_ret
    exact ⟨rfl, HF.out⟩
  have hLz : ((L : Int) == 0) = false := by simp; omega
  have hL0 : 0 < L := by omega
  clear hMO hMP cM g0 g1 hL hn0
  go_wp2_with fail
  refine cN.mono ?_
  rintro e w4 ⟨T, rfl, hGm, hB4⟩
  obtain ⟨tm, htm⟩ : ∃ tm, T.m = tm := ⟨_, rfl⟩
  rw [htm]
  have cS := vy_new (room := 0) hGm htm 0 (by decide) (by decide)
  clear cN hB4 hGm htm
  go_wp2_with fail
  refine cS.mono ?_
  rintro e w5 ⟨bt, rfl, h5, _⟩
  rcases h5.go.row.is with ⟨_, e⟩ | ⟨g, cap, cur, hv, hg, hlc, hcm, hcs, hcell⟩
  · have := congrArg List.length e; rw [refsI_length, ← HL.out] at this; simp at this; omega
  rw [refsI_length, ← HL.out] at hv
  subst hv
  have hRL : (refsI obs).length = L := by rw [refsI_length, ← HL.out]
  clear cS hg hlc hcm hcs hcell
  go_wp2_with fail
  clear hl6
  go_loopw [40] (fun v40 wr => ∃ i : Nat, i ≤ n1 ∧ v40 = .int .i64 (i : Int) ∧ VyIn w2.heap.size mb n X s obs (.slice (some ⟨g, 0, none⟩) L cap) f (ptsAt obs) (fun _ => False) T Col.white bt tm (fun _ => 0) 0 0 w2 wr) (fun v40 _ => n1 - (intOf v40).toNat)
  case atStart => exact ⟨0, Nat.zero_le _, rfl, h5⟩
  case round =>
  clear h5
  obtain ⟨i, hi, rfl, h1⟩ := hrel
  have hi0 : (0 : Int) ≤ (i : Int) := by omega
  by_cases hlt : i < n1
  · have hi1 : (i : Int) < (n1 : Int) := by omega
    have hB06 := HW2.out.trans (h1.go.ar.below.mono HW2.out.size)
    obtain ⟨bk, off, rfl, hbk, hcs⟩ := HA.out.2.2 i hlt
    have hd0 := (hB06.cell (p := ⟨bk, off + i * 4, none⟩) hbk).trans (hcs 0 (by decide)).1
    have hd1 := (hB06.cell (p := ⟨bk, off + i * 4 + 1, none⟩) hbk).trans (hcs 1 (by decide)).1
    have hd2 := (hB06.cell (p := ⟨bk, off + i * 4 + 2, none⟩) hbk).trans (hcs 2 (by decide)).1
    have hd3 := (hB06.cell (p := ⟨bk, off + i * 4 + 3, none⟩) hbk).trans (hcs 3 (by decide)).1
    obtain ⟨qa, hqa, hqa6⟩ := u8_natW (hcs 0 (by decide)).2
    obtain ⟨qb, hqb, hqb6⟩ := u8_natW (hcs 1 (by decide)).2
    obtain ⟨qc, hqc, hqc6⟩ := u8_natW (hcs 2 (by decide)).2
    obtain ⟨qd, hqd, hqd6⟩ := u8_natW (hcs 3 (by decide)).2
    rw [hqa] at hd0
    rw [hqb] at hd1
    rw [hqc] at hd2
    rw [hqd] at hd3
    have b1 := (Below.refl wr.heap.size wr).alloc (Nat.le_refl _) (.cells #[.int .u8 (qa : Int), .int .u8 (qb : Int), .int .u8 (qc : Int), .int .u8 (qd : Int)] 38)
    have h1a := h1.ask b1
    have cW := write_any h1a.go.row hRL hL0 qa qb qc qd hqa6 hqb6 hqc6 hqd6
    have HS := Lib.hid h1a
    clear hqa hqb hqc hqd hcs h1 hbk hB06 b1 h1a
    go_wp2_with fail
    refine cW.mono ?_
    rintro e V1 ⟨x, o, y, p, rfl, hx, ho, hy, hB1⟩
    have b2 := (Below.refl V1.heap.size V1).alloc (Nat.le_refl _) (.cells #[.int .i64 x, .int .i64 o, .int .i64 y, .bool false, .bool false] 41)
    have h2 := HS.out.ask (below_step hB1 b2)
    have cP := vy_pre bt x o
    have cQ := vy_post h2 x o y false false ho hy HO.out.bd (by decide)
    rw [vyPost_white, vyLg_white] at cQ
    clear cW hd0 hd1 hd2 hd3 b2 h2 hB1
    go_wp2_with fail
    refine (cP _).mono ?_
    rintro e w' ⟨rfl, rfl⟩
    clear cP
    go_wp2_with fail
    refine cQ.mono ?_
    rintro e V2 ⟨rfl, h3, _⟩
    have H3 := Lib.hid h3
    clear cQ h3
    go_wp2_with fail
    go_roundw
    case rel => exact ⟨i + 1, hlt, by go_num, H3.out⟩
    case measure => simp [intOf]; omega
  · have hi1 : ¬ (i : Int) < (n1 : Int) := by omega
    have cO := vy_over h1 false (by decide)
    have H1 := Lib.hid h1
    clear hlt h1 hi
    go_wp2_with fail
    refine cO.mono ?_
    rintro e V1 ⟨rfl, hB1⟩
    have h2 := H1.out.ask hB1
    have cR := vy_remark h2
    rw [vyCol_zero] at cR
    clear cO hB1 h2
    go_wp2_with fail
    refine cR.mono ?_
    rintro e V2 ⟨rfl, T2, h3, _⟩
    have hl6 := h3.go.row.lenRun 3
    rw [refsI_length, ← HL.out] at hl6
    have H3 := Lib.hid h3
    clear cR h3
    go_wp2_with fail
    clear hl6
    go_loopw [64] (fun v64 W => ∃ k : Nat, k ≤ L ∧ v64 = .int .i64 (k : Int) ∧ Below V2.heap.size V2 W) (fun v64 _ => L - (intOf v64).toNat)
    case atStart => exact ⟨0, Nat.zero_le _, rfl, Below.refl _ _⟩
    case round =>
    obtain ⟨k, hk, rfl, hBW⟩ := hrel
    have hk0 : (0 : Int) ≤ (k : Int) := by omega
    have hV := H3.out.ask hBW
    by_cases hlt2 : k < L
    · have hk1 : (k : Int) < (L : Int) := by omega
      obtain ⟨u, hu⟩ : ∃ u, obs[k]? = some u := ⟨_, List.getElem?_eq_getElem (by have := HL.out; omega)⟩
      have hca2 := row_cellB hV.go.row (refsI_at hu)
      have cC := vy_count hV (u.r : Int) 0 rfl
      have HB := Lib.hid hBW
      have HV := Lib.hid hV
      clear hu hV hBW
      go_wp2_with fail
      refine cC.mono ?_
      rintro e V3 ⟨rfl, hB3⟩
      have h4 := HV.out.ask hB3
      have cM := h4.by_.marked (u.r : Int)
      rw [h4.tmE] at cM
      have HB3 := Lib.hid hB3
      clear cC hB3 h4 hca2
      go_wp2_with fail
      refine cM.mono ?_
      rintro e V4 ⟨rfl, hB4⟩
      have HB4 := Lib.hid (HB.out.trans ((below_step HB3.out hB4).mono HB.out.size))
      clear cM hB4
      go_wp2_with fail
      go_roundw
      case rel => exact ⟨k + 1, by omega, by go_num, HB4.out⟩
      case measure => simp [intOf]; omega
    · have hk1 : ¬ (k : Int) < (L : Int) := by omega
      obtain ⟨x, hx⟩ : ∃ x, obs[0]? = some x := ⟨_, List.getElem?_eq_getElem (by have := HL.out; omega)⟩
      have hR0 := refsI_at hx
      have hxR : (x.r : Int) ∈ refsI obs := List.mem_of_getElem? hR0
      have hxb := HO.out.bd _ hxR
      have hx0 : (x.r : Int) ≠ 0 := by omega
      have hL0I : (0 : Int) < (L : Int) := by omega
      have hD := hV.ask (Below.refl _ _).drew
      have hxD := row_cellB hD.go.row hR0
      have cQ := vy_post hD (x.r : Int) 0 (x.r : Int) true false (.inr rfl) (.inl hxR) HO.out.bd (by decide)
      have HX := Lib.hid (And.intro hxR hx0)
      clear hlt2 hV hBW hD hx hxR hxb hx0
      go_wp2_with fail
      go_region_held3 (fun W' => W'.cell? ⟨g, 0, none⟩ = some (.int .i64 (x.r : Int))) (first | exact hS7 | exact hxD)
        (first
          | (go_at_call 15; refine cQ.mono ?_; rintro e w7 ⟨rfl, h7, _⟩; have hS7 : w7.cell? ⟨g, 0, none⟩ = some (.int .i64 (x.r : Int)) := row_cellB h7.go.row hR0))
      all_goals
        have hcx : vyPost (fun _ => 0) true (x.r : Int) 0 (x.r : Int) = 1 := by
          unfold vyPost; rw [if_pos rfl, vyDown_zero, vyUp_at HX.out.2]; rfl
        have hcy : ∀ u : Int, u ≠ (x.r : Int) → vyPost (fun _ => 0) true (x.r : Int) 0 u = 0 := fun u hu => by
          unfold vyPost; rw [if_pos rfl, vyDown_zero, vyUp_ne hu]
        have hlg : vyLg 0 true (x.r : Int) = 1 := by unfold vyLg; rw [if_pos rfl, if_neg HX.out.2]
        rw [hlg] at h7
        have cR := vy_remark h7
        have HC := Lib.hid (And.intro hcx hcy)
        clear hS7 cQ hxD hlg hcx hcy h7
        generalize vyPost (fun _ => 0) true (x.r : Int) 0 = cn at *
        go_wp2_with fail
        refine cR.mono ?_
        rintro e w8 ⟨rfl, T8, h8, _⟩
        have hma : ∀ u : Int, (vyCol Col.white cn).ma u = decide (u = (x.r : Int)) := fun u => by
          show (false || decide (0 < cn u)) = _
          by_cases e : u = (x.r : Int)
          · rw [e, HC.out.1]; simp
          · rw [HC.out.2 u e]; simp [e]
        have cO := vy_over h8 true (by decide)
        have H8 := Lib.hid (And.intro h8 hma)
        clear cR h8 hma
        go_wp2_with fail
        refine cO.mono ?_
        rintro e w9 ⟨rfl, hB9⟩
        have h9 := H8.out.1.ask hB9
        have hx9 := row_cellB h9.go.row hR0
        have cC := vy_count h9 (x.r : Int) 1 (by rw [HC.out.1]; rfl)
        have H9 := Lib.hid h9
        clear cO hB9 h9
        go_wp2_with fail
        refine cC.mono ?_
        rintro e w10 ⟨rfl, hB10⟩
        have h10 := H9.out.ask hB10
        have hx10 := row_cellB h10.go.row hR0
        have cM := h10.by_.marked (x.r : Int)
        rw [h10.tmE, H8.out.2, decide_eq_true rfl] at cM
        have H10 := Lib.hid h10
        clear cC hB10 h10 hx9
        go_wp2_with fail
        refine cM.mono ?_
        rintro e w11 ⟨rfl, hB11⟩
        have h11 := H10.out.ask hB11
        have cN : Calls Tryz.prog 18 #[.pointer (some ⟨tm, 0, none⟩)] w11 fun e w' => e = .returned (.int .i64 1) ∧ Below w11.heap.size w11 w' := by
          have h9 := h11.by_.count [(x.r : Int)] (by simp) (fun u => by rw [H8.out.2]; simp)
          rw [h11.tmE] at h9
          exact h9
        have H11 := Lib.hid h11
        clear cM hB11 h11 hx10
        go_wp2_with fail
        refine cN.mono ?_
        rintro e w12 ⟨rfl, hB12⟩
        have HF := Lib.hid (HW2.out.trans ((H11.out.ask hB12).go.ar.below.mono HW2.out.size))
        clear cN hB12
        go_wp2_with fail
        go_ret
        exact ⟨rfl, HF.out⟩
/-- As the frame asks it. -/
theorem vwhite_frame (a0 : Option Addr) (zs : List Int) (cf : Nat) (e0 : Option Addr) (ne ce : Nat) (Q : Nat → Nat → Int) (a1 : Option Addr) (n1 c1 : Nat) (Q1 : Nat → Nat → Int) (w : World) (hl : n1 ≤ 9223372036854775807)
    (hF : BytesW w a0 zs) (hE : EdgesW w e0 ne Q) (hP : FoursW w a1 n1 Q1) (hTb : TabAt w) (hT : TableAt w) :
    Calls Tryz.prog 7 #[.agg #[.slice a0 zs.length cf, .slice e0 ne ce], .slice a1 n1 c1] w fun e w' => e = .returned (.bool true) ∧ Below w.heap.size w w' := vwhite_true a0 zs cf e0 ne ce Q a1 n1 c1 Q1 w hF hE hP ⟨hT, hTb⟩
end Go.Proofs.YtkjpeacnponcfaaGreatDoor
