/- EngineAgain, walked; at this seat's numbers. -/
import Derived.Test.YtooddbhlanjfbaaGreatDoorEnE
import Derived.Test.YtooddbhlanjfbaaGreatDoorUm
import Derived.Test.YtooddbhlanjfbaaGreatDoorUl
import Derived.Test.YtooddbhlanjfbaaGreatDoorArgsF
import Derived.Test.YtooddbhlanjfbaaGreatDoorVyW
import Derived.Deep.RegionHeld3
import Derived.Deep.DeepCutAuto
import Derived.Deep.CutBlock
namespace Go.Proofs.YtooddbhlanjfbaaGreatDoor
open Go Go.RowKit Go.Shelf Go.MuLone Go.RwLone
set_option linter.unusedSimpArgs false
set_option linter.unusedVariables false
attribute [local go_sem] Oper.semAt_some

set_option maxRecDepth 100000 in
set_option maxHeartbeats 16000000 in
theorem enagain_true (b0 b1 b2 b3 b4 b5 : Nat) (hb6 : b0 ≤ 255 ∧ b1 ≤ 255 ∧ b2 ≤ 255 ∧ b3 ≤ 255 ∧ b4 ≤ 255 ∧ b5 ≤ 255) (a0 : Option Addr) (zs : List Int) (cf : Nat) (e0 : Option Addr) (ne ce : Nat) (Q : Nat → Nat → Int) (a1 : Option Addr) (n1 c1 : Nat) (Q1 : Nat → Nat → Int) (w : World)
    (hF : BytesW w a0 zs) (hE : EdgesW w e0 ne Q) (hP : FoursW w a1 n1 Q1) (hT : Tabs w) :
    Calls Tryz.prog 6 #[.agg #[.int .u8 (b0 : Int), .int .u8 (b1 : Int), .int .u8 (b2 : Int), .int .u8 (b3 : Int), .int .u8 (b4 : Int), .int .u8 (b5 : Int)], .agg #[.slice a0 zs.length cf, .slice e0 ne ce], .slice a1 n1 c1] w fun e w' => e = .returned (.bool true) ∧ Below w.heap.size w w' := by
  have HA := Lib.hid (And.intro hF (And.intro hE hP))
  clear hF hE hP
  go_enter Tryz.func6, Tryz.ntmps6
  go_wp2_with fail
  have hX := (Blk.new w #[.int .u8 (b0 : Int), .int .u8 (b1 : Int), .int .u8 (b2 : Int), .int .u8 (b3 : Int), .int .u8 (b4 : Int), .int .u8 (b5 : Int)] 22).alloc (.cells #[.slice a0 zs.length cf, .slice e0 ne ce] 26)
  have hG := Blk.new (w.alloc (.cells #[.int .u8 (b0 : Int), .int .u8 (b1 : Int), .int .u8 (b2 : Int), .int .u8 (b3 : Int), .int .u8 (b4 : Int), .int .u8 (b5 : Int)] 22)) #[.slice a0 zs.length cf, .slice e0 ne ce] 26
  simp only [World.size_alloc] at hG
  have hB0 := ((Below.refl w.heap.size w).alloc (Nat.le_refl _) (.cells #[.int .u8 (b0 : Int), .int .u8 (b1 : Int), .int .u8 (b2 : Int), .int .u8 (b3 : Int), .int .u8 (b4 : Int), .int .u8 (b5 : Int)] 22)).alloc (by simp) (.cells #[.slice a0 zs.length cf, .slice e0 ne ce] 26)
  have hT0 := hT.below hB0
  generalize (w.alloc (.cells #[.int .u8 (b0 : Int), .int .u8 (b1 : Int), .int .u8 (b2 : Int), .int .u8 (b3 : Int), .int .u8 (b4 : Int), .int .u8 (b5 : Int)] 22)).alloc (.cells #[.slice a0 zs.length cf, .slice e0 ne ce] 26) = W0 at *
  refine (enfit_true W0 hT0).mono ?_
  rintro e w1 ⟨rfl, hB1⟩
  have hG1 := hG.turn (Turn.ofBelow hB1) (fun e => Nat.lt_irrefl _ (Nat.lt_of_lt_of_le hG.lt e))
  have hX1 := hX.turn (Turn.ofBelow hB1) (fun e => Nat.lt_irrefl _ (Nat.lt_of_lt_of_le hX.lt e))
  have hB01 := hB0.trans (hB1.mono hB0.size)
  have g0 := hG1.cell 0
  have g1 := hG1.cell 1
  simp only [List.getElem?_toArray, List.getElem?_cons_zero, List.getElem?_cons_succ] at g0 g1
  obtain ⟨q, hq⟩ : ∃ q, (decide (zs.length ≤ 40) && decide (ne ≤ 120)) = q := ⟨_, rfl⟩
  have cS := small_any a0 zs.length cf e0 ne ce w1 q hq
  have HW1 := Lib.hid (And.intro hG1 (And.intro hX1 (And.intro hB01 (hT.below hB01))))
  clear hB0 hB1 hG hX hT0 hG1 hX1 hT hB01
  go_wp2_with fail
  refine cS.mono ?_
  rintro e w2 ⟨rfl, hB2⟩
  have hB02 := HW1.out.2.2.1.trans (hB2.mono HW1.out.2.2.1.size)
  clear cS g0 g1
  by_cases hsm : zs.length ≤ 40 ∧ ne ≤ 120 ∧ n1 ≤ 60
  case neg =>
    cases q with
    | false =>
      clear hsm hq
      go_wp2_with fail
      go_ret
      exact ⟨rfl, hB02⟩
    | true =>
      have h20 : 60 < (n1 : Int) := by
        have h1 : zs.length ≤ 40 := by simpa using (Bool.and_eq_true_iff.1 hq).1
        have h2 : ne ≤ 120 := by simpa using (Bool.and_eq_true_iff.1 hq).2
        have : ¬ n1 ≤ 60 := fun h3 => hsm ⟨h1, h2, h3⟩
        omega
      clear hsm hq
      go_wp2_with fail
      go_ret
      exact ⟨rfl, hB02⟩
  case pos =>
  obtain ⟨h40, h120, hn60⟩ := hsm
  have hqt : q = true := by rw [← hq, decide_eq_true h40, decide_eq_true h120]; rfl
  subst hqt
  have hn60I : ¬ 60 < (n1 : Int) := by omega
  have hX2 := HW1.out.2.1.turn (Turn.ofBelow hB2) (fun e => Nat.lt_irrefl _ (Nat.lt_of_lt_of_le HW1.out.2.1.lt e))
  have hG2 := HW1.out.1.turn (Turn.ofBelow hB2) (fun e => Nat.lt_irrefl _ (Nat.lt_of_lt_of_le HW1.out.1.lt e))
  have x0 := hX2.cell 0
  have x1 := hX2.cell 1
  have x2 := hX2.cell 2
  have x3 := hX2.cell 3
  have x4 := hX2.cell 4
  have x5 := hX2.cell 5
  simp only [List.getElem?_toArray, List.getElem?_cons_zero, List.getElem?_cons_succ] at x0 x1 x2 x3 x4 x5
  have cC := cfMade_any b0 b1 b2 b3 b4 b5 hb6 w2
  have HW2 := Lib.hid (And.intro hB02 (And.intro hX2 (And.intro hG2 (HW1.out.2.2.2.below hB2))))
  have H40 := Lib.hid (And.intro h40 (And.intro h120 hn60))
  clear hG2 hX2 hB02 hB2 HW1 hq h40 h120 hn60
  go_wp2_with fail
  refine cC.mono ?_
  rintro e w3 ⟨gc, rfl, hmay, hB3, _⟩
  have hCf := Blk.new w3 gc.arr 30
  have hB34 := (Below.refl w3.heap.size w3).alloc (Nat.le_refl _) (.cells gc.arr 30)
  have hB24 := hB3.trans (hB34.mono hB3.size)
  have hB04 := HW2.out.1.trans (hB24.mono HW2.out.1.size)
  have hX4 := HW2.out.2.1.turn (Turn.ofBelow hB24) (fun e => Nat.lt_irrefl _ (Nat.lt_of_lt_of_le HW2.out.2.1.lt e))
  have hG4 := HW2.out.2.2.1.turn (Turn.ofBelow hB24) (fun e => Nat.lt_irrefl _ (Nat.lt_of_lt_of_le HW2.out.2.2.1.lt e))
  have hT4 := HW2.out.2.2.2.below hB24
  have g0 := hG4.cell 0
  have g1 := hG4.cell 1
  simp only [List.getElem?_toArray, List.getElem?_cons_zero, List.getElem?_cons_succ] at g0 g1
  have cM := made_any a0 zs cf e0 ne ce Q (w3.alloc (.cells gc.arr 30)) H40.out.1 H40.out.2.1 (HA.out.1.under hB04 (Nat.le_refl _)) (HA.out.2.1.under hB04 (Nat.le_refl _)) hT4.c
  have HW4 := Lib.hid (And.intro hB04 (And.intro hX4 (And.intro hCf hT4.b)))
  have HMAY := Lib.hid hmay
  clear cC x0 x1 x2 x3 x4 x5 hmay hB3 hCf hB34 hB24 hB04 hX4 hG4 hT4
  go_wp2_with fail
  have HW4b := HW4.out
  clear HW4
  obtain ⟨w4, hw4⟩ : ∃ w4, w4 = w3.alloc (.cells gc.arr 30) := ⟨_, rfl⟩
  obtain ⟨cb, hcb⟩ : ∃ cb, cb = w3.heap.size := ⟨_, rfl⟩
  rw [← hw4] at cM HW4b g0 g1 ⊢
  rw [← hcb] at HW4b ⊢
  have HW4 := Lib.hid HW4b
  clear hw4 hcb HW4b
  refine cM.mono ?_
  rintro e w5 hMP
  obtain ⟨X, s, obs, vl, mb, n, f, rfl, hMO⟩ := hMP.ok HW4.out.2.2.2
  obtain ⟨L, hL⟩ : ∃ L, L = obs.length := ⟨_, rfl⟩
  have hLI : (L : Int) ≤ 40 := by have := hMO.len; have := H40.out.1; omega
  have hl6 := hMO.go.row.lenRun 3
  rw [refsI_length, ← hL] at hl6
  have HO := Lib.hid hMO
  have HL := Lib.hid hL
  by_cases hn0 : L = 0
  · have hLz : ((L : Int) == 0) = true := by simp; omega
    have HF := Lib.hid (HW4.out.1.trans (hMO.go.ar.below.mono HW4.out.1.size))
    clear hMO hMP cM g0 g1 hL hn0
    go_wp2_with fail
    go_ret
    exact ⟨rfl, HF.out⟩
  have hLz : ((L : Int) == 0) = false := by simp; omega
  have hL0 : 0 < L := by omega
  obtain ⟨room, m, hgl, hr64, hgm, hm1, hm64⟩ := cfg_room HMAY.out
  obtain ⟨ee, hge, hee⟩ : ∃ ee : Nat, gc.e = (ee : Int) ∧ ee ≤ 3 := by
    have h9 := HMAY.out
    unfold Cfg.may at h9
    simp only [Bool.and_eq_true, inB_iff] at h9
    exact ⟨gc.e.toNat, by omega, by omega⟩
  have hC5 := HW4.out.2.2.1.turn (Turn.ofBelow hMO.go.ar.below) (fun e => Nat.lt_irrefl _ (Nat.lt_of_lt_of_le HW4.out.2.2.1.lt e))
  have c8 : w5.cell? ⟨cb, 8, none⟩ = some (.int .i64 gc.m) := hC5.cell 8
  rw [hgm] at c8
  have cN := gm_new (E := fun _ => False) hMO.go hMO.P (m : Int) (fun _ h => h.elim) (by omega) hMO.tab hMO.tab.lt
  have HC := Lib.hid (And.intro hC5 (And.intro hgl (And.intro hr64 (And.intro hge hee))))
  clear hMO hMP cM g0 g1 hL hn0 hC5 hgl hr64 hgm hm1 hm64 hge hee
  go_wp2_with fail
  refine cN.mono ?_
  rintro e w6 ⟨T, rfl, hGm, hB6⟩
  obtain ⟨tm, htm⟩ : ∃ tm, T.m = tm := ⟨_, rfl⟩
  rw [htm]
  have hC6 := HC.out.1.turn (Turn.ofBelow hB6) (fun e => Nat.lt_irrefl _ (Nat.lt_of_lt_of_le HC.out.1.lt e))
  have k0 : w6.cell? ⟨cb, 0, none⟩ = some (.int .i64 gc.e) := hC6.cell 0
  have k1 : w6.cell? ⟨cb, 1, none⟩ = some (.bool gc.k) := hC6.cell 1
  have k2 : w6.cell? ⟨cb, 2, none⟩ = some (.int .i64 gc.p) := hC6.cell 2
  have k3 : w6.cell? ⟨cb, 3, none⟩ = some (.int .i64 gc.t) := hC6.cell 3
  have k4 : w6.cell? ⟨cb, 4, none⟩ = some (.int .i64 gc.r) := hC6.cell 4
  have k5 : w6.cell? ⟨cb, 5, none⟩ = some (.int .i64 gc.s) := hC6.cell 5
  have k6 : w6.cell? ⟨cb, 6, none⟩ = some (.int .i64 gc.g) := hC6.cell 6
  have k7 : w6.cell? ⟨cb, 7, none⟩ = some (.int .i64 gc.f) := hC6.cell 7
  have k8 : w6.cell? ⟨cb, 8, none⟩ = some (.int .i64 gc.m) := hC6.cell 8
  have k9 : w6.cell? ⟨cb, 9, none⟩ = some (.int .i64 gc.l) := hC6.cell 9
  have k10 : w6.cell? ⟨cb, 10, none⟩ = some (.int .i64 gc.b) := hC6.cell 10
  have cE := en_new (e := ee) (room := room) hGm htm gc HC.out.2.2.2.1 HC.out.2.2.2.2 HC.out.2.1 (by have := HC.out.2.2.1; omega)
  clear cN hB6 hGm htm hC6 c8
  go_wp2_with fail
  refine cE.mono ?_
  rintro e w7 ⟨bt, H, rfl, h7, _⟩
  have hee := HC.out.2.2.2.2
  rcases h7.gm.go.row.is with ⟨_, e⟩ | ⟨g, cap, cur, hv, hg, hlc, hcm, hcs, hcell⟩
  · have := congrArg List.length e; rw [refsI_length, ← HL.out] at this; simp at this; omega
  rw [refsI_length, ← HL.out] at hv
  subst hv
  have hRL : (refsI obs).length = L := by rw [refsI_length, ← HL.out]
  have hlcI : (L : Int) ≤ (cap : Int) := by omega
  have hcmI : (cap : Int) ≤ 9223372036854775807 := by omega
  have hMp := enM_post ee hee ⟨bt, 0, none⟩
  have hCp := callE_post ee hee
  have hNp := enN_post ee hee ⟨bt, 0, none⟩
  have hMr := enM_reset ee hee ⟨bt, 0, none⟩
  have hCr := callE_reset ee hee
  obtain ⟨tk, hTk⟩ : ∃ tk, enT ee = tk := ⟨_, rfl⟩
  unfold enV
  rw [hTk] at hMp hMr hNp ⊢
  obtain ⟨fp, hfp⟩ : ∃ fp, enPost ee = fp := ⟨_, rfl⟩
  rw [hfp] at hMp hCp
  obtain ⟨fr, hfr⟩ : ∃ fr, enReset ee = fr := ⟨_, rfl⟩
  rw [hfr] at hMr hCr
  have HN := Lib.hid (And.intro hTk (And.intro hfp (And.intro hfr (And.intro hee hRL))))
  clear cE hg hlc hcm hcs hcell hTk hfp hfr hee k0 k1 k2 k3 k4 k5 k6 k7 k8 k9 k10 hRL
  go_wp2_with fail
  go_loopw [54] (fun v54 W => ∃ (i : Nat) (T : MkB) (c : Col) (H : Nat → Prop) (σ : EnS), i ≤ n1 ∧ v54 = .int .i64 (i : Int) ∧ σ.lg ≤ i ∧ EnIn ee w4.heap.size mb n X s obs (.slice (some ⟨g, 0, none⟩) L cap) f (ptsAt obs) (fun _ => False) T c H bt tm room σ w4 W) (fun v54 _ => n1 - (intOf v54).toNat)
  case atStart => exact ⟨0, T, Col.white, H, EnS.none, Nat.zero_le _, rfl, Nat.le_refl _, h7⟩
  case round =>
  clear h7 T H
  obtain ⟨i, T, c, H, σ, hi, rfl, hlg, h1⟩ := hrel
  have hi0 : (0 : Int) ≤ (i : Int) := by omega
  have hi60 : i ≤ 60 := by have := H40.out.2.2; omega
  by_cases hlt : i < n1
  · have hi1 : (i : Int) < (n1 : Int) := by omega
    have hB06 := HW4.out.1.trans (h1.gm.below.mono HW4.out.1.size)
    obtain ⟨bk, off, rfl, hbk, hcs⟩ := HA.out.2.2 i hlt
    have hd0 := (hB06.cell (p := ⟨bk, off + i * 4, none⟩) hbk).trans (hcs 0 (by decide)).1
    have hd1 := (hB06.cell (p := ⟨bk, off + i * 4 + 1, none⟩) hbk).trans (hcs 1 (by decide)).1
    have hd2 := (hB06.cell (p := ⟨bk, off + i * 4 + 2, none⟩) hbk).trans (hcs 2 (by decide)).1
    have hd3 := (hB06.cell (p := ⟨bk, off + i * 4 + 3, none⟩) hbk).trans (hcs 3 (by decide)).1
    obtain ⟨qa, hqa, hqa6⟩ := u8_natW (hcs 0 (by decide)).2
    obtain ⟨qb, hqb, hqb6⟩ := u8_natW (hcs 1 (by decide)).2
    obtain ⟨qc, hqc, hqc6⟩ := u8_natW (hcs 2 (by decide)).2
    obtain ⟨qd, hqd, hqd6⟩ := u8_natW (hcs 3 (by decide)).2
    rw [hqa] at hd0
    rw [hqb] at hd1
    rw [hqc] at hd2
    rw [hqd] at hd3
    have b1 := (Below.refl wr.heap.size wr).alloc (Nat.le_refl _) (.cells #[.int .u8 (qa : Int), .int .u8 (qb : Int), .int .u8 (qc : Int), .int .u8 (qd : Int)] 46)
    have h1a := h1.ask b1
    have hE0 := Blk.new wr #[.int .u8 (qa : Int), .int .u8 (qb : Int), .int .u8 (qc : Int), .int .u8 (qd : Int)] 46
    have hl6 := h1a.gm.go.row.lenRun 3
    rw [refsI_length, ← HL.out] at hl6
    have hx0 := hE0.cell 0
    have hx1 := hE0.cell 1
    have hx2 := hE0.cell 2
    simp only [List.getElem?_toArray, List.getElem?_cons_zero, List.getElem?_cons_succ] at hx0 hx1 hx2
    have HS := Lib.hid (And.intro h1a (And.intro hE0 hlg))
    clear hqa hqb hqc hqd hcs h1 hbk hB06 b1 hlg hE0
    obtain ⟨ia, hta, hla, hwa⟩ := mod_run (L := L) hL0 hqa6
    obtain ⟨ib, htb, hlb, hwb⟩ := mod_run (L := L) hL0 hqb6
    obtain ⟨ic, htc, hlc, hwc⟩ := mod_run (L := L) hL0 hqc6
    have hin : ¬ (L : Int) = 0 := by omega
    have hlaI : (ia : Int) < (L : Int) := by omega
    have hlbI : (ib : Int) < (L : Int) := by omega
    have hlcI2 : (ic : Int) < (L : Int) := by omega
    have hla0 : (0 : Int) ≤ (ia : Int) := by omega
    have hlb0 : (0 : Int) ≤ (ib : Int) := by omega
    have hlc0 : (0 : Int) ≤ (ic : Int) := by omega
    obtain ⟨x, hx⟩ : ∃ x, obs[ia]? = some x := ⟨_, List.getElem?_eq_getElem (by have := HL.out; omega)⟩
    obtain ⟨y, hy⟩ : ∃ y, obs[ib]? = some y := ⟨_, List.getElem?_eq_getElem (by have := HL.out; omega)⟩
    obtain ⟨z, hz⟩ : ∃ z, obs[ic]? = some z := ⟨_, List.getElem?_eq_getElem (by have := HL.out; omega)⟩
    have hca := row_cellB h1a.gm.go.row (refsI_at hx)
    have hcb2 := row_cellB h1a.gm.go.row (refsI_at hy)
    have hcc := row_cellB h1a.gm.go.row (refsI_at hz)
    have hxR : (x.r : Int) ∈ refsI obs := List.mem_of_getElem? (refsI_at hx)
    have hyR : (y.r : Int) ∈ refsI obs := List.mem_of_getElem? (refsI_at hy)
    have hzR : (z.r : Int) ∈ refsI obs := List.mem_of_getElem? (refsI_at hz)
    have HY := Lib.hid (And.intro hxR (And.intro hyR hzR))
    clear hx hy hz hxR hyR hzR h1a
    go_wp2_with fail
    go_quiet (fail)
    have h2 := HS.out.1.ask (below_drewG _ nq)
    have hE2 := HS.out.2.1.drewN nq
    generalize (wr.alloc (.cells #[.int .u8 (qa : Int), .int .u8 (qb : Int), .int .u8 (qc : Int), .int .u8 (qd : Int)] 46)).drewN nq = V1 at *
    have hx3 := hE2.cell 3
    simp only [List.getElem?_toArray, List.getElem?_cons_zero, List.getElem?_cons_succ] at hx3
    obtain ⟨bq, hbq⟩ : ∃ bq, (bits .and .u8 (qd : Int) 3 == 0) = bq := ⟨_, rfl⟩
    have H2 := Lib.hid h2
    clear h2 hE2 hta htb htc hla hlb hlc hin hlaI hlbI hlcI2 hla0 hlb0 hlc0 hwa hwb hwc hca hcb2 hcc hx0 hx1 hx2 hd0 hd1 hd2 hd3 hl6
    go_upto_if 88 with fail
    go_cut [15, 16, 17] (fun v15 v16 v17 wx => v15 = .int .i64 (x.r : Int) ∧ v16 = .int .i64 (y.r : Int) ∧ v17 = .int .i64 (z.r : Int) ∧ ∃ (T : MkB) (c : Col), EnIn ee w4.heap.size mb n X s obs (.slice (some ⟨g, 0, none⟩) L cap) f (ptsAt obs) (fun _ => False) T c H bt tm room σ w4 wx)
    case first =>
      cases bq with
      | false =>
        go_wp2_with fail
        go_meet
        case rel => exact ⟨rfl, rfl, rfl, T, c, H2.out⟩
      | true =>
        have hxb := HO.out.bd _ HY.out.1
        have cB := H2.out.gm.blacken (x.r : Int) HY.out.1 hxb.1 hxb.2
        rw [H2.out.tm] at cB
        go_wp2_with fail
        refine cB.mono ?_
        rintro e V2 ⟨rfl, T2, hm2, hG2, hk2⟩
        have H3 := Lib.hid (H2.out.went (hm2.trans rfl) hG2 hk2).1
        clear cB hm2 hG2 hk2
        go_wp2_with fail
        go_meet
        case rel => exact ⟨rfl, rfl, rfl, T2, _, H3.out⟩
    case rest =>
    obtain ⟨rfl, rfl, rfl, T3, c3, h3⟩ := hcut
    have hD := h3.ask (Below.refl _ _).drew
    obtain ⟨bs, hbs⟩ : ∃ bs, c3.sc (x.r : Int) = bs := ⟨_, rfl⟩
    have cSc := hD.mkr.at_.scanned (x.r : Int)
    rw [hD.tm, hbs] at cSc
    have HD := Lib.hid hD
    clear hx3 hbq H2 h3 hD hbs
    go_wp2_with fail
    go_region_held3 (fun W' => HeldT W') (first | exact hS5 | exact hS4 | exact (trivial : HeldT _))
      (first
        | (go_at_call 29; refine cSc.mono ?_; rintro e V4 ⟨rfl, hB4⟩; have h4 := HD.out.ask hB4; have cQ := h4.post HN.out.2.2.2.1 (x.r : Int) (y.r : Int) (z.r : Int) bs false (.inl HY.out.2.1) (.inl HY.out.2.2) HO.out.bd (by have := HS.out.2.2; omega); rw [HN.out.2.1] at cQ; have hS4 : HeldT V4 := trivial)
        | (refine cQ.mono ?_; rintro e V5 ⟨rfl, T5, H5, h5, _⟩; have hS5 : HeldT V5 := trivial))
    all_goals
      have H5' := Lib.hid h5
      clear cSc cQ h4 hB4 h5 hS4 hS5
      go_wp2_with fail
      go_roundw
      case rel => exact ⟨i + 1, T5, _, H5, _, hlt, by go_num, postS_lg HS.out.2.2, H5'.out⟩
      case measure => simp [intOf]; omega
  · have hi1 : ¬ (i : Int) < (n1 : Int) := by omega
    have cRs := h1.gm.reset
    rw [h1.tm] at cRs
    have H1 := Lib.hid h1
    clear hlt h1 hi hlg hMp hCp hNp
    go_wp2_with fail
    refine cRs.mono ?_
    rintro e V1 ⟨rfl, T2, hm2, hG2, hk2⟩
    have h2 := (H1.out.went hm2 hG2 hk2).1
    have cRb := h2.reset HN.out.2.2.2.1
    rw [HN.out.2.2.1] at cRb
    clear cRs hm2 hG2 hk2 h2
    go_wp2_with fail
    refine cRb.mono ?_
    rintro e V2 ⟨rfl, H3, h3, _⟩
    obtain ⟨im, hm5, him, hw5⟩ := mod_run (L := L) hL0 (show b5 < 256 by omega)
    obtain ⟨kk, hkk⟩ : ∃ kk : Nat, kk = 1 + im := ⟨_, rfl⟩
    have hin : ¬ (L : Int) = 0 := by omega
    have hkL : kk ≤ L := by omega
    have hkLI : (kk : Int) ≤ (L : Int) := by omega
    have hkcI : (kk : Int) ≤ (cap : Int) := by omega
    have hk0 : (0 : Int) ≤ (kk : Int) := by omega
    have hX9 := HW4.out.2.1.turn (Turn.ofBelow h3.gm.below) (fun e => Nat.lt_irrefl _ (Nat.lt_of_lt_of_le HW4.out.2.1.lt e))
    have x5 := hX9.cell 5
    simp only [List.getElem?_toArray, List.getElem?_cons_zero, List.getElem?_cons_succ] at x5
    have hl6 := h3.gm.go.row.lenRun 3
    rw [refsI_length, ← HL.out] at hl6
    have hLk : (refsI obs).length = kk + (L - kk) := by rw [HN.out.2.2.2.2]; omega
    have hrow : ∀ W, RefRow W (.slice (some ⟨g, 0, none⟩) L cap) (refsI obs) → RefRow W (.slice (some ⟨g, 0, none⟩) kk cap) ((refsI obs).take kk) := fun W h => by
      have h9 : RefRow W (.slice (some ⟨g, 0, none⟩) (refsI obs).length cap) (refsI obs) := by rw [HN.out.2.2.2.2]; exact h
      exact RefRow.takes _ _ _ hLk h9
    have htl : ((refsI obs).take kk).length = kk := by rw [List.length_take]; omega
    have hlo := (hrow _ h3.gm.go.row).lenRun 3
    rw [htl] at hlo
    have HK := Lib.hid (And.intro hrow (And.intro htl hkL))
    have H3' := Lib.hid h3
    have hsum := wrapK hkk (show im < 1000 by omega)
    clear cRb h3 hkk hX9 hLk hrow htl hkL him
    go_wp2_with fail
    clear hl6 hlo x5 hm5 hw5 hsum
    go_loopw [120] (fun v120 W => ∃ (j : Nat) (T : MkB) (c : Col), j ≤ kk ∧ v120 = .int .i64 (j : Int) ∧ EnIn ee w4.heap.size mb n X s obs (.slice (some ⟨g, 0, none⟩) L cap) f (ptsAt obs) (fun _ => False) T c H3 bt tm room (resetS ee σ) w4 W ∧ Tri (ptsAt obs) ((refsI obs).take j) c []) (fun v120 _ => kk - (intOf v120).toNat)
    case atStart => exact ⟨0, T2, Col.white, Nat.zero_le _, rfl, H3'.out, tri_whiteP _⟩
    case round =>
    clear H3' T2
    obtain ⟨j, T4, c4, hj, rfl, h4, hTri⟩ := hrel
    have hj0 : (0 : Int) ≤ (j : Int) := by omega
    by_cases hlt2 : j < kk
    · have hj1 : (j : Int) < (kk : Int) := by omega
      obtain ⟨x, hx⟩ : ∃ x, obs[j]? = some x := ⟨_, List.getElem?_eq_getElem (by have := HL.out; have := HK.out.2.2; omega)⟩
      have hca := row_cellB h4.gm.go.row (refsI_at hx)
      have hxR : (x.r : Int) ∈ refsI obs := List.mem_of_getElem? (refsI_at hx)
      have hxb := HO.out.bd _ hxR
      have cSh := h4.gm.shade (x.r : Int) hxR hxb.1 hxb.2
      rw [h4.tm] at cSh
      have hT9 := hTri.shade (x := (x.r : Int)) (by omega)
      rw [← take_nextR (refsI_at hx)] at hT9
      have H4 := Lib.hid (And.intro h4 hT9)
      clear hx hxR hxb h4 hTri hT9
      go_wp2_with fail
      refine cSh.mono ?_
      rintro e V5 ⟨rfl, T5, hm5, hG5, hk5⟩
      have H5 := Lib.hid (H4.out.1.went hm5 hG5 hk5).1
      clear cSh hm5 hG5 hk5 hca
      go_wp2_with fail
      go_roundw
      case rel => exact ⟨j + 1, T5, _, hlt2, by go_num, H5.out, H4.out.2⟩
      case measure => simp [intOf]; omega
    · have hj1 : ¬ (j : Int) < (kk : Int) := by omega
      obtain rfl : j = kk := by omega
      have hrest : restI (ptsAt obs) [] (refsI obs) ≤ 6 * (refsI obs).length := restI_nil_le _ 6 _ HO.out.few
      have hRn := HN.out.2.2.2.2
      have cRe := reach_any (.slice (some ⟨g, 0, none⟩) j cap) ((refsI obs).take j) (refsI obs) mb n f (ptsAt obs) wr (HK.out.1 _ h4.gm.go.row) h4.gm.go.grp HO.out.nd HO.out.bd (by omega) (fun x hx => .inr (List.mem_of_mem_take hx)) HO.out.pin (by have := HK.out.2.1; omega) (fun x hx => by have := HO.out.few x hx; omega)
      have H4 := Lib.hid (And.intro h4 hTri)
      clear h4 hTri hrest hRn hj hlt2
      go_wp2_with fail
      refine cRe.mono ?_
      rintro e V6 ⟨rb, vis, rfl, hMap, hrb, hB6, hvn, hvin, hvis⟩
      have h6 : EnIn ee w4.heap.size mb n X s obs (.slice (some ⟨g, 0, none⟩) L cap) f (ptsAt obs) (fun k => k = rb) T4 c4 H3 bt tm room (resetS ee σ) w4 V6 := H4.out.1.watch hB6 fun k e => .inr ⟨by have e2 : k = rb := e; omega, by have e2 : k = rb := e; have := hMap.lt; omega⟩
      have cRt := roots_any (some ⟨g, 0, none⟩) j cap V6
      have H6 := Lib.hid (And.intro h6 (And.intro hMap (And.intro hvn (And.intro hvin hvis))))
      clear cRe hMap hrb hB6 hvn hvin hvis h6
      go_wp2_with fail
      refine cRt.mono ?_
      rintro e w' ⟨rfl, rfl⟩
      have hB7 := (Below.refl V6.heap.size V6).alloc (Nat.le_refl _) (.cells #[.slice (some ⟨g, 0, none⟩) j cap] 33)
      have h7 := H6.out.1.box (.cells #[.slice (some ⟨g, 0, none⟩) j cap] 33)
      have hMap7 := H6.out.2.1.ask hB7
      have hrow7 := HK.out.1 _ h7.gm.go.row
      have hbx7 : (V6.alloc (.cells #[.slice (some ⟨g, 0, none⟩) j cap] 33)).cell? ⟨V6.heap.size, 0, none⟩ = some (.slice (some ⟨g, 0, none⟩) j cap) := (Blk.new V6 _ _).cell 0
      have cF := en_finish h7 HN.out.2.2.2.1 HO.out.cl (by have := HL.out; omega) ((refsI obs).take j) hrow7 hbx7 (.inr rfl) (fun k e => .inr (.inr (.inl e))) (fun z hz => List.mem_of_mem_take hz)
      unfold enV at cF
      rw [HN.out.1] at cF
      have H7 := Lib.hid hMap7
      clear cRt h7 hMap7 hrow7 hbx7 hB7
      go_wp2_with fail
      generalize V6.alloc (.cells #[.slice (some ⟨g, 0, none⟩) j cap] 33) = V8 at *
      refine cF.mono ?_
      rintro e V9 ⟨T9, H9, l, c9, rfl, hsc, hdry, h9, hk9⟩
      have hMap9 := H7.out.keep (hk9 rb (.inl rfl))
      have hsc2 : Scans (ptsAt obs) (remC ee (if ee = 2 then c4 else c4.shades ((refsI obs).take j)) EnS.none) l c9 := by
        rw [remC_none]; rw [remC_reset HN.out.2.2.2.1] at hsc; exact hsc
      have hT9 := fin_tri H4.out.2 ptsAt_zero (fun z hz => by have := HO.out.bd z (List.mem_of_mem_take hz); omega) hsc2
      rw [List.nil_append] at hT9
      have hre : ∀ z, Rch (rootsE ee ((refsI obs).take j) ((refsI obs).take j)) (ptsAt obs) z ↔ Rch ((refsI obs).take j) (ptsAt obs) z := fun z => by
        unfold rootsE
        constructor
        · intro h; refine h.more fun y hy => ?_
          split at hy
          · exact hy
          · rcases List.mem_append.1 hy with e | e <;> exact e
        · intro h; refine h.more fun y hy => ?_
          split
          · exact hy
          · exact List.mem_append.2 (.inl hy)
      have hov : l.length = vis.length := same_length hT9.nod H6.out.2.2.1 fun z => (hT9.ordDry hdry z).trans ((hre z).trans (H6.out.2.2.2.2 z).symm)
      have hmv : ∀ z, c9.ma z = true ↔ z ∈ vis := fun z => (hT9.dry hdry z).trans ((hre z).trans (H6.out.2.2.2.2 z).symm)
      have hlen := hMap9.len 3
      rw [← hov] at hlen
      have hnn : ((l.length : Int) == (l.length : Int)) = true := by simp
      have hl6 := h9.gm.go.row.lenRun 3
      rw [refsI_length, ← HL.out] at hl6
      have H9' := Lib.hid (And.intro h9 (And.intro hMap9 hmv))
      clear cF hsc hsc2 hdry h9 hk9 hMap9 hT9 hre hov hmv
      go_wp2_with fail
      clear hl6 hlen hnn
      go_loopw [141] (fun v141 W => ∃ k : Nat, k ≤ L ∧ v141 = .int .i64 (k : Int) ∧ Below V9.heap.size V9 W) (fun v141 _ => L - (intOf v141).toNat)
      case atStart => exact ⟨0, Nat.zero_le _, rfl, Below.refl _ _⟩
      case round =>
      obtain ⟨k, hk, rfl, hBW⟩ := hrel
      have hk0 : (0 : Int) ≤ (k : Int) := by omega
      have hV := H9'.out.1.ask hBW
      have hMV := H9'.out.2.1.ask hBW
      by_cases hlt3 : k < L
      · have hk1 : (k : Int) < (L : Int) := by omega
        obtain ⟨u, hu⟩ : ∃ u, obs[k]? = some u := ⟨_, List.getElem?_eq_getElem (by have := HL.out; omega)⟩
        have huR : (u.r : Int) ∈ refsI obs := List.mem_of_getElem? (refsI_at hu)
        have hub := HO.out.bd _ huR
        have hwu := wf_ref hub.1 hub.2
        have hca2 := row_cellB hV.gm.go.row (refsI_at hu)
        have hD := hV.ask (Below.refl _ _).drew
        have hMD := hMV.ask (Below.refl _ wr).drew
        have hmu := H9'.out.2.2 (u.r : Int)
        have cMa := hD.mkr.at_.marked (u.r : Int)
        rw [hD.tm] at cMa
        have HB := Lib.hid hBW
        have HW := Lib.hid hwu
        cases hm : c9.ma (u.r : Int) with
        | false =>
          have hvv : visF vis (u.r : Int) = 0 := by
            unfold visF; rw [if_neg (fun e => by have := hmu.2 e; rw [hm] at this; cases this)]
          rw [hm] at cMa
          have hlk := hMD.look (u.r : Int) hwu
          rw [hvv] at hlk
          have HMD := Lib.hid (And.intro hMD hvv)
          clear hu huR hub hwu hV hMV hD hMD hmu hBW hm hvv
          go_wp2_with fail
          go_region_held3 (fun W' => (Instr.lookup 42 (.map (some rb)) (.int .i64 (u.r : Int)) false).run Tryz.prog W' = .ok (.int .i64 0) W')
            (first | exact hS8 | exact hlk)
            (first
              | (go_at_call 23; refine cMa.mono ?_; rintro e V1 ⟨rfl, hB1⟩; have hM1 := HMD.out.1.ask hB1; have hS8 := hM1.look (u.r : Int) HW.out; rw [HMD.out.2] at hS8))
          all_goals
            have HB2 := Lib.hid (HB.out.trans ((((Below.refl _ _).drew.trans (below_step (Below.refl _ _) hB1))).mono HB.out.size))
            clear cMa hB1 hlk hca2 hS8 hM1
            go_wp2_with fail
            go_roundw
            case rel => exact ⟨k + 1, by omega, by go_num, HB2.out⟩
            case measure => simp [intOf]; omega
        | true =>
          have hvv : visF vis (u.r : Int) = 1 := by
            unfold visF; rw [if_pos (hmu.1 hm)]
          rw [hm] at cMa
          have hlk := hMD.look (u.r : Int) hwu
          rw [hvv] at hlk
          have HMD := Lib.hid (And.intro hMD hvv)
          clear hu huR hub hwu hV hMV hD hMD hmu hBW hm hvv
          go_wp2_with fail
          go_region_held3 (fun W' => (Instr.lookup 42 (.map (some rb)) (.int .i64 (u.r : Int)) false).run Tryz.prog W' = .ok (.int .i64 1) W')
            (first | exact hS8 | exact hlk)
            (first
              | (go_at_call 23; refine cMa.mono ?_; rintro e V1 ⟨rfl, hB1⟩; have hM1 := HMD.out.1.ask hB1; have hS8 := hM1.look (u.r : Int) HW.out; rw [HMD.out.2] at hS8))
          all_goals
            have HB2 := Lib.hid (HB.out.trans ((((Below.refl _ _).drew.trans (below_step (Below.refl _ _) hB1))).mono HB.out.size))
            clear cMa hB1 hlk hca2 hS8 hM1
            go_wp2_with fail
            go_roundw
            case rel => exact ⟨k + 1, by omega, by go_num, HB2.out⟩
            case measure => simp [intOf]; omega
      · have hk1 : ¬ (k : Int) < (L : Int) := by omega
        have HF := Lib.hid (HW4.out.1.trans (hV.gm.below.mono HW4.out.1.size))
        clear hlt3 hV hMV hBW
        go_wp2_with fail
        go_ret
        exact ⟨rfl, HF.out⟩
/-- As the frame asks it. -/
theorem enagain_frame (b0 b1 b2 b3 b4 b5 : Nat) (hb6 : b0 ≤ 255 ∧ b1 ≤ 255 ∧ b2 ≤ 255 ∧ b3 ≤ 255 ∧ b4 ≤ 255 ∧ b5 ≤ 255) (a0 : Option Addr) (zs : List Int) (cf : Nat) (e0 : Option Addr) (ne ce : Nat) (Q : Nat → Nat → Int) (a1 : Option Addr) (n1 c1 : Nat) (Q1 : Nat → Nat → Int) (w : World) (hl : n1 ≤ 9223372036854775807)
    (hF : BytesW w a0 zs) (hE : EdgesW w e0 ne Q) (hP : FoursW w a1 n1 Q1) (hTb : TabAt w) (hT : TableAt w) :
    Calls Tryz.prog 6 #[.agg #[.int .u8 (b0 : Int), .int .u8 (b1 : Int), .int .u8 (b2 : Int), .int .u8 (b3 : Int), .int .u8 (b4 : Int), .int .u8 (b5 : Int)], .agg #[.slice a0 zs.length cf, .slice e0 ne ce], .slice a1 n1 c1] w fun e w' => e = .returned (.bool true) ∧ Below w.heap.size w w' := enagain_true b0 b1 b2 b3 b4 b5 hb6 a0 zs cf e0 ne ce Q a1 n1 c1 Q1 w hF hE hP ⟨hT, hTb⟩
end Go.Proofs.YtooddbhlanjfbaaGreatDoor
