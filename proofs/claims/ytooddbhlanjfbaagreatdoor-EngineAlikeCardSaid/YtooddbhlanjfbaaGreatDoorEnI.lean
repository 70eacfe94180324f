/- EngineAlike, walked; at this seat's numbers. -/
import Derived.Test.YtooddbhlanjfbaaGreatDoorEnE
import Derived.Test.YtooddbhlanjfbaaGreatDoorEnD
import Derived.Test.YtooddbhlanjfbaaGreatDoorUm
import Derived.Deep.RegionHeld3
import Derived.Deep.DeepCutAuto
import Derived.Deep.CutBlock
namespace Go.Proofs.YtooddbhlanjfbaaGreatDoor
open Go Go.RowKit Go.Shelf Go.MuLone Go.RwLone
set_option linter.unusedSimpArgs false
set_option linter.unusedVariables false
attribute [local go_sem] Oper.semAt_some

set_option maxRecDepth 100000 in
theorem enN_rescans (e : Nat) (he : e ≤ 3) (a : Addr) : ∀ (F : Nat) (w : World), (nilAhead (F + 1) (enT e) (.pointer (some a)) "Rescans").run Tryz.prog w = .ok (some false) w := by
  rcases (show e = 0 ∨ e = 1 ∨ e = 2 ∨ e = 3 by omega) with rfl | rfl | rfl | rfl <;> exact fun F w => by kernel_rfl
theorem postS_lg2 {e P : Nat} {σ : EnS} {x o y : Int} {p : Bool} {i : Nat} (h : σ.lg ≤ i) : (postS e P σ x o y p).lg ≤ i + 1 := postS_lg h
theorem remS_lg {e : Nat} {σ : EnS} {i : Nat} (h : σ.lg ≤ i) : (remS e σ).lg ≤ i := by
  unfold remS; split <;> exact h
theorem resetS_lg {e : Nat} {σ : EnS} {i : Nat} (h : σ.lg ≤ i) : (resetS e σ).lg ≤ i := by
  unfold resetS; split
  · exact h
  · exact h
  · exact h
  · exact Nat.zero_le _
set_option maxRecDepth 100000 in
set_option maxHeartbeats 16000000 in
theorem enalike_true (b0 b1 b2 b3 b4 b5 : Nat) (hb6 : b0 ≤ 255 ∧ b1 ≤ 255 ∧ b2 ≤ 255 ∧ b3 ≤ 255 ∧ b4 ≤ 255 ∧ b5 ≤ 255) (a0 : Option Addr) (zs : List Int) (cf : Nat) (e0 : Option Addr) (ne ce : Nat) (Q : Nat → Nat → Int) (a1 : Option Addr) (n1 c1 : Nat) (Q1 : Nat → Nat → Int) (w : World)
    (hF : BytesW w a0 zs) (hE : EdgesW w e0 ne Q) (hP : FoursW w a1 n1 Q1) (hT : Tabs w) :
    Calls Tryz.prog 4 #[.agg #[.int .u8 (b0 : Int), .int .u8 (b1 : Int), .int .u8 (b2 : Int), .int .u8 (b3 : Int), .int .u8 (b4 : Int), .int .u8 (b5 : Int)], .agg #[.slice a0 zs.length cf, .slice e0 ne ce], .slice a1 n1 c1] w fun e w' => e = .returned (.bool true) ∧ Below w.heap.size w w' := by
  have HA := Lib.hid (And.intro hF (And.intro hE hP))
  clear hF hE hP
  go_enter Tryz.func4, Tryz.ntmps4
  go_wp2_with fail
  have hX := (Blk.new w #[.int .u8 (b0 : Int), .int .u8 (b1 : Int), .int .u8 (b2 : Int), .int .u8 (b3 : Int), .int .u8 (b4 : Int), .int .u8 (b5 : Int)] 22).alloc (.cells #[.slice a0 zs.length cf, .slice e0 ne ce] 26)
  have hG := Blk.new (w.alloc (.cells #[.int .u8 (b0 : Int), .int .u8 (b1 : Int), .int .u8 (b2 : Int), .int .u8 (b3 : Int), .int .u8 (b4 : Int), .int .u8 (b5 : Int)] 22)) #[.slice a0 zs.length cf, .slice e0 ne ce] 26
  simp only [World.size_alloc] at hG
  have hB0 := ((Below.refl w.heap.size w).alloc (Nat.le_refl _) (.cells #[.int .u8 (b0 : Int), .int .u8 (b1 : Int), .int .u8 (b2 : Int), .int .u8 (b3 : Int), .int .u8 (b4 : Int), .int .u8 (b5 : Int)] 22)).alloc (by simp) (.cells #[.slice a0 zs.length cf, .slice e0 ne ce] 26)
  have hT0 := hT.below hB0
  generalize (w.alloc (.cells #[.int .u8 (b0 : Int), .int .u8 (b1 : Int), .int .u8 (b2 : Int), .int .u8 (b3 : Int), .int .u8 (b4 : Int), .int .u8 (b5 : Int)] 22)).alloc (.cells #[.slice a0 zs.length cf, .slice e0 ne ce] 26) = W0 at *
  refine (enfit_true W0 hT0).mono ?_
  rintro e w1 ⟨rfl, hB1⟩
  have hG1 := hG.turn (Turn.ofBelow hB1) (fun e => Nat.lt_irrefl _ (Nat.lt_of_lt_of_le hG.lt e))
  have hX1 := hX.turn (Turn.ofBelow hB1) (fun e => Nat.lt_irrefl _ (Nat.lt_of_lt_of_le hX.lt e))
  have hB01 := hB0.trans (hB1.mono hB0.size)
  have g0 := hG1.cell 0
  have g1 := hG1.cell 1
  simp only [List.getElem?_toArray, List.getElem?_cons_zero, List.getElem?_cons_succ] at g0 g1
  obtain ⟨q, hq⟩ : ∃ q, (decide (zs.length ≤ 40) && decide (ne ≤ 120)) = q := ⟨_, rfl⟩
  have cS := small_any a0 zs.length cf e0 ne ce w1 q hq
  have HW1 := Lib.hid (And.intro hG1 (And.intro hX1 (And.intro hB01 (hT.below hB01))))
  clear hB0 hB1 hG hX hT0 hG1 hX1 hT hB01
  go_wp2_with fail
  refine cS.mono ?_
  rintro e w2 ⟨rfl, hB2⟩
  have hB02 := HW1.out.2.2.1.trans (hB2.mono HW1.out.2.2.1.size)
  clear cS g0 g1
  by_cases hsm : zs.length ≤ 40 ∧ ne ≤ 120 ∧ n1 ≤ 60
  case neg =>
    cases q with
    | false =>
      clear hsm hq
      go_wp2_with fail
      go_ret
      exact ⟨rfl, hB02⟩
    | true =>
      have h20 : 60 < (n1 : Int) := by
        have h1 : zs.length ≤ 40 := by simpa using (Bool.and_eq_true_iff.1 hq).1
        have h2 : ne ≤ 120 := by simpa using (Bool.and_eq_true_iff.1 hq).2
        have : ¬ n1 ≤ 60 := fun h3 => hsm ⟨h1, h2, h3⟩
        omega
      clear hsm hq
      go_wp2_with fail
      go_ret
      exact ⟨rfl, hB02⟩
  case pos =>
  obtain ⟨h40, h120, hn60⟩ := hsm
  have hqt : q = true := by rw [← hq, decide_eq_true h40, decide_eq_true h120]; rfl
  subst hqt
  have hn60I : ¬ 60 < (n1 : Int) := by omega
  have hX2 := HW1.out.2.1.turn (Turn.ofBelow hB2) (fun e => Nat.lt_irrefl _ (Nat.lt_of_lt_of_le HW1.out.2.1.lt e))
  have hG2 := HW1.out.1.turn (Turn.ofBelow hB2) (fun e => Nat.lt_irrefl _ (Nat.lt_of_lt_of_le HW1.out.1.lt e))
  have x0 := hX2.cell 0
  have x1 := hX2.cell 1
  have x2 := hX2.cell 2
  have x3 := hX2.cell 3
  have x4 := hX2.cell 4
  have x5 := hX2.cell 5
  simp only [List.getElem?_toArray, List.getElem?_cons_zero, List.getElem?_cons_succ] at x0 x1 x2 x3 x4 x5
  have cC := cfMade_any b0 b1 b2 b3 b4 b5 hb6 w2
  have HW2 := Lib.hid (And.intro hB02 (And.intro hX2 (And.intro hG2 (HW1.out.2.2.2.below hB2))))
  have H40 := Lib.hid (And.intro h40 (And.intro h120 hn60))
  clear hG2 hX2 hB02 hB2 HW1 hq h40 h120 hn60
  go_wp2_with fail
  refine cC.mono ?_
  rintro e w3 ⟨gc, rfl, hmay, hB3, _⟩
  have hCf := Blk.new w3 gc.arr 30
  have hB34 := (Below.refl w3.heap.size w3).alloc (Nat.le_refl _) (.cells gc.arr 30)
  have hB24 := hB3.trans (hB34.mono hB3.size)
  have hB04 := HW2.out.1.trans (hB24.mono HW2.out.1.size)
  have hX4 := HW2.out.2.1.turn (Turn.ofBelow hB24) (fun e => Nat.lt_irrefl _ (Nat.lt_of_lt_of_le HW2.out.2.1.lt e))
  have hG4 := HW2.out.2.2.1.turn (Turn.ofBelow hB24) (fun e => Nat.lt_irrefl _ (Nat.lt_of_lt_of_le HW2.out.2.2.1.lt e))
  have hT4 := HW2.out.2.2.2.below hB24
  have g0 := hG4.cell 0
  have g1 := hG4.cell 1
  simp only [List.getElem?_toArray, List.getElem?_cons_zero, List.getElem?_cons_succ] at g0 g1
  have cM := made_any a0 zs cf e0 ne ce Q (w3.alloc (.cells gc.arr 30)) H40.out.1 H40.out.2.1 (HA.out.1.under hB04 (Nat.le_refl _)) (HA.out.2.1.under hB04 (Nat.le_refl _)) hT4.c
  have HW4 := Lib.hid (And.intro hB04 (And.intro hX4 (And.intro hCf hT4.b)))
  have HMAY := Lib.hid hmay
  clear cC x0 x1 x2 x3 x4 x5 hmay hB3 hCf hB34 hB24 hB04 hX4 hG4 hT4
  go_wp2_with fail
  have HW4b := HW4.out
  clear HW4
  obtain ⟨w4, hw4⟩ : ∃ w4, w4 = w3.alloc (.cells gc.arr 30) := ⟨_, rfl⟩
  obtain ⟨cb, hcb⟩ : ∃ cb, cb = w3.heap.size := ⟨_, rfl⟩
  rw [← hw4] at cM HW4b g0 g1 ⊢
  rw [← hcb] at HW4b ⊢
  have HW4 := Lib.hid HW4b
  clear hw4 hcb HW4b
  refine cM.mono ?_
  rintro e w5 hMP
  obtain ⟨X, s, obs, vl, mb, n, f, rfl, hMO⟩ := hMP.ok HW4.out.2.2.2
  obtain ⟨L, hL⟩ : ∃ L, L = obs.length := ⟨_, rfl⟩
  have hLI : (L : Int) ≤ 40 := by have := hMO.len; have := H40.out.1; omega
  have hl6 := hMO.go.row.lenRun 3
  rw [refsI_length, ← hL] at hl6
  have HO := Lib.hid hMO
  have HL := Lib.hid hL
  by_cases hn0 : L = 0
  · have hLz : ((L : Int) == 0) = true := by simp; omega
    have HF := Lib.hid (HW4.out.1.trans (hMO.go.ar.below.mono HW4.out.1.size))
    clear hMO hMP cM g0 g1 hL hn0
    go_wp2_with fail
    go_ret
    exact ⟨rfl, HF.out⟩
  have hLz : ((L : Int) == 0) = false := by simp; omega
  have hL0 : 0 < L := by omega
  rcases hMO.go.row.is with ⟨_, e⟩ | ⟨g, cap, cur, hv, hg, hlc, hcm, hcs, hcell⟩
  · have := congrArg List.length e; rw [refsI_length, ← hL] at this; simp at this; omega
  rw [refsI_length, ← hL] at hv
  subst hv
  have hRL : (refsI obs).length = L := by rw [refsI_length, ← hL]
  obtain ⟨room, m, hgl, hr64, hgm, hm1, hm64⟩ := cfg_room HMAY.out
  obtain ⟨ee, hge, hee⟩ : ∃ ee : Nat, gc.e = (ee : Int) ∧ ee ≤ 3 := by
    have h9 := HMAY.out
    unfold Cfg.may at h9
    simp only [Bool.and_eq_true, inB_iff] at h9
    exact ⟨gc.e.toNat, by omega, by omega⟩
  have hC5 := HW4.out.2.2.1.turn (Turn.ofBelow hMO.go.ar.below) (fun e => Nat.lt_irrefl _ (Nat.lt_of_lt_of_le HW4.out.2.2.1.lt e))
  have hdr := (Below.refl w5.heap.size w5).drew
  have hC5d := hC5.turn (Turn.ofBelow hdr) (fun e => Nat.lt_irrefl _ (Nat.lt_of_lt_of_le hC5.lt e))
  have c8 : w5.drew.cell? ⟨cb, 8, none⟩ = some (.int .i64 gc.m) := hC5d.cell 8
  have hGd := hMO.go.ask hdr
  have cN := gm2_newC (E := fun _ => False) hGd hMO.P gc.m (fun _ h => h.elim) (by rw [hgm]; omega) hMO.tab hMO.tab.lt
  have hlcI : (L : Int) ≤ (cap : Int) := by omega
  have hcmI : (cap : Int) ≤ 9223372036854775807 := by omega
  have HC := Lib.hid (And.intro hC5d (And.intro hgl (And.intro hr64 (And.intro hge (And.intro hee (And.intro hgm (And.intro hm64 (And.intro hRL (show (m : Int) ≤ 4096 by omega)))))))))
  clear hMO hMP cM g0 g1 hL hn0 hC5 hC5d hgl hr64 hgm hm1 hm64 hge hee hg hlc hcm hcs hcell hRL hdr hGd
  go_wp2_with fail
  clear hl6
  go_region_held3 (fun W' => W'.cell? ⟨cb, 8, none⟩ = some (.int .i64 gc.m)) (first | exact hS7 | exact hS6 | exact c8)
    (first
      | (go_at_call 12; refine cN2.mono ?_; rintro e w7 ⟨T2, rfl, hB7, hGm⟩; have hS7 := (hB7.cell (p := ⟨cb, 8, none⟩) (World.block_lt_of_cell? _ _ hS6)).trans hS6)
      | (go_at_call 12; refine cN.mono ?_; rintro e w6 ⟨T, rfl, hB6, cN2⟩; have hS6 := (hB6.cell (p := ⟨cb, 8, none⟩) (World.block_lt_of_cell? _ _ c8)).trans c8))
  have hC7 := (HC.out.1.turn (Turn.ofBelow hB6) (fun e => Nat.lt_irrefl _ (Nat.lt_of_lt_of_le HC.out.1.lt e)))
  have hC7 := hC7.turn (Turn.ofBelow hB7) (fun e => Nat.lt_irrefl _ (Nat.lt_of_lt_of_le hC7.lt e))
  obtain ⟨tm, htm⟩ : ∃ tm, T.m = tm := ⟨_, rfl⟩
  obtain ⟨tm2, htm2⟩ : ∃ tm2, T2.m = tm2 := ⟨_, rfl⟩
  rw [htm, htm2]
  have k0 : w7.cell? ⟨cb, 0, none⟩ = some (.int .i64 gc.e) := hC7.cell 0
  have k1 : w7.cell? ⟨cb, 1, none⟩ = some (.bool gc.k) := hC7.cell 1
  have k2 : w7.cell? ⟨cb, 2, none⟩ = some (.int .i64 gc.p) := hC7.cell 2
  have k3 : w7.cell? ⟨cb, 3, none⟩ = some (.int .i64 gc.t) := hC7.cell 3
  have k4 : w7.cell? ⟨cb, 4, none⟩ = some (.int .i64 gc.r) := hC7.cell 4
  have k5 : w7.cell? ⟨cb, 5, none⟩ = some (.int .i64 gc.s) := hC7.cell 5
  have k6 : w7.cell? ⟨cb, 6, none⟩ = some (.int .i64 gc.g) := hC7.cell 6
  have k7 : w7.cell? ⟨cb, 7, none⟩ = some (.int .i64 gc.f) := hC7.cell 7
  have k8 : w7.cell? ⟨cb, 8, none⟩ = some (.int .i64 gc.m) := hC7.cell 8
  have k9 : w7.cell? ⟨cb, 9, none⟩ = some (.int .i64 gc.l) := hC7.cell 9
  have k10 : w7.cell? ⟨cb, 10, none⟩ = some (.int .i64 gc.b) := hC7.cell 10
  have cE := en_new (e := ee) (room := room) hGm.a htm gc HC.out.2.2.2.1 HC.out.2.2.2.2.1 HC.out.2.1 (by have := HC.out.2.2.1; omega)
  have HG := Lib.hid (And.intro hGm.b (And.intro hC7 htm2))
  clear cN cN2 c8 hS6 hS7 hB6 hB7 hGm hC7 htm htm2
  go_wp2_with fail
  refine cE.mono ?_
  rintro e w8 ⟨bt, H, rfl, h8, hB8⟩
  clear cE k0 k1 k2 k3 k4 k5 k6 k7 k8 k9 k10
  have hC8 := HG.out.2.1.turn (Turn.ofBelow hB8) (fun e => Nat.lt_irrefl _ (Nat.lt_of_lt_of_le HG.out.2.1.lt e))
  have k0 : w8.cell? ⟨cb, 0, none⟩ = some (.int .i64 gc.e) := hC8.cell 0
  have k9 : w8.cell? ⟨cb, 9, none⟩ = some (.int .i64 gc.l) := hC8.cell 9
  rw [HC.out.2.2.2.1] at k0
  rw [HC.out.2.1] at k9
  have hG8 : GmIn w4.heap.size mb n X s obs (.slice (some ⟨g, 0, none⟩) L cap) f (ptsAt obs) (fun k => False ∨ T.has k ∨ H k) T2 Col.white w4 w8 := (HG.out.1.ask hB8).reE fun k e => by
    rcases e with e | e | e
    · exact e.elim
    · exact ⟨fun e2 => (HG.out.1.own k e2).2.2 (.inr e), h8.gm.mt.lt k e⟩
    · exact ⟨fun e2 => (h8.own k e).2.2 (.inr e2), h8.en.lt k e⟩
  have cSt := st_new hG8
  rw [HG.out.2.2] at cSt
  have cDj := dj_new tm2 w8
  have cYu := yu_new tm2 w8
  have cVy := vy_new (room := room) hG8 HG.out.2.2 (room : Int) (by omega) (by have := HC.out.2.2.1; omega)
  have hee := HC.out.2.2.2.2.1
  have H8 := Lib.hid (And.intro h8 hG8)
  clear h8 hG8 hC8 hB8
  go_upto_block 0 with fail
  go_cut [14] (fun v14 wx => ∃ (bt2 : Nat) (H2 : Nat → Prop), v14 = enV ee bt2 ∧ En2 ee w4.heap.size mb n X s obs (.slice (some ⟨g, 0, none⟩) L cap) f (ptsAt obs) (fun _ => False) room T Col.white H bt tm EnS.none T2 Col.white H2 bt2 tm2 EnS.none w4 wx)
  case first =>
    rcases (show ee = 0 ∨ ee = 1 ∨ ee = 2 ∨ ee = 3 by omega) with rfl | rfl | rfl | rfl
    · go_wp2_with fail
      refine cSt.mono ?_
      rintro en w1 ⟨Z, rfl, h2, hB2⟩
      have HE := Lib.hid (En2.made (room := room) H8.out.1 (EnIn.ofSt (room := room) (σ := EnS.none) h2 rfl HG.out.2.2) hB2)
      clear cSt cDj cYu cVy k0 k9 h2 hB2
      go_wp2_with fail
      go_meet
      case rel => exact ⟨Z.t, Z.has, rfl, HE.out⟩
    · go_wp2_with fail
      refine cDj.mono ?_
      rintro en w1 ⟨rfl, rfl⟩
      obtain ⟨h2, h3, hB2⟩ := BrIn.fresh (K := djK) H8.out.2 HG.out.2.2
      have HE := Lib.hid (En2.made (room := room) H8.out.1 (EnIn.ofDj (room := room) (σ := EnS.none) h2 h3) hB2)
      clear cSt cDj cYu cVy k0 k9 h2 h3 hB2
      generalize w8.alloc (.cells (BrCells djK tm2) djK.t) = w9 at *
      generalize w8.heap.size = bt2 at *
      go_wp2_with fail
      go_meet
      case rel => exact ⟨_, _, rfl, HE.out⟩
    · go_wp2_with fail
      refine cYu.mono ?_
      rintro en w1 ⟨rfl, rfl⟩
      obtain ⟨h2, h3, hB2⟩ := BrIn.fresh (K := yuK) H8.out.2 HG.out.2.2
      have HE := Lib.hid (En2.made (room := room) H8.out.1 (EnIn.ofYu (room := room) (σ := EnS.none) h2 h3) hB2)
      clear cSt cDj cYu cVy k0 k9 h2 h3 hB2
      generalize w8.alloc (.cells (BrCells yuK tm2) yuK.t) = w9 at *
      generalize w8.heap.size = bt2 at *
      go_wp2_with fail
      go_meet
      case rel => exact ⟨_, _, rfl, HE.out⟩
    · go_wp2_with fail
      refine cVy.mono ?_
      rintro en w1 ⟨bt2, rfl, h2, hB2⟩
      obtain ⟨H2, h3⟩ := EnIn.ofVy (σ := EnS.none) h2
      have HE := Lib.hid (En2.made (room := room) H8.out.1 h3 hB2)
      clear cSt cDj cYu cVy k0 k9 h2 h3 hB2
      go_wp2_with fail
      go_meet
      case rel => exact ⟨_, _, rfl, HE.out⟩
  case rest =>
  obtain ⟨bt2, H2, rfl, hE2⟩ := hcut
  have HE2 := Lib.hid hE2
  clear cSt cDj cYu cVy k0 k9 H8 hE2 HG
  have hMp := enM_pre ee hee ⟨bt, 0, none⟩
  have hMp2 := enM_pre ee hee ⟨bt2, 0, none⟩
  have hCp := callE_pre ee hee
  have hMq := enM_post ee hee ⟨bt, 0, none⟩
  have hMq2 := enM_post ee hee ⟨bt2, 0, none⟩
  have hCq := callE_post ee hee
  have hMm := enM_remark ee hee ⟨bt, 0, none⟩
  have hMm2 := enM_remark ee hee ⟨bt2, 0, none⟩
  have hCm := callE_remark ee hee
  have hMr := enM_reset ee hee ⟨bt, 0, none⟩
  have hMr2 := enM_reset ee hee ⟨bt2, 0, none⟩
  have hCr := callE_reset ee hee
  have hMs := enM_rescans ee hee ⟨bt, 0, none⟩
  have hMs2 := enM_rescans ee hee ⟨bt2, 0, none⟩
  have hCs := callE_rescans ee hee
  have hNs := enN_rescans ee hee ⟨bt, 0, none⟩
  have hNs2 := enN_rescans ee hee ⟨bt2, 0, none⟩
  obtain ⟨tk, hTk⟩ : ∃ tk, enT ee = tk := ⟨_, rfl⟩
  unfold enV
  rw [hTk] at hMp hMp2 hMq hMq2 hMm hMm2 hMr hMr2 hMs hMs2 hNs hNs2 ⊢
  obtain ⟨fp, hfp⟩ : ∃ fp, enPre ee = fp := ⟨_, rfl⟩
  rw [hfp] at hMp hMp2 hCp
  obtain ⟨fq, hfq⟩ : ∃ fq, enPost ee = fq := ⟨_, rfl⟩
  rw [hfq] at hMq hMq2 hCq
  obtain ⟨fm, hfm⟩ : ∃ fm, enRemark ee = fm := ⟨_, rfl⟩
  rw [hfm] at hMm hMm2 hCm
  obtain ⟨fr, hfr⟩ : ∃ fr, enReset ee = fr := ⟨_, rfl⟩
  rw [hfr] at hMr hMr2 hCr
  obtain ⟨fs, hfs⟩ : ∃ fs, enRescans ee = fs := ⟨_, rfl⟩
  rw [hfs] at hMs hMs2 hCs
  have HN := Lib.hid (And.intro hTk (And.intro hfp (And.intro hfq (And.intro hfm (And.intro hfr (And.intro hfs hee))))))
  clear hTk hfp hfq hfm hfr hfs hee
  go_wp2_with fail
  go_loopw [79] (fun v79 W => ∃ (i : Nat) (T : MkB) (c : Col) (H : Nat → Prop) (σ : EnS) (T2 : MkB) (H2 : Nat → Prop), i ≤ n1 ∧ v79 = .int .i64 (i : Int) ∧ σ.lg ≤ i ∧ En2 ee w4.heap.size mb n X s obs (.slice (some ⟨g, 0, none⟩) L cap) f (ptsAt obs) (fun _ => False) room T c H bt tm σ T2 c H2 bt2 tm2 σ w4 W) (fun v79 _ => n1 - (intOf v79).toNat)
  case atStart => exact ⟨0, T, Col.white, H, EnS.none, T2, H2, Nat.zero_le _, rfl, Nat.le_refl _, HE2.out⟩
  case round =>
  clear HE2 T H T2 H2
  obtain ⟨i, T, c, H, σ, T2, H2, hi, rfl, hlg, h1⟩ := hrel
  have hi0 : (0 : Int) ≤ (i : Int) := by omega
  have hi60 : i ≤ 60 := by have := H40.out.2.2; omega
  by_cases hlt : i < n1
  · have hi1 : (i : Int) < (n1 : Int) := by omega
    have hB06 := HW4.out.1.trans (h1.a.gm.below.mono HW4.out.1.size)
    obtain ⟨bk, off, rfl, hbk, hcs⟩ := HA.out.2.2 i hlt
    have hd0 := (hB06.cell (p := ⟨bk, off + i * 4, none⟩) hbk).trans (hcs 0 (by decide)).1
    have hd1 := (hB06.cell (p := ⟨bk, off + i * 4 + 1, none⟩) hbk).trans (hcs 1 (by decide)).1
    have hd2 := (hB06.cell (p := ⟨bk, off + i * 4 + 2, none⟩) hbk).trans (hcs 2 (by decide)).1
    have hd3 := (hB06.cell (p := ⟨bk, off + i * 4 + 3, none⟩) hbk).trans (hcs 3 (by decide)).1
    obtain ⟨qa, hqa, hqa6⟩ := u8_natW (hcs 0 (by decide)).2
    obtain ⟨qb, hqb, hqb6⟩ := u8_natW (hcs 1 (by decide)).2
    obtain ⟨qc, hqc, hqc6⟩ := u8_natW (hcs 2 (by decide)).2
    obtain ⟨qd, hqd, hqd6⟩ := u8_natW (hcs 3 (by decide)).2
    rw [hqa] at hd0
    rw [hqb] at hd1
    rw [hqc] at hd2
    rw [hqd] at hd3
    have b1 := (Below.refl wr.heap.size wr).alloc (Nat.le_refl _) (.cells #[.int .u8 (qa : Int), .int .u8 (qb : Int), .int .u8 (qc : Int), .int .u8 (qd : Int)] 46)
    have h1a := h1.ask b1
    have hE0 := Blk.new wr #[.int .u8 (qa : Int), .int .u8 (qb : Int), .int .u8 (qc : Int), .int .u8 (qd : Int)] 46
    have hl6 := h1a.a.gm.go.row.lenRun 3
    rw [refsI_length, ← HL.out] at hl6
    have hx0 := hE0.cell 0
    have hx1 := hE0.cell 1
    have hx2 := hE0.cell 2
    simp only [List.getElem?_toArray, List.getElem?_cons_zero, List.getElem?_cons_succ] at hx0 hx1 hx2
    have HS := Lib.hid (And.intro h1a (And.intro hE0 hlg))
    have hlgx := hlg
    clear hqa hqb hqc hqd hcs h1 hbk hB06 b1 hlg hE0
    obtain ⟨ia, hta, hla, hwa⟩ := mod_run (L := L) hL0 hqa6
    obtain ⟨ib, htb, hlb, hwb⟩ := mod_run (L := L) hL0 hqb6
    obtain ⟨ic, htc, hlc, hwc⟩ := mod_run (L := L) hL0 hqc6
    have hin : ¬ (L : Int) = 0 := by omega
    have hlaI : (ia : Int) < (L : Int) := by omega
    have hlbI : (ib : Int) < (L : Int) := by omega
    have hlcI2 : (ic : Int) < (L : Int) := by omega
    have hla0 : (0 : Int) ≤ (ia : Int) := by omega
    have hlb0 : (0 : Int) ≤ (ib : Int) := by omega
    have hlc0 : (0 : Int) ≤ (ic : Int) := by omega
    obtain ⟨x, hx⟩ : ∃ x, obs[ia]? = some x := ⟨_, List.getElem?_eq_getElem (by have := HL.out; omega)⟩
    obtain ⟨y, hy⟩ : ∃ y, obs[ib]? = some y := ⟨_, List.getElem?_eq_getElem (by have := HL.out; omega)⟩
    obtain ⟨z, hz⟩ : ∃ z, obs[ic]? = some z := ⟨_, List.getElem?_eq_getElem (by have := HL.out; omega)⟩
    have hca := row_cellB h1a.a.gm.go.row (refsI_at hx)
    have hcb2 := row_cellB h1a.a.gm.go.row (refsI_at hy)
    have hcc := row_cellB h1a.a.gm.go.row (refsI_at hz)
    have hxR : (x.r : Int) ∈ refsI obs := List.mem_of_getElem? (refsI_at hx)
    have hyR : (y.r : Int) ∈ refsI obs := List.mem_of_getElem? (refsI_at hy)
    have hzR : (z.r : Int) ∈ refsI obs := List.mem_of_getElem? (refsI_at hz)
    have HY := Lib.hid (And.intro hxR (And.intro hyR hzR))
    clear hx hy hz hxR hyR hzR h1a
    go_wp2_with fail
    go_quiet (fail)
    have h2 := HS.out.1.ask (below_drewG _ nq)
    have hE2 := HS.out.2.1.drewN nq
    generalize (wr.alloc (.cells #[.int .u8 (qa : Int), .int .u8 (qb : Int), .int .u8 (qc : Int), .int .u8 (qd : Int)] 46)).drewN nq = V1 at *
    have hx3 := hE2.cell 3
    simp only [List.getElem?_toArray, List.getElem?_cons_zero, List.getElem?_cons_succ] at hx3
    obtain ⟨r7, hr7, hb7⟩ : ∃ r : Nat, r ≤ 7 ∧ bits .and .u8 (qd : Int) 7 = (r : Int) := u8_and_maskC (qd : Int) 7 (by decide)
    obtain ⟨r8, hr8, hb8⟩ : ∃ r : Nat, r ≤ 8 ∧ bits .and .u8 (qd : Int) 8 = (r : Int) := u8_and_maskC (qd : Int) 8 (by decide)
    obtain ⟨r16, hr16, hb16⟩ : ∃ r : Nat, r ≤ 16 ∧ bits .and .u8 (qd : Int) 16 = (r : Int) := u8_and_maskC (qd : Int) 16 (by decide)
    have H2' := Lib.hid (And.intro h2 hlgx)
    have hxb := HO.out.bd _ HY.out.1
    have hnb := HO.out.bd
    clear h2 hE2 hta htb htc hla hlb hlc hin hlaI hlbI hlcI2 hla0 hlb0 hlc0 hwa hwb hwc hca hcb2 hcc hx0 hx1 hx2 hd0 hd1 hd2 hd3 hl6 hlgx
    by_cases e0 : r7 = 0
    · have q0 : ((r7 : Int) == 0) = true := by simp [e0]
      have cA := H2'.out.1.a.gm.blacken (x.r : Int) HY.out.1 hxb.1 hxb.2
      rw [H2'.out.1.a.tm] at cA
      clear e0
      go_wp2_with fail
      refine cA.mono ?_
      rintro e V2 ⟨rfl, T3, hm3, hG3, hk3⟩
      obtain ⟨hw3, hk3'⟩ := H2'.out.1.a.went (hm3.trans rfl) hG3 hk3
      have h3 := H2'.out.1.stepA hw3 hk3'
      have cB := h3.b.gm.blacken (x.r : Int) HY.out.1 hxb.1 hxb.2
      rw [h3.b.tm] at cB
      have H3 := Lib.hid h3
      clear cA hm3 hG3 hk3 hw3 hk3' h3
      go_wp2_with fail
      refine cB.mono ?_
      rintro e V4 ⟨rfl, T4, hm4, hG4, hk4⟩
      obtain ⟨hw4, hk4'⟩ := H3.out.b.went (hm4.trans rfl) hG4 hk4
      have H4 := Lib.hid (H3.out.stepB hw4 hk4')
      clear cB hm4 hG4 hk4 hw4 hk4' q0 hb7 hb8 hb16 hx3
      go_wp2_with fail
      go_roundw
      case rel => exact ⟨i + 1, T3, _, H, σ, T4, H2, hlt, by go_num, Nat.le_succ_of_le H2'.out.2, H4.out⟩
      case measure => simp [intOf]; omega
    have q0 : ((r7 : Int) == 0) = false := by simp; omega
    by_cases e1 : r7 = 1
    · have q1 : ((r7 : Int) == 1) = true := by simp; omega
      have cA := H2'.out.1.a.pre HN.out.2.2.2.2.2.2 (x.r : Int) (y.r : Int) (.inl HY.out.2.1) hnb
      rw [HN.out.2.1] at cA
      clear e0 e1
      go_wp2_with fail
      refine cA.mono ?_
      rintro e V2 ⟨rfl, T3, H3h, hw3, hk3'⟩
      have h3 := H2'.out.1.stepA hw3 hk3'
      have cB := h3.b.pre HN.out.2.2.2.2.2.2 (x.r : Int) (y.r : Int) (.inl HY.out.2.1) hnb
      rw [HN.out.2.1] at cB
      have H3 := Lib.hid h3
      clear cA hw3 hk3' h3
      go_wp2_with fail
      refine cB.mono ?_
      rintro e V4 ⟨rfl, T4, H4h, hw4, hk4'⟩
      have H4 := Lib.hid (H3.out.stepB hw4 hk4')
      clear cB hw4 hk4' q0 q1 hb7 hb8 hb16 hx3
      go_wp2_with fail
      go_roundw
      case rel => exact ⟨i + 1, T3, _, H3h, σ, T4, H4h, hlt, by go_num, Nat.le_succ_of_le H2'.out.2, H4.out⟩
      case measure => simp [intOf]; omega
    have q1 : ((r7 : Int) == 1) = false := by simp; omega
    by_cases e2 : r7 = 2
    · have q2 : ((r7 : Int) == 2) = true := by simp; omega
      have cA := H2'.out.1.a.remark HN.out.2.2.2.2.2.2
      rw [HN.out.2.2.2.1] at cA
      clear e0 e1 e2
      go_wp2_with fail
      refine cA.mono ?_
      rintro e V2 ⟨rfl, T3, H3h, hw3, hk3'⟩
      have h3 := H2'.out.1.stepA hw3 hk3'
      have cB := h3.b.remark HN.out.2.2.2.2.2.2
      rw [HN.out.2.2.2.1] at cB
      have H3 := Lib.hid h3
      clear cA hw3 hk3' h3
      go_wp2_with fail
      refine cB.mono ?_
      rintro e V4 ⟨rfl, T4, H4h, hw4, hk4'⟩
      have H4 := Lib.hid (H3.out.stepB hw4 hk4')
      clear cB hw4 hk4' q0 q1 q2 hb7 hb8 hb16 hx3
      go_wp2_with fail
      go_roundw
      case rel => exact ⟨i + 1, T3, _, H3h, _, T4, H4h, hlt, by go_num, Nat.le_succ_of_le (remS_lg H2'.out.2), H4.out⟩
      case measure => simp [intOf]; omega
    have q2 : ((r7 : Int) == 2) = false := by simp; omega
    by_cases e3 : r7 = 3
    · have q3 : ((r7 : Int) == 3) = true := by simp; omega
      have cA := H2'.out.1.a.reset HN.out.2.2.2.2.2.2
      rw [HN.out.2.2.2.2.1] at cA
      clear e0 e1 e2 e3
      go_wp2_with fail
      refine cA.mono ?_
      rintro e V2 ⟨rfl, H3h, hw3, hk3'⟩
      have h3 := H2'.out.1.stepA hw3 hk3'
      have cB := h3.b.reset HN.out.2.2.2.2.2.2
      rw [HN.out.2.2.2.2.1] at cB
      have H3 := Lib.hid h3
      clear cA hw3 hk3' h3
      go_wp2_with fail
      refine cB.mono ?_
      rintro e V4 ⟨rfl, H4h, hw4, hk4'⟩
      have H4 := Lib.hid (H3.out.stepB hw4 hk4')
      clear cB hw4 hk4' q0 q1 q2 q3 hb7 hb8 hb16 hx3
      go_wp2_with fail
      go_roundw
      case rel => exact ⟨i + 1, T, c, H3h, _, T2, H4h, hlt, by go_num, Nat.le_succ_of_le (resetS_lg H2'.out.2), H4.out⟩
      case measure => simp [intOf]; omega
    have q3 : ((r7 : Int) == 3) = false := by simp; omega
    clear e0 e1 e2 e3
    obtain ⟨bp, hbp⟩ : ∃ bp, decide (0 < r8) = bp := ⟨_, rfl⟩
    obtain ⟨bq, hbq⟩ : ∃ bq, decide (0 < r16) = bq := ⟨_, rfl⟩
    have h3 := H2'.out.1.box (.cells #[.int .i64 (x.r : Int), .int .i64 (y.r : Int), .int .i64 (z.r : Int), .bool bp, .bool bq] 67)
    have hWb := Blk.new V1 #[.int .i64 (x.r : Int), .int .i64 (y.r : Int), .int .i64 (z.r : Int), .bool bp, .bool bq] 67
    have a0 := hWb.cell 0
    have a1 := hWb.cell 1
    have a2 := hWb.cell 2
    have a3 := hWb.cell 3
    have a4 := hWb.cell 4
    simp only [List.getElem?_toArray, List.getElem?_cons_zero, List.getElem?_cons_succ] at a0 a1 a2 a3 a4
    have cA := h3.a.post HN.out.2.2.2.2.2.2 (x.r : Int) (y.r : Int) (z.r : Int) bp bq (.inl HY.out.2.1) (.inl HY.out.2.2) hnb (by have := H2'.out.2; omega)
    rw [HN.out.2.2.1] at cA
    have H3 := Lib.hid (And.intro h3 hWb)
    clear h3 hWb
    go_wp2_with fail
    refine cA.mono ?_
    rintro e V2 ⟨rfl, T3, H3h, hw3, hk3'⟩
    have h4 := H3.out.1.stepA hw3 hk3'
    have hWb2 : Blk V2 V1.heap.size #[.int .i64 (x.r : Int), .int .i64 (y.r : Int), .int .i64 (z.r : Int), .bool bp, .bool bq] 67 := by
      have h9 := H3.out.2; unfold Blk at *; rw [hk3' _ (.inl (.inr rfl))]; exact h9
    clear a0 a1 a2 a3 a4
    have a0 := hWb2.cell 0
    have a1 := hWb2.cell 1
    have a2 := hWb2.cell 2
    have a3 := hWb2.cell 3
    have a4 := hWb2.cell 4
    simp only [List.getElem?_toArray, List.getElem?_cons_zero, List.getElem?_cons_succ] at a0 a1 a2 a3 a4
    have cB := h4.b.post HN.out.2.2.2.2.2.2 (x.r : Int) (y.r : Int) (z.r : Int) bp bq (.inl HY.out.2.1) (.inl HY.out.2.2) hnb (by have := H2'.out.2; omega)
    rw [HN.out.2.2.1] at cB
    have H4 := Lib.hid h4
    clear cA hw3 hk3' h4 hWb2
    go_wp2_with fail
    refine cB.mono ?_
    rintro e V4 ⟨rfl, T4, H4h, hw4, hk4'⟩
    have H5 := Lib.hid ((H4.out.stepB hw4 hk4').less (E' := fun _ => False) fun _ h => h.elim)
    clear cB hw4 hk4' q0 q1 q2 q3 hb7 hb8 hb16 hx3 a0 a1 a2 a3 a4 hbp hbq
    go_wp2_with fail
    go_roundw
    case rel => exact ⟨i + 1, T3, _, H3h, _, T4, H4h, hlt, by go_num, postS_lg H2'.out.2, H5.out⟩
    case measure => simp [intOf]; omega
  have hi1 : ¬ (i : Int) < (n1 : Int) := by omega
  obtain ⟨qs, hqs⟩ : ∃ qs, decide (ee ≠ 2) = qs := ⟨_, rfl⟩
  have hD := h1.ask (Below.refl _ wr).drew
  have hee := HN.out.2.2.2.2.2.2
  have cX1 := hD.a.rescans hee qs hqs
  rw [HN.out.2.2.2.2.2.1] at cX1
  have cX2 := hD.b.rescans hee qs hqs
  rw [HN.out.2.2.2.2.2.1] at cX2
  have hqq : (qs != qs) = false := by simp
  have h1L : (1 : Int) ≤ (L : Int) := by omega
  have h1c : (1 : Int) ≤ (cap : Int) := by omega
  have hRL := HC.out.2.2.2.2.2.2.2.1
  have hrow : ∀ W, RefRow W (.slice (some ⟨g, 0, none⟩) L cap) (refsI obs) → RefRow W (.slice (some ⟨g, 0, none⟩) 1 cap) ((refsI obs).take 1) := fun W h => by
    have h9 : RefRow W (.slice (some ⟨g, 0, none⟩) (refsI obs).length cap) (refsI obs) := by rw [hRL]; exact h
    exact RefRow.takes (L - 1) _ 1 (by omega) h9
  have hol : obs.length ≤ 4096 := by have := HL.out; have := H40.out.1; omega
  have cR1 := roots_any (some ⟨g, 0, none⟩) 1 cap wr.drew
  have HD := Lib.hid (And.intro hD (And.intro hrow (And.intro hol hee)))
  clear hlt hi hlg h1 hqs hD hrow hol hee hRL hMp hMp2 hCp hMq hMq2 hCq hMm hMm2 hCm hMr hMr2 hCr
  go_wp2_with fail
  go_region_held3 (fun W' => HeldT W') (first | exact hS5 | exact hS4 | exact hS3 | exact hS2 | exact (trivial : HeldT _))
    (first
      | (refine cX1.mono ?_; rintro e W7 ⟨rfl, rfl⟩; clear cX1)
      | (go_at_call 20; refine cF2.mono ?_; rintro e V5 ⟨T5, H5, l5, c5, rfl, hsc5, hdry5, h5⟩; have hsame := hsc3.same hdry3 hsc5 hdry5; have hll : ((l3.length : Int) != (l5.length : Int)) = false := (by rw [hsame.1]; simp); have hS5 : HeldT V5 := trivial; clear cF2)
      | (go_at_call 21; refine cR2.mono ?_; rintro e V4 ⟨rfl, hV4⟩; have cF2 := h3.symm.finish HD.out.2.2.2 HO.out.cl HD.out.2.2.1 ((refsI obs).take 1) (HD.out.2.1 _ h3.a.gm.go.row) (fun k e => e) (fun z hz => List.mem_of_mem_take hz) hV4; unfold enV at cF2; rw [HN.out.1] at cF2; have hS4 : HeldT V4 := trivial; clear cR2)
      | (go_at_call 20; refine cF1.mono ?_; rintro e V3 ⟨T3, H3, l3, c3, rfl, hsc3, hdry3, h3⟩; have cR2 := roots_any (some ⟨g, 0, none⟩) 1 cap V3; have hS3 : HeldT V3 := trivial; clear cF1)
      | (go_at_call 21; refine cR1.mono ?_; rintro e V2 ⟨rfl, hV2⟩; have cF1 := HD.out.1.finish HD.out.2.2.2 HO.out.cl HD.out.2.2.1 ((refsI obs).take 1) (HD.out.2.1 _ HD.out.1.a.gm.go.row) (fun k e => e) (fun z hz => List.mem_of_mem_take hz) hV2; unfold enV at cF1; rw [HN.out.1] at cF1; have hS2 : HeldT V2 := trivial; clear cR1)
      | (refine cX2.mono ?_; rintro e W7 ⟨rfl, rfl⟩; clear cX2))
  all_goals
    have HE := Lib.hid (And.intro h5.symm (And.intro hsame.2.1 hsame.2.2))
    have hl6 := h5.a.gm.go.row.lenRun 3
    rw [refsI_length, ← HL.out] at hl6
    clear hsc3 hsc5 hdry3 hdry5 h3 h5 hsame hS2 hS3 hS4 hS5 hV2 hV4 hll hMs hMs2 hCs hNs hNs2
    go_wp2_with fail
    clear hl6
    go_loopw [184] (fun v184 W => ∃ k : Nat, k ≤ L ∧ v184 = .int .i64 (k : Int) ∧ Below V5.heap.size V5 W) (fun v184 _ => L - (intOf v184).toNat)
    case atStart => exact ⟨0, Nat.zero_le _, rfl, Below.refl _ _⟩
    case round =>
    obtain ⟨k, hk, rfl, hBW⟩ := hrel
    have hk0 : (0 : Int) ≤ (k : Int) := by omega
    have hV := HE.out.1.ask hBW
    by_cases hlt3 : k < L
    · have hk1 : (k : Int) < (L : Int) := by omega
      obtain ⟨u, hu⟩ : ∃ u, obs[k]? = some u := ⟨_, List.getElem?_eq_getElem (by have := HL.out; omega)⟩
      have hca2 := row_cellB hV.a.gm.go.row (refsI_at hu)
      have cMa := hV.a.mkr.at_.marked (u.r : Int)
      obtain ⟨ba, hba⟩ : ∃ ba, c3.ma (u.r : Int) = ba := ⟨_, rfl⟩
      rw [hV.a.tm, hba] at cMa
      have hbb : (ba != ba) = false := by simp
      obtain ⟨bs, hbs⟩ : ∃ bs, c3.sc (u.r : Int) = bs := ⟨_, rfl⟩
      have hss : (bs != bs) = false := by simp
      have HB := Lib.hid (And.intro hBW (And.intro hV (And.intro hba hbs)))
      clear hu hV hBW hba hbs
      go_wp2_with fail
      refine cMa.mono ?_
      rintro e V6 ⟨rfl, hB6⟩
      have h6 := HB.out.2.1.ask hB6
      have cMb := h6.b.mkr.at_.marked (u.r : Int)
      rw [h6.b.tm, ← HE.out.2.1, HB.out.2.2.1] at cMb
      have H6 := Lib.hid (And.intro h6 (HB.out.1.trans (hB6.mono HB.out.1.size)))
      clear cMa hB6 h6 hca2
      go_wp2_with fail
      refine cMb.mono ?_
      rintro e V7 ⟨rfl, hB7⟩
      have h7 := H6.out.1.ask hB7
      have cSa := h7.a.mkr.at_.scanned (u.r : Int)
      rw [h7.a.tm, HB.out.2.2.2] at cSa
      have H7 := Lib.hid (And.intro h7 (H6.out.2.trans (hB7.mono H6.out.2.size)))
      clear cMb hB7 h7
      go_wp2_with fail
      refine cSa.mono ?_
      rintro e V8 ⟨rfl, hB8⟩
      have h8 := H7.out.1.ask hB8
      have cSb := h8.b.mkr.at_.scanned (u.r : Int)
      rw [h8.b.tm, ← HE.out.2.2, HB.out.2.2.2] at cSb
      have H8 := Lib.hid (H7.out.2.trans (hB8.mono H7.out.2.size))
      clear cSa hB8 h8
      go_wp2_with fail
      refine cSb.mono ?_
      rintro e V9 ⟨rfl, hB9⟩
      have H9 := Lib.hid (H8.out.trans (hB9.mono H8.out.size))
      clear cSb hB9
      go_wp2_with fail
      go_roundw
      case rel => exact ⟨k + 1, by omega, by go_num, H9.out⟩
      case measure => simp [intOf]; omega
    · have hk1 : ¬ (k : Int) < (L : Int) := by omega
      have HF := Lib.hid (HW4.out.1.trans (hV.a.gm.below.mono HW4.out.1.size))
      clear hlt3 hV hBW
      go_wp2_with fail
      go_ret
      exact ⟨rfl, HF.out⟩
/-- As the frame asks it. -/
theorem enalike_frame (b0 b1 b2 b3 b4 b5 : Nat) (hb6 : b0 ≤ 255 ∧ b1 ≤ 255 ∧ b2 ≤ 255 ∧ b3 ≤ 255 ∧ b4 ≤ 255 ∧ b5 ≤ 255) (a0 : Option Addr) (zs : List Int) (cf : Nat) (e0 : Option Addr) (ne ce : Nat) (Q : Nat → Nat → Int) (a1 : Option Addr) (n1 c1 : Nat) (Q1 : Nat → Nat → Int) (w : World) (hl : n1 ≤ 9223372036854775807)
    (hF : BytesW w a0 zs) (hE : EdgesW w e0 ne Q) (hP : FoursW w a1 n1 Q1) (hTb : TabAt w) (hT : TableAt w) :
    Calls Tryz.prog 4 #[.agg #[.int .u8 (b0 : Int), .int .u8 (b1 : Int), .int .u8 (b2 : Int), .int .u8 (b3 : Int), .int .u8 (b4 : Int), .int .u8 (b5 : Int)], .agg #[.slice a0 zs.length cf, .slice e0 ne ce], .slice a1 n1 c1] w fun e w' => e = .returned (.bool true) ∧ Below w.heap.size w w' := enalike_true b0 b1 b2 b3 b4 b5 hb6 a0 zs cf e0 ne ce Q a1 n1 c1 Q1 w hF hE hP ⟨hT, hTb⟩
end Go.Proofs.YtooddbhlanjfbaaGreatDoor
