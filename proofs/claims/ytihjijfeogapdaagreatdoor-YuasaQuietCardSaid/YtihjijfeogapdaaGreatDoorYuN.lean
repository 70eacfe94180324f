/- YuasaQuiet, walked, over the barrier's contracts; at this seat's numbers. -/
import Derived.Test.YtihjijfeogapdaaGreatDoorYuF
import Derived.Test.YtihjijfeogapdaaGreatDoorMrC
import Derived.Test.YtihjijfeogapdaaGreatDoorMrE
import Derived.Test.YtihjijfeogapdaaGreatDoorArgsM
import Derived.Deep.RegionHeld3
namespace Go.Proofs.YtihjijfeogapdaaGreatDoor
open Go Go.RowKit Go.Shelf Go.MuLone Go.RwLone
set_option linter.unusedSimpArgs false
set_option linter.unusedVariables false
attribute [local go_sem] Oper.semAt_some

set_option maxRecDepth 100000 in
set_option maxHeartbeats 16000000 in
theorem yquiet_true (a0 : Option Addr) (zs : List Int) (cf : Nat) (e0 : Option Addr) (ne ce : Nat) (Q : Nat → Nat → Int) (a1 : Option Addr) (n1 c1 : Nat) (Q1 : Nat → Nat → Int) (w : World)
    (hF : BytesW w a0 zs) (hE : EdgesW w e0 ne Q) (hP : PairsW w a1 n1 Q1) (hT : Tabs w) :
    Calls Tryz.prog 5 #[.agg #[.slice a0 zs.length cf, .slice e0 ne ce], .slice a1 n1 c1] w fun e w' => e = .returned (.bool true) ∧ Below w.heap.size w w' := by
  have HA := Lib.hid (And.intro hF (And.intro hE hP))
  clear hF hE hP
  go_enter Tryz.func5, Tryz.ntmps5
  go_wp2_with fail
  have hG := Blk.new w #[.slice a0 zs.length cf, .slice e0 ne ce] 25
  have hB0 := (Below.refl w.heap.size w).alloc (Nat.le_refl _) (.cells #[.slice a0 zs.length cf, .slice e0 ne ce] 25)
  have hT0 := hT.below hB0
  generalize w.alloc (.cells #[.slice a0 zs.length cf, .slice e0 ne ce] 25) = W0 at *
  refine (yufit_true W0 hT0).mono ?_
  rintro e w1 ⟨rfl, hB1⟩
  have hG1 := hG.turn (Turn.ofBelow hB1) (fun e => Nat.lt_irrefl _ (Nat.lt_of_lt_of_le hG.lt e))
  have hB01 := hB0.trans (hB1.mono hB0.size)
  have g0 := hG1.cell 0
  have g1 := hG1.cell 1
  simp only [List.getElem?_toArray, List.getElem?_cons_zero, List.getElem?_cons_succ] at g0 g1
  obtain ⟨q, hq⟩ : ∃ q, (decide (zs.length ≤ 40) && decide (ne ≤ 120)) = q := ⟨_, rfl⟩
  have cS := small_any a0 zs.length cf e0 ne ce w1 q hq
  have HW1 := Lib.hid (And.intro hG1 (And.intro hB01 (hT.below hB01)))
  clear hB0 hB1 hG hT0 hG1 hT hB01
  go_wp2_with fail
  refine cS.mono ?_
  rintro e w2 ⟨rfl, hB2⟩
  have hB02 := HW1.out.2.1.trans (hB2.mono HW1.out.2.1.size)
  clear cS g0 g1
  by_cases hsm : zs.length ≤ 40 ∧ ne ≤ 120 ∧ n1 ≤ 40
  case neg =>
    cases q with
    | false =>
      clear hsm hq
      go_wp2_with fail
      go_ret
      exact ⟨rfl, hB02⟩
    | true =>
      have h20 : 40 < (n1 : Int) := by
        have h1 : zs.length ≤ 40 := by simpa using (Bool.and_eq_true_iff.1 hq).1
        have h2 : ne ≤ 120 := by simpa using (Bool.and_eq_true_iff.1 hq).2
        have : ¬ n1 ≤ 40 := fun h3 => hsm ⟨h1, h2, h3⟩
        omega
      clear hsm hq
      go_wp2_with fail
      go_ret
      exact ⟨rfl, hB02⟩
  case pos =>
  obtain ⟨h40, h120, hn40⟩ := hsm
  have hqt : q = true := by rw [← hq, decide_eq_true h40, decide_eq_true h120]; rfl
  subst hqt
  have hn40I : ¬ 40 < (n1 : Int) := by omega
  have hG2 := HW1.out.1.turn (Turn.ofBelow hB2) (fun e => Nat.lt_irrefl _ (Nat.lt_of_lt_of_le HW1.out.1.lt e))
  have hT2 := HW1.out.2.2.below hB2
  have cM := made_any a0 zs cf e0 ne ce Q w2 h40 h120 (HA.out.1.under hB02 (Nat.le_refl _)) (HA.out.2.1.under hB02 (Nat.le_refl _)) hT2.c
  have HTB := Lib.hid hT2.b
  have g0 := hG2.cell 0
  have g1 := hG2.cell 1
  simp only [List.getElem?_toArray, List.getElem?_cons_zero, List.getElem?_cons_succ] at g0 g1
  have HW2 := Lib.hid hB02
  have H40 := Lib.hid (And.intro h40 hn40)
  clear hG2 hT2 hB02 hB2 HW1 hq h40 h120 hn40
  go_wp2_with fail
  refine cM.mono ?_
  rintro e w3 hMP
  obtain ⟨X, s, obs, vl, mb, n, f, rfl, hMO⟩ := hMP.ok HTB.out
  obtain ⟨L, hL⟩ : ∃ L, L = obs.length := ⟨_, rfl⟩
  have hLI : (L : Int) ≤ 40 := by have := hMO.len; have := H40.out.1; omega
  have cN := gm_new (E := fun _ => False) hMO.go hMO.P 4 (fun _ h => h.elim) (by omega) hMO.tab hMO.tab.lt
  have HO := Lib.hid hMO
  have HL := Lib.hid hL
  clear hMO hMP cM g0 g1 hL
  go_wp2_with fail
  refine cN.mono ?_
  rintro e w4 ⟨T, rfl, hGm, hB4⟩
  obtain ⟨tm, htm⟩ : ∃ tm, T.m = tm := ⟨_, rfl⟩
  rw [htm]
  have h5 := BrIn.made (t := yuK) hGm htm
  have cD := yu_new tm w4
  have H5 := Lib.hid (h5.less (E' := fun _ => False) (fun k e => e.elim))
  clear cN hB4 h5 hGm htm
  go_wp2_with fail
  refine cD.mono ?_
  rintro e w' ⟨rfl, rfl⟩
  have h5 := H5.out
  clear cD H5
  generalize w4.alloc (.cells (BrCells yuK tm) yuK.t) = w5 at *
  generalize w4.heap.size = bt at *
  go_wp2_with fail
  go_loopw [36] (fun v36 wr => ∃ (i : Nat) (T : MkB), i ≤ n1 ∧ v36 = .int .i64 (i : Int) ∧ BrIn yuK w2.heap.size mb n X s obs vl f (ptsAt obs) (fun _ => False) T Col.white bt tm w2 wr) (fun v36 _ => n1 - (intOf v36).toNat)
  case atStart => exact ⟨0, T, Nat.zero_le _, rfl, h5⟩
  case round =>
  clear h5
  obtain ⟨i, T, hi, rfl, h1⟩ := hrel
  have hi0 : (0 : Int) ≤ (i : Int) := by omega
  have hin1 : i ≤ 40 := by have := H40.out.2; omega
  have fin_ : ∀ W', BrIn yuK w2.heap.size mb n X s obs vl f (ptsAt obs) (fun _ => False) T Col.white bt tm w2 W' → Below w.heap.size w W' := fun W' h => HW2.out.trans (h.gm.below.mono HW2.out.size)
  have HFIN := Lib.hid fin_
  clear fin_
  by_cases hlt : i < n1
  · have hi1 : (i : Int) < (n1 : Int) := by omega
    have hB06 := HW2.out.trans (h1.gm.below.mono HW2.out.size)
    obtain ⟨bk, off, rfl, hbk, hcs⟩ := HA.out.2.2 i hlt
    have hd0 := (hB06.cell (p := ⟨bk, off + i * 2, none⟩) hbk).trans (hcs 0 (by decide)).1
    have hd1 := (hB06.cell (p := ⟨bk, off + i * 2 + 1, none⟩) hbk).trans (hcs 1 (by decide)).1
    obtain ⟨qa, hqa, hqa6⟩ := u8_natW (hcs 0 (by decide)).2
    obtain ⟨qb, hqb, hqb6⟩ := u8_natW (hcs 1 (by decide)).2
    rw [hqa] at hd0
    rw [hqb] at hd1
    have b1 := (Below.refl wr.heap.size wr).alloc (Nat.le_refl _) (.cells #[.int .u8 (qa : Int), .int .u8 (qb : Int)] 57)
    have h1a := h1.box (.cells #[.int .u8 (qa : Int), .int .u8 (qb : Int)] 57)
    have hE0 := Blk.new wr #[.int .u8 (qa : Int), .int .u8 (qb : Int)] 57
    have hl6 := h1a.gm.go.row.lenRun 3
    rw [refsI_length, ← HL.out] at hl6
    have hx0 := hE0.cell 0
    have hx1 := hE0.cell 1
    simp only [List.getElem?_toArray, List.getElem?_cons_zero, List.getElem?_cons_succ] at hx0 hx1
    have HS := Lib.hid (And.intro h1a hE0)
    clear hqa hqb hcs h1 hbk hB06 b1
    by_cases hn0 : L = 0
    · have hLz : ((L : Int) == 0) = true := by simp; omega
      clear hn0
      go_wp2_with fail
      clear hl6 hx0 hx1 hd0 hd1 hLz h1a hE0
      have hA := HS.out.1.less (E' := fun _ => False) (fun k e => e.elim)
      generalize (wr.alloc (.cells #[.int .u8 (qa : Int), .int .u8 (qb : Int)] 57)) = W at *
      have cC : Calls Tryz.prog 15 #[.pointer (some ⟨T.m, 0, none⟩)] W fun e w' => e = .returned (.int .i64 0) ∧ Below W.heap.size W w' := hA.gm.at_.count [] List.nodup_nil fun z => ⟨fun h => (by cases h), fun h => (by cases h)⟩
      rw [hA.tm] at cC
      refine cC.mono ?_
      rintro e V8 ⟨rfl, hB8⟩
      have hA8 := hA.ask hB8
      have cD := hA8.gm.at_.drained true ⟨fun _ z hz => (by cases hz), fun _ => rfl⟩
      rw [hA8.tm] at cD
      have H8 := Lib.hid hA8
      clear cC hB8 hA8 hA
      go_wp2_with fail
      refine cD.mono ?_
      rintro e V9 ⟨rfl, hB9⟩
      have hA9 := H8.out.ask hB9
      have cT := hA9.gm.trace HO.out.cl 9
      rw [hA9.tm] at cT
      clear cD hB9 hA9
      go_wp2_with fail
      refine cT.mono ?_
      rintro e V10 ⟨kk, T10, c10, l10, rfl, hlk, _, hG10, _, hsc10, _, _⟩
      have hk0 : kk = 0 := by
        cases hsc10 with
        | nil => rw [← hlk]; rfl
        | cons h1 _ _ => cases h1
      subst hk0
      have HF := Lib.hid (HW2.out.trans (hG10.below.mono HW2.out.size))
      clear cT hG10 hsc10 hlk
      go_wp2_with fail
      go_ret
      exact ⟨rfl, HF.out⟩
    · obtain ⟨ia, hia⟩ : ∃ ia, ia = qa % L := ⟨_, rfl⟩
      obtain ⟨ib, hib⟩ : ∃ ib, ib = qb % L := ⟨_, rfl⟩
      have hip : 0 < L := by omega
      have hta : (qa : Int).tmod (L : Int) = (ia : Int) := by rw [Int.tmod_eq_emod_of_nonneg (by omega), hia]; omega
      have htb : (qb : Int).tmod (L : Int) = (ib : Int) := by rw [Int.tmod_eq_emod_of_nonneg (by omega), hib]; omega
      have hla : ia < L := by rw [hia]; exact Nat.mod_lt _ hip
      have hlb : ib < L := by rw [hib]; exact Nat.mod_lt _ hip
      have hin : ¬ (L : Int) = 0 := by omega
      have hinb : ((L : Int) == 0) = false := by simp; omega
      have hlaI : (ia : Int) < (L : Int) := by omega
      have hlbI : (ib : Int) < (L : Int) := by omega
      have hla0 : (0 : Int) ≤ (ia : Int) := by omega
      have hlb0 : (0 : Int) ≤ (ib : Int) := by omega
      have hwa : IntKind.i64.wrap (qa : Int) = (qa : Int) := by simp [IntKind.wrap, IntKind.bits, IntKind.signed]; omega
      have hwb : IntKind.i64.wrap (qb : Int) = (qb : Int) := by simp [IntKind.wrap, IntKind.bits, IntKind.signed]; omega
      obtain ⟨x, hx⟩ : ∃ x, obs[ia]? = some x := ⟨_, List.getElem?_eq_getElem (by have := HL.out; omega)⟩
      obtain ⟨y, hy⟩ : ∃ y, obs[ib]? = some y := ⟨_, List.getElem?_eq_getElem (by have := HL.out; omega)⟩
      rcases h1a.gm.go.row.is with ⟨_, e⟩ | ⟨g, cap, cur, hv, hg, hlc, hcm, hcs, hcell⟩
      · have := congrArg List.length e; rw [refsI_length, ← HL.out] at this; simp at this; omega
      rw [refsI_length, ← HL.out] at hv
      have hca := hcell ia (by rw [refsI_length, ← HL.out]; exact hla)
      have hcb := hcell ib (by rw [refsI_length, ← HL.out]; exact hlb)
      rw [(List.getElem?_eq_some_iff.1 (refsI_at hx)).2] at hca
      rw [(List.getElem?_eq_some_iff.1 (refsI_at hy)).2] at hcb
      have hxR : (x.r : Int) ∈ refsI obs := List.mem_map.2 ⟨x, List.mem_of_getElem? hx, rfl⟩
      have hyR : (y.r : Int) ∈ refsI obs := List.mem_map.2 ⟨y, List.mem_of_getElem? hy, rfl⟩
      subst hv
      have HY := Lib.hid (And.intro hx (And.intro hy (And.intro hxR hyR)))
      clear hn0 hia hib hx hy hg hlc hcm hcs hcell hxR hyR
      clear h1a hE0 hl6
      go_wp2_with fail
      go_quiet (fail)
      have h2 := HS.out.1.ask (below_drewG _ nq)
      have hE2 := HS.out.2.drewN nq
      generalize (wr.alloc (.cells #[.int .u8 (qa : Int), .int .u8 (qb : Int)] 57)).drewN nq = V1 at *
      have cP := yu_pre h2 (x.r : Int) 0 (.inr rfl) HO.out.bd
      rw [Col.shadeZ_no] at cP
      have H2 := Lib.hid (And.intro h2 hE2)
      clear h2 hE2 hta htb hla hlb hin hinb hlaI hlbI hla0 hlb0 hwa hwb hca hcb hx0 hx1 hd0 hd1
      go_wp2_with fail
      refine cP.mono ?_
      rintro e V2 ⟨rfl, T2, h3, hk3⟩
      have hE3 : Blk V2 wr.heap.size #[.int .u8 (qa : Int), .int .u8 (qb : Int)] 57 := (hk3 _ (.inr rfl)).trans H2.out.2
      have hx0 := hE3.cell 0
      simp only [List.getElem?_toArray, List.getElem?_cons_zero, List.getElem?_cons_succ] at hx0
      have cQ := fun p => yu_post h3 (x.r : Int) 0 (y.r : Int) p false (.inr rfl) (.inl HY.out.2.2.2) HO.out.bd
      clear cP
      go_wp2_with fail
      refine (cQ _).mono ?_
      rintro e V3 ⟨rfl, T3, h4, _⟩
      rw [if_neg (by decide), Col.shadeZ_no, Col.shadeZ_no] at h4
      have cR := yu_post h4 (x.r : Int) 0 0 false true (.inr rfl) (.inr rfl) HO.out.bd
      rw [if_pos rfl, Col.shadeZ_no, Col.shadeZ_no] at cR
      clear cQ hx0 hE3 h3 hk3
      go_wp2_with fail
      refine cR.mono ?_
      rintro e V4 ⟨rfl, T4, h5, _⟩
      have H5 := Lib.hid (h5.less (E' := fun _ => False) (fun k e => e.elim))
      clear cR h4 h5
      go_wp2_with fail
      go_roundw
      case rel => exact ⟨i + 1, T4, hlt, by go_num, H5.out⟩
      case measure => simp [intOf]; omega
  · have hi1 : ¬ (i : Int) < (n1 : Int) := by omega
    clear hlt
    have hA := h1
    go_wp2_with fail
    generalize wr = W at *
    have cC : Calls Tryz.prog 15 #[.pointer (some ⟨T.m, 0, none⟩)] W fun e w' => e = .returned (.int .i64 0) ∧ Below W.heap.size W w' := hA.gm.at_.count [] List.nodup_nil fun z => ⟨fun h => (by cases h), fun h => (by cases h)⟩
    rw [hA.tm] at cC
    refine cC.mono ?_
    rintro e V8 ⟨rfl, hB8⟩
    have hA8 := hA.ask hB8
    have cD := hA8.gm.at_.drained true ⟨fun _ z hz => (by cases hz), fun _ => rfl⟩
    rw [hA8.tm] at cD
    have H8 := Lib.hid hA8
    clear cC hB8 hA8 hA
    go_wp2_with fail
    refine cD.mono ?_
    rintro e V9 ⟨rfl, hB9⟩
    have hA9 := H8.out.ask hB9
    have cT := hA9.gm.trace HO.out.cl 9
    rw [hA9.tm] at cT
    clear cD hB9 hA9
    go_wp2_with fail
    refine cT.mono ?_
    rintro e V10 ⟨kk, T10, c10, l10, rfl, hlk, _, hG10, _, hsc10, _, _⟩
    have hk0 : kk = 0 := by
      cases hsc10 with
      | nil => rw [← hlk]; rfl
      | cons h1 _ _ => cases h1
    subst hk0
    have HF := Lib.hid (HW2.out.trans (hG10.below.mono HW2.out.size))
    clear cT hG10 hsc10 hlk
    go_wp2_with fail
    go_ret
    exact ⟨rfl, HF.out⟩
/-- As the frame asks it. -/
theorem yquiet_frame (a0 : Option Addr) (zs : List Int) (cf : Nat) (e0 : Option Addr) (ne ce : Nat) (Q : Nat → Nat → Int) (a1 : Option Addr) (n1 c1 : Nat) (Q1 : Nat → Nat → Int) (w : World) (hl : n1 ≤ 9223372036854775807)
    (hF : BytesW w a0 zs) (hE : EdgesW w e0 ne Q) (hP : PairsW w a1 n1 Q1) (hTb : TabAt w) (hT : TableAt w) :
    Calls Tryz.prog 5 #[.agg #[.slice a0 zs.length cf, .slice e0 ne ce], .slice a1 n1 c1] w fun e w' => e = .returned (.bool true) ∧ Below w.heap.size w w' := yquiet_true a0 zs cf e0 ne ce Q a1 n1 c1 Q1 w hF hE hP ⟨hT, hTb⟩
end Go.Proofs.YtihjijfeogapdaaGreatDoor
