/- DijkstraRuns, walked, over the barrier's contracts; at this seat's numbers. -/
import Derived.Test.YtdgkgcfnddmofaaGreatDoorLDjF
import Derived.Test.YtdgkgcfnddmofaaGreatDoorLDjH
import Derived.Test.YtdgkgcfnddmofaaGreatDoorLMrC
import Derived.Test.YtdgkgcfnddmofaaGreatDoorLMrE
import Derived.Test.YtdgkgcfnddmofaaGreatDoorArgsM
import Derived.Deep.RegionHeld3
namespace Go.Proofs.YtdgkgcfnddmofaaGreatDoor
open Go Go.RowKit Go.Shelf Go.MuLone Go.RwLone
set_option linter.unusedSimpArgs false
set_option linter.unusedVariables false
attribute [local go_sem] Oper.semAt_some

set_option maxRecDepth 100000 in
set_option maxHeartbeats 16000000 in
theorem druns_true (a0 : Option Addr) (zs : List Int) (cf : Nat) (e0 : Option Addr) (ne ce : Nat) (Q : Nat → Nat → Int) (a2 : Option Addr) (us : List Int) (cu : Nat) (a1 : Option Addr) (n1 c1 : Nat) (Q1 : Nat → Nat → Int) (w : World)
    (hF : BytesW w a0 zs) (hE : EdgesW w e0 ne Q) (hU : BytesW w a2 us) (hP : PairsW w a1 n1 Q1) (hT : Tabs w) :
    Calls Tryz.prog 3 #[.agg #[.slice a0 zs.length cf, .slice e0 ne ce], .slice a2 us.length cu, .slice a1 n1 c1] w fun e w' => e = .returned (.bool true) ∧ Below w.heap.size w w' := by
  have HA := Lib.hid (And.intro hF (And.intro hE (And.intro hU hP)))
  clear hF hE hU hP
  go_enter Tryz.func3, Tryz.ntmps3
  go_wp2_with fail
  have hG := Blk.new w #[.slice a0 zs.length cf, .slice e0 ne ce] 25
  have hB0 := (Below.refl w.heap.size w).alloc (Nat.le_refl _) (.cells #[.slice a0 zs.length cf, .slice e0 ne ce] 25)
  have hT0 := hT.below hB0
  generalize w.alloc (.cells #[.slice a0 zs.length cf, .slice e0 ne ce] 25) = W0 at *
  refine (djfit_true W0 hT0).mono ?_
  rintro e w1 ⟨rfl, hB1⟩
  have hG1 := hG.turn (Turn.ofBelow hB1) (fun e => Nat.lt_irrefl _ (Nat.lt_of_lt_of_le hG.lt e))
  have hB01 := hB0.trans (hB1.mono hB0.size)
  have g0 := hG1.cell 0
  have g1 := hG1.cell 1
  simp only [List.getElem?_toArray, List.getElem?_cons_zero, List.getElem?_cons_succ] at g0 g1
  obtain ⟨q, hq⟩ : ∃ q, (decide (zs.length ≤ 40) && decide (ne ≤ 120)) = q := ⟨_, rfl⟩
  have cS := small_any a0 zs.length cf e0 ne ce w1 q hq
  have HW1 := Lib.hid (And.intro hG1 (And.intro hB01 (hT.below hB01)))
  clear hB0 hB1 hG hT0 hG1 hT hB01
  go_wp2_with fail
  refine cS.mono ?_
  rintro e w2 ⟨rfl, hB2⟩
  have hB02 := HW1.out.2.1.trans (hB2.mono HW1.out.2.1.size)
  clear cS g0 g1
  by_cases hsm : zs.length ≤ 40 ∧ ne ≤ 120 ∧ n1 ≤ 40
  case neg =>
    cases q with
    | false =>
      clear hsm hq
      go_wp2_with fail
      go_ret
      exact ⟨rfl, hB02⟩
    | true =>
      have h20 : 40 < (n1 : Int) := by
        have h1 : zs.length ≤ 40 := by simpa using (Bool.and_eq_true_iff.1 hq).1
        have h2 : ne ≤ 120 := by simpa using (Bool.and_eq_true_iff.1 hq).2
        have : ¬ n1 ≤ 40 := fun h3 => hsm ⟨h1, h2, h3⟩
        omega
      clear hsm hq
      go_wp2_with fail
      go_ret
      exact ⟨rfl, hB02⟩
  case pos =>
  obtain ⟨h40, h120, hn40⟩ := hsm
  have hqt : q = true := by rw [← hq, decide_eq_true h40, decide_eq_true h120]; rfl
  subst hqt
  have hn40I : ¬ 40 < (n1 : Int) := by omega
  have hG2 := HW1.out.1.turn (Turn.ofBelow hB2) (fun e => Nat.lt_irrefl _ (Nat.lt_of_lt_of_le HW1.out.1.lt e))
  have hT2 := HW1.out.2.2.below hB2
  have cM := made_any a0 zs cf e0 ne ce Q w2 h40 h120 (HA.out.1.under hB02 (Nat.le_refl _)) (HA.out.2.1.under hB02 (Nat.le_refl _)) hT2.c
  have HTB := Lib.hid hT2.b
  have g0 := hG2.cell 0
  have g1 := hG2.cell 1
  simp only [List.getElem?_toArray, List.getElem?_cons_zero, List.getElem?_cons_succ] at g0 g1
  have HW2 := Lib.hid hB02
  have H40 := Lib.hid (And.intro h40 hn40)
  clear hG2 hT2 hB02 hB2 HW1 hq h40 h120 hn40
  go_wp2_with fail
  refine cM.mono ?_
  rintro e w3 hMP
  obtain ⟨X, s, obs, vl, mb, n, f, rfl, hMO⟩ := hMP.ok HTB.out
  obtain ⟨L, hL⟩ : ∃ L, L = obs.length := ⟨_, rfl⟩
  have hLI : (L : Int) ≤ 40 := by have := hMO.len; have := H40.out.1; omega
  have cN := gm_new (E := fun _ => False) hMO.go hMO.P 64 (fun _ h => h.elim) (by omega) hMO.tab hMO.tab.lt
  have HO := Lib.hid hMO
  have HL := Lib.hid hL
  clear hMO hMP cM g0 g1 hL
  go_wp2_with fail
  refine cN.mono ?_
  rintro e w4 ⟨T, rfl, hGm, hB4⟩
  obtain ⟨tm, htm⟩ : ∃ tm, T.m = tm := ⟨_, rfl⟩
  rw [htm]
  have hmm := @run_makeMap Tryz.prog
  have h5 := HuA.made hGm
  have hl6 := h5.gm.go.row.lenRun 3
  rw [refsI_length, ← HL.out] at hl6
  have H5 := Lib.hid (And.intro h5 htm)
  clear cN hB4 h5 hGm htm
  go_wp2_with fail
  clear hmm hl6
  have h5 := H5.out
  clear H5
  generalize w4.alloc (.map #[] 0) = w5 at *
  generalize w4.heap.size = rb at *
  go_loopw [42] (fun v42 wr => ∃ (i : Nat) (hue : Int → Int) (T : MkB) (c : Col), i ≤ L ∧ v42 = .int .i64 (i : Int) ∧ HuA w2.heap.size mb n rb i X s obs vl f (ptsAt obs) (fun k => k = rb) w2 hue T c wr ∧ T.m = tm ∧ Hue (refsI obs) c hue ∧ Fro (refsI obs) i c) (fun v42 _ => L - (intOf v42).toNat)
  case atStart => exact ⟨0, _, T, Col.white, Nat.zero_le _, rfl, h5.1, h5.2, hue_white, fro_white _⟩
  case round =>
  clear h5
  obtain ⟨i, hue, T, c, hi, rfl, h1, htm, hhu, hfr⟩ := hrel
  have hi0 : (0 : Int) ≤ (i : Int) := by omega
  by_cases hlt : i < L
  · have hi1 : (i : Int) < (L : Int) := by omega
    have hi40 : i ≤ 40 := by omega
    obtain ⟨x, hx⟩ : ∃ x, obs[i]? = some x := ⟨_, List.getElem?_eq_getElem (by have := HL.out; omega)⟩
    rcases h1.gm.go.row.is with ⟨_, e⟩ | ⟨g, cap, cur, hv, hg, hlc, hcm, hcs, hcell⟩
    · have := congrArg List.length e; rw [refsI_length, ← HL.out] at this; simp at this; omega
    rw [refsI_length, ← HL.out] at hv
    have hca := hcell i (by rw [refsI_length, ← HL.out]; exact hlt)
    rw [(List.getElem?_eq_some_iff.1 (refsI_at hx)).2] at hca
    have hxR : (x.r : Int) ∈ refsI obs := List.mem_map.2 ⟨x, List.mem_of_getElem? hx, rfl⟩
    have hxb := HO.out.bd _ hxR
    have hwf : (Lit.int .i64 (x.r : Int)).wf = true := wf_ref hxb.1 hxb.2
    subst hv
    have HX := Lib.hid (And.intro hxR (And.intro hxb (And.intro hwf (And.intro htm (And.intro hhu (And.intro hi40 (And.intro hfr (refsI_at hx))))))))
    have H1 := Lib.hid h1
    have hB06 := HW2.out.trans (h1.gm.below.mono HW2.out.size)
    clear hx hg hlc hcm hcs hcell hxR hxb hwf htm hhu hfr hi40 h1
    by_cases hiu : i < us.length
    · have hiuI : (i : Int) < (us.length : Int) := by omega
      obtain ⟨bk, off, rfl, hbk, hcU, hwU⟩ := HA.out.2.2.1 i hiu
      have hd0 := (hB06.cell (p := ⟨bk, off + i, none⟩) hbk).trans hcU
      obtain ⟨z, hz, hz6⟩ := u8_natW hwU
      rw [hz] at hd0
      obtain ⟨m, hm⟩ : ∃ m, m = z % 3 := ⟨_, rfl⟩
      have hzt : (z : Int).tmod 3 = (m : Int) := by rw [Int.tmod_eq_emod_of_nonneg (by omega), hm]; omega
      have hm3 : m = 0 ∨ m = 1 ∨ m = 2 := by omega
      clear hbk hcU hwU hz hm hB06 hiu
      rcases hm3 with rfl | rfl | rfl
      · have hz0 : (z : Int).tmod 3 = 0 := hzt
        clear hzt
        go_wp2_with fail
        go_roundw
        case rel => exact ⟨i + 1, hue, T, c, hlt, by go_num, H1.out.up (by omega), HX.out.2.2.2.1, HX.out.2.2.2.2.1, HX.out.2.2.2.2.2.2.1.next HX.out.2.2.2.2.2.2.2⟩
        case measure => simp [intOf]; omega
      · have hz0 : (z : Int).tmod 3 = 1 := hzt
        have cS := H1.out.gm.shade (x.r : Int) HX.out.1 HX.out.2.1.1 HX.out.2.1.2
        rw [HX.out.2.2.2.1] at cS
        clear hzt
        go_wp2_with fail
        refine cS.mono ?_
        rintro e w6 ⟨rfl, T', hm', hG', hk'⟩
        have h6 := H1.out.went hG' (hk' rb rfl)
        obtain ⟨w7, hrun, h7, _⟩ := h6.put (by have := HX.out.2.2.2.2.2.1; omega) (x.r : Int) HX.out.2.2.1 1 (by decide)
        have hm'' : T'.m = tm := hm'
        have H7 := Lib.hid (And.intro h7 hm'')
        clear cS hm' hG' hk' h6 h7 hm'' hca hd0
        go_wp2_with (at_mapUpdate; refine wpList_mapUpdate_run _ rfl _ _ _ _ rfl _ _ _ rfl rfl rfl hrun ?_)
        go_roundw
        case rel => exact ⟨i + 1, _, T', _, hlt, by go_num, H7.out.1, H7.out.2, HX.out.2.2.2.2.2.2.1.hue HO.out.nd HX.out.2.2.2.2.2.2.2 HX.out.2.2.2.2.1, HX.out.2.2.2.2.2.2.1.put HX.out.2.2.2.2.2.2.2⟩
        case measure => simp [intOf]; omega
      · have hz0 : (z : Int).tmod 3 = 2 := hzt
        have cS := H1.out.gm.blacken (x.r : Int) HX.out.1 HX.out.2.1.1 HX.out.2.1.2
        rw [HX.out.2.2.2.1] at cS
        clear hzt
        go_wp2_with fail
        refine cS.mono ?_
        rintro e w6 ⟨rfl, T', hm', hG', hk'⟩
        have h6 := H1.out.went hG' (hk' rb rfl)
        obtain ⟨w7, hrun, h7, _⟩ := h6.put (by have := HX.out.2.2.2.2.2.1; omega) (x.r : Int) HX.out.2.2.1 2 (by decide)
        have hm'' : T'.m = tm := hm'
        have H7 := Lib.hid (And.intro h7 hm'')
        clear cS hm' hG' hk' h6 h7 hm'' hca hd0
        go_wp2_with (at_mapUpdate; refine wpList_mapUpdate_run _ rfl _ _ _ _ rfl _ _ _ rfl rfl rfl hrun ?_)
        go_roundw
        case rel => exact ⟨i + 1, _, T', _, hlt, by go_num, H7.out.1, H7.out.2, HX.out.2.2.2.2.1.black, HX.out.2.2.2.2.2.2.1.put HX.out.2.2.2.2.2.2.2⟩
        case measure => simp [intOf]; omega
    · have hiuI : ¬ (i : Int) < (us.length : Int) := by omega
      clear hiu hB06
      go_wp2_with fail
      go_roundw
      case rel => exact ⟨i + 1, hue, T, c, hlt, by go_num, H1.out.up (by omega), HX.out.2.2.2.1, HX.out.2.2.2.2.1, HX.out.2.2.2.2.2.2.1.next HX.out.2.2.2.2.2.2.2⟩
      case measure => simp [intOf]; omega
  · have hi1 : ¬ (i : Int) < (L : Int) := by omega
    obtain rfl : L = i := by omega
    have h2 := HuB.made (t := 73) h1 htm
    have cD := dj_new tm wr
    have H2 := Lib.hid (And.intro h2 hhu)
    clear hlt h1 htm hhu hfr h2 hi
    go_wp2_with fail
    refine cD.mono ?_
    rintro e w' ⟨rfl, rfl⟩
    have h2 := H2.out
    clear cD H2
    generalize wr.alloc (.cells (BrCells tm) 73) = w6 at *
    generalize wr.heap.size = bt at *
    go_wp2_with fail
    go_loopw [75] (fun v75 wr => ∃ (i : Nat) (hue : Int → Int) (T : MkB) (c : Col), i ≤ n1 ∧ v75 = .int .i64 (i : Int) ∧ HuB 73 w2.heap.size mb n rb (L + i) X s obs vl f (ptsAt obs) w2 hue T c bt tm wr ∧ Hue (refsI obs) c hue) (fun v75 _ => n1 - (intOf v75).toNat)
    case atStart => exact ⟨0, hue, T, c, Nat.zero_le _, rfl, h2.1, h2.2⟩
    case round =>
    clear h2 hue T c
    obtain ⟨i, hue, T, c, hi, rfl, h1, hhu⟩ := hrel
    have hi0 : (0 : Int) ≤ (i : Int) := by omega
    have hi40 : i ≤ 40 := by have := H40.out.2; omega
    by_cases hlt : i < n1
    · have hi1 : (i : Int) < (n1 : Int) := by omega
      have hB06 := HW2.out.trans (h1.br.gm.below.mono HW2.out.size)
      obtain ⟨bk, off, rfl, hbk, hcs⟩ := HA.out.2.2.2 i hlt
      have hd0 := (hB06.cell (p := ⟨bk, off + i * 2, none⟩) hbk).trans (hcs 0 (by decide)).1
      have hd1 := (hB06.cell (p := ⟨bk, off + i * 2 + 1, none⟩) hbk).trans (hcs 1 (by decide)).1
      obtain ⟨qa, hqa, hqa6⟩ := u8_natW (hcs 0 (by decide)).2
      obtain ⟨qb, hqb, hqb6⟩ := u8_natW (hcs 1 (by decide)).2
      rw [hqa] at hd0
      rw [hqb] at hd1
      have b1 := (Below.refl wr.heap.size wr).alloc (Nat.le_refl _) (.cells #[.int .u8 (qa : Int), .int .u8 (qb : Int)] 41)
      have h1a := h1.ask b1
      have hE0 := Blk.new wr #[.int .u8 (qa : Int), .int .u8 (qb : Int)] 41
      have hl6 := h1a.br.gm.go.row.lenRun 3
      rw [refsI_length, ← HL.out] at hl6
      have hx0 := hE0.cell 0
      have hx1 := hE0.cell 1
      simp only [List.getElem?_toArray, List.getElem?_cons_zero, List.getElem?_cons_succ] at hx0 hx1
      have HS := Lib.hid (And.intro h1a hE0)
      have HH := Lib.hid (And.intro hhu hi40)
      clear hqa hqb hcs h1 hbk hB06 b1 hhu hi40
      by_cases hn0 : L = 0
      · have hLz : ((L : Int) == 0) = true := by simp; omega
        have HN0 := Lib.hid hn0
        clear hn0
        go_wp2_with fail
        clear hx0 hx1 hd0 hd1 h1a hE0
        have hA := HS.out.1
        generalize (wr.alloc (.cells #[.int .u8 (qa : Int), .int .u8 (qb : Int)] 41)) = W at *
        have hub := HH.out.1
        have hq : L + i ≤ 100 := by have := HH.out.2; omega
        clear HS HH hlt hi1 hi0
        as_aux_lemma =>
          have cR := dj_remark bt W
          have cR2 := dj_reset bt W
          have hub2 := Lib.hid hub
          have HA3 := Lib.hid hA
          clear hub hA
          try go_wp2_with fail
          refine cR.mono ?_
          rintro e w' ⟨rfl, rfl⟩
          clear cR
          go_wp2_with fail
          refine cR2.mono ?_
          rintro e w' ⟨rfl, rfl⟩
          clear cR2
          go_wp2_with fail
          clear hl6
          go_loopw [135] (fun v135 V => ∃ k : Nat, k ≤ L ∧ v135 = .int .i64 (k : Int) ∧ Below W.heap.size W V) (fun v135 _ => L - (intOf v135).toNat)
          case atStart => exact ⟨0, Nat.zero_le _, rfl, Below.refl _ _⟩
          case round =>
          obtain ⟨k, hk, rfl, hBW⟩ := hrel
          have hk0 : (0 : Int) ≤ (k : Int) := by omega
          have hV := HA3.out.ask hBW
          by_cases hlt2 : k < L
          · exact absurd hlt2 (by have := HN0.out; omega)
          · have hk1 : ¬ (k : Int) < (L : Int) := by omega
            have HF := Lib.hid (HW2.out.trans (hV.br.gm.below.mono HW2.out.size))
            clear hlt2 hV hBW
            go_wp2_with fail
            go_ret
            exact ⟨rfl, HF.out⟩
      · obtain ⟨ia, hia⟩ : ∃ ia, ia = qa % L := ⟨_, rfl⟩
        obtain ⟨ib, hib⟩ : ∃ ib, ib = qb % L := ⟨_, rfl⟩
        have hip : 0 < L := by omega
        have hta : (qa : Int).tmod (L : Int) = (ia : Int) := by rw [Int.tmod_eq_emod_of_nonneg (by omega), hia]; omega
        have htb : (qb : Int).tmod (L : Int) = (ib : Int) := by rw [Int.tmod_eq_emod_of_nonneg (by omega), hib]; omega
        have hla : ia < L := by rw [hia]; exact Nat.mod_lt _ hip
        have hlb : ib < L := by rw [hib]; exact Nat.mod_lt _ hip
        have hin : ¬ (L : Int) = 0 := by omega
        have hinb : ((L : Int) == 0) = false := by simp; omega
        have hlaI : (ia : Int) < (L : Int) := by omega
        have hlbI : (ib : Int) < (L : Int) := by omega
        have hla0 : (0 : Int) ≤ (ia : Int) := by omega
        have hlb0 : (0 : Int) ≤ (ib : Int) := by omega
        have hwa : IntKind.i64.wrap (qa : Int) = (qa : Int) := by simp [IntKind.wrap, IntKind.bits, IntKind.signed]; omega
        have hwb : IntKind.i64.wrap (qb : Int) = (qb : Int) := by simp [IntKind.wrap, IntKind.bits, IntKind.signed]; omega
        obtain ⟨x, hx⟩ : ∃ x, obs[ia]? = some x := ⟨_, List.getElem?_eq_getElem (by have := HL.out; omega)⟩
        obtain ⟨y, hy⟩ : ∃ y, obs[ib]? = some y := ⟨_, List.getElem?_eq_getElem (by have := HL.out; omega)⟩
        rcases h1a.br.gm.go.row.is with ⟨_, e⟩ | ⟨g, cap, cur, hv, hg, hlc, hcm, hcs, hcell⟩
        · have := congrArg List.length e; rw [refsI_length, ← HL.out] at this; simp at this; omega
        rw [refsI_length, ← HL.out] at hv
        have hca := hcell ia (by rw [refsI_length, ← HL.out]; exact hla)
        have hcb := hcell ib (by rw [refsI_length, ← HL.out]; exact hlb)
        rw [(List.getElem?_eq_some_iff.1 (refsI_at hx)).2] at hca
        rw [(List.getElem?_eq_some_iff.1 (refsI_at hy)).2] at hcb
        have hxR : (x.r : Int) ∈ refsI obs := List.mem_map.2 ⟨x, List.mem_of_getElem? hx, rfl⟩
        have hyR : (y.r : Int) ∈ refsI obs := List.mem_map.2 ⟨y, List.mem_of_getElem? hy, rfl⟩
        subst hv
        have HY := Lib.hid (And.intro hx (And.intro hy (And.intro hxR hyR)))
        clear hn0 hia hib hx hy hg hlc hcm hcs hcell hxR hyR
        clear h1a hE0 hl6
        go_wp2_with fail
        go_quiet (fail)
        have h2 := HS.out.1.ask (below_drewG _ nq)
        have hE2 := HS.out.2.drewN nq
        generalize (wr.alloc (.cells #[.int .u8 (qa : Int), .int .u8 (qb : Int)] 41)).drewN nq = V1 at *
        have cP := dj_pre bt (x.r : Int) (y.r : Int) V1
        have H2 := Lib.hid (And.intro h2 hE2)
        clear h2 hE2 hta htb hla hlb hin hinb hlaI hlbI hla0 hlb0 hwa hwb hca hcb hx0 hx1 hd0 hd1
        go_wp2_with fail
        refine cP.mono ?_
        rintro e w' ⟨rfl, rfl⟩
        clear cP
        have hx0 := H2.out.2.cell 0
        have hx1 := H2.out.2.cell 1
        simp only [List.getElem?_toArray, List.getElem?_cons_zero, List.getElem?_cons_succ] at hx0 hx1
        have cQ := fun p q => dj_post H2.out.1.br (x.r : Int) (x.r : Int) (y.r : Int) p q (.inl HY.out.2.2.2) HO.out.bd
        go_wp2_with fail
        refine (cQ _ _).mono ?_
        rintro e V2 ⟨rfl, T2, h3, hk3⟩
        have hB3 := H2.out.1.went h3 (hk3 rb rfl)
        have cR := dj_post hB3.br 0 (x.r : Int) 0 false false (.inr rfl) HO.out.bd
        rw [Col.shadeZ_no] at cR
        have H3 := Lib.hid hB3
        clear cQ hx0 hx1 h3 hk3 hB3
        go_wp2_with fail
        refine cR.mono ?_
        rintro e V3 ⟨rfl, T3, h4, hk4⟩
        have hB4 := H3.out.went h4 (hk4 rb rfl)
        have hyb := HO.out.bd _ HY.out.2.2.2
        have hwf := wf_ref hyb.1 hyb.2
        obtain ⟨v, hv⟩ : ∃ v, hue (y.r : Int) = v := ⟨_, rfl⟩
        have hlk := hB4.look (y.r : Int) hwf v hv
        have hvr := HH.out.1.range HY.out.2.2.2
        rw [hv] at hvr
        have hHU := HH.out.1.shadeZ HY.out.2.2.2 (by omega) hv
        obtain ⟨w7, hrun, h7⟩ := hB4.put (by have := HH.out.2; omega) (y.r : Int) hwf (if v < 1 then 1 else v) (by split <;> simp [Lit.wf, IntKind.min, IntKind.max, IntKind.signed, IntKind.bits] <;> omega)
        have H7 := Lib.hid (And.intro h7 hHU)
        clear cR h4 hk4 hB4 h7 hHU hwf hyb
        by_cases hv0 : v = 0
        · subst hv0
          rw [if_pos (by decide)] at hrun
          clear hvr
          go_wp2_with (at_mapUpdate; refine wpList_mapUpdate_run _ rfl _ _ _ _ rfl _ _ _ rfl rfl rfl hrun ?_)
          go_roundw
          case rel => exact ⟨i + 1, _, T3, _, hlt, by go_num, H7.out.1, H7.out.2⟩
          case measure => simp [intOf]; omega
        · have hvm : (if v < 1 then 1 else v) = v := if_neg (by omega)
          rw [hvm] at hrun
          clear hvr
          go_wp2_with (at_mapUpdate; refine wpList_mapUpdate_run _ rfl _ _ _ _ rfl _ _ _ rfl rfl rfl hrun ?_)
          go_roundw
          case rel => exact ⟨i + 1, _, T3, _, hlt, by go_num, H7.out.1, H7.out.2⟩
          case measure => simp [intOf]; omega
    · have hi1 : ¬ (i : Int) < (n1 : Int) := by omega
      have hA := h1
      have hub := hhu
      have hq : L + i ≤ 100 := by omega
      have hl6 := h1.br.gm.go.row.lenRun 3
      rw [refsI_length, ← HL.out] at hl6
      clear hlt h1 hhu
      generalize wr = W at *
      go_wp2_with fail
      as_aux_lemma =>
        have cR := dj_remark bt W
        have cR2 := dj_reset bt W
        have hub2 := Lib.hid hub
        have HA3 := Lib.hid hA
        clear hub hA
        try go_wp2_with fail
        refine cR.mono ?_
        rintro e w' ⟨rfl, rfl⟩
        clear cR
        go_wp2_with fail
        refine cR2.mono ?_
        rintro e w' ⟨rfl, rfl⟩
        clear cR2
        go_wp2_with fail
        clear hl6
        go_loopw [135] (fun v135 V => ∃ k : Nat, k ≤ L ∧ v135 = .int .i64 (k : Int) ∧ Below W.heap.size W V) (fun v135 _ => L - (intOf v135).toNat)
        case atStart => exact ⟨0, Nat.zero_le _, rfl, Below.refl _ _⟩
        case round =>
        obtain ⟨k, hk, rfl, hBW⟩ := hrel
        have hk0 : (0 : Int) ≤ (k : Int) := by omega
        have hV := HA3.out.ask hBW
        by_cases hlt2 : k < L
        · have hk1 : (k : Int) < (L : Int) := by omega
          obtain ⟨y, hy⟩ : ∃ y, obs[k]? = some y := ⟨_, List.getElem?_eq_getElem (by have := HL.out; omega)⟩
          rcases hV.br.gm.go.row.is with ⟨_, e⟩ | ⟨g2, cap2, cur2, hv2, hg2, hlc2, hcm2, hcs2, hcell2⟩
          · have := congrArg List.length e; rw [refsI_length, ← HL.out] at this; simp at this; omega
          rw [refsI_length, ← HL.out] at hv2
          have hca2 := hcell2 k (by rw [refsI_length, ← HL.out]; exact hlt2)
          rw [(List.getElem?_eq_some_iff.1 (refsI_at hy)).2] at hca2
          subst hv2
          have hyR : (y.r : Int) ∈ refsI obs := List.mem_map.2 ⟨y, List.mem_of_getElem? hy, rfl⟩
          have hyb := HO.out.bd _ hyR
          have hwf2 : (Lit.int .i64 (y.r : Int)).wf = true := wf_ref hyb.1 hyb.2
          obtain ⟨v, hv⟩ : ∃ v, hue (y.r : Int) = v := ⟨_, rfl⟩
          have hvc : v = colV c (y.r : Int) := by rw [← hv]; exact hub2.out.is _ hyR
          have hsub := hub2.out.sub (y.r : Int)
          have hD := hV.ask (Below.refl _ _).drew
          have hlk := hD.look (y.r : Int) hwf2 v hv
          have cMa := hD.br.gm.at_.marked (y.r : Int)
          rw [hD.br.tm] at cMa
          unfold colV at hvc
          have HD := Lib.hid hD
          have HX := Lib.hid (And.intro hwf2 (And.intro hv hBW))
          clear hy hg2 hlc2 hcm2 hcs2 hcell2 hyR hyb hwf2 hV hD hBW
          cases hm : c.ma (y.r : Int) with
          | false =>
            have hs : c.sc (y.r : Int) = false := by cases h : c.sc (y.r : Int) with | false => rfl | true => rw [hsub h] at hm; cases hm
            rw [hm, hs] at hvc
            have hv0 : v = 0 := by simpa using hvc
            subst hv0
            rw [hm] at cMa
            have HMS := Lib.hid (And.intro hm hs)
            clear hm hs hsub hvc
            go_wp2_with fail
            go_region_held3 (fun W' => (Instr.lookup 35 (.map (some rb)) (.int .i64 (y.r : Int)) false).run Tryz.prog W' = .ok (.int .i64 0) W')
              (first | exact hS8 | exact hS7 | exact hlk)
              (first
                | (go_at_call 17; refine cMa.mono ?_; rintro e V1 ⟨rfl, hB1⟩; have hA1 := HD.out.ask hB1; have hS7 := hA1.look (y.r : Int) HX.out.1 0 HX.out.2.1; have cSc := hA1.br.gm.at_.scanned (y.r : Int); rw [hA1.br.tm, HMS.out.2] at cSc)
                | (go_at_call 18; refine cSc.mono ?_; rintro e V2 ⟨rfl, hB2⟩; have hA2 := hA1.ask hB2; have hS8 := hA2.look (y.r : Int) HX.out.1 0 HX.out.2.1))
            all_goals
              have HB2 := Lib.hid (HX.out.2.2.trans ((((Below.refl _ _).drew.trans (below_step hB1 hB2))).mono HX.out.2.2.size))
              clear cMa cSc hB1 hB2 hA1 hA2 hS7 hS8
              go_wp2_with fail
              go_roundw
              case rel => exact ⟨k + 1, by omega, by go_num, HB2.out⟩
              case measure => simp [intOf]; omega
          | true =>
            cases hs : c.sc (y.r : Int) with
            | false =>
              rw [hm, hs] at hvc
              have hv0 : v = 1 := by simpa using hvc
              subst hv0
              rw [hm] at cMa
              have HMS := Lib.hid (And.intro hm hs)
              clear hm hs hsub hvc
              go_wp2_with fail
              go_region_held3 (fun W' => (Instr.lookup 35 (.map (some rb)) (.int .i64 (y.r : Int)) false).run Tryz.prog W' = .ok (.int .i64 1) W')
                (first | exact hS8 | exact hS7 | exact hlk)
                (first
                  | (go_at_call 17; refine cMa.mono ?_; rintro e V1 ⟨rfl, hB1⟩; have hA1 := HD.out.ask hB1; have hS7 := hA1.look (y.r : Int) HX.out.1 1 HX.out.2.1; have cSc := hA1.br.gm.at_.scanned (y.r : Int); rw [hA1.br.tm, HMS.out.2] at cSc)
                  | (go_at_call 18; refine cSc.mono ?_; rintro e V2 ⟨rfl, hB2⟩; have hA2 := hA1.ask hB2; have hS8 := hA2.look (y.r : Int) HX.out.1 1 HX.out.2.1))
              all_goals
                have HB2 := Lib.hid (HX.out.2.2.trans ((((Below.refl _ _).drew.trans (below_step hB1 hB2))).mono HX.out.2.2.size))
                clear cMa cSc hB1 hB2 hA1 hA2 hS7 hS8
                go_wp2_with fail
                go_roundw
                case rel => exact ⟨k + 1, by omega, by go_num, HB2.out⟩
                case measure => simp [intOf]; omega
            | true =>
              rw [hm, hs] at hvc
              have hv0 : v = 2 := by simpa using hvc
              subst hv0
              rw [hm] at cMa
              have HMS := Lib.hid (And.intro hm hs)
              clear hm hs hsub hvc
              go_wp2_with fail
              go_region_held3 (fun W' => (Instr.lookup 35 (.map (some rb)) (.int .i64 (y.r : Int)) false).run Tryz.prog W' = .ok (.int .i64 2) W')
                (first | exact hS8 | exact hS7 | exact hlk)
                (first
                  | (go_at_call 17; refine cMa.mono ?_; rintro e V1 ⟨rfl, hB1⟩; have hA1 := HD.out.ask hB1; have hS7 := hA1.look (y.r : Int) HX.out.1 2 HX.out.2.1; have cSc := hA1.br.gm.at_.scanned (y.r : Int); rw [hA1.br.tm, HMS.out.2] at cSc)
                  | (go_at_call 18; refine cSc.mono ?_; rintro e V2 ⟨rfl, hB2⟩; have hA2 := hA1.ask hB2; have hS8 := hA2.look (y.r : Int) HX.out.1 2 HX.out.2.1))
              all_goals
                have HB2 := Lib.hid (HX.out.2.2.trans ((((Below.refl _ _).drew.trans (below_step hB1 hB2))).mono HX.out.2.2.size))
                clear cMa cSc hB1 hB2 hA1 hA2 hS7 hS8
                go_wp2_with fail
                go_roundw
                case rel => exact ⟨k + 1, by omega, by go_num, HB2.out⟩
                case measure => simp [intOf]; omega
        · have hk1 : ¬ (k : Int) < (L : Int) := by omega
          have HF := Lib.hid (HW2.out.trans (hV.br.gm.below.mono HW2.out.size))
          clear hlt2 hV hBW
          go_wp2_with fail
          go_ret
          exact ⟨rfl, HF.out⟩
/-- As the frame asks it. -/
theorem druns_frame (a0 : Option Addr) (zs : List Int) (cf : Nat) (e0 : Option Addr) (ne ce : Nat) (Q : Nat → Nat → Int) (a2 : Option Addr) (us : List Int) (cu : Nat) (a1 : Option Addr) (n1 c1 : Nat) (Q1 : Nat → Nat → Int) (w : World) (hl2 : us.length ≤ 9223372036854775807) (hl : n1 ≤ 9223372036854775807)
    (hF : BytesW w a0 zs) (hE : EdgesW w e0 ne Q) (hU : BytesW w a2 us) (hP : PairsW w a1 n1 Q1) (hT : TableAt w) :
    Calls Tryz.prog 3 #[.agg #[.slice a0 zs.length cf, .slice e0 ne ce], .slice a2 us.length cu, .slice a1 n1 c1] w fun e w' => e = .returned (.bool true) ∧ Below w.heap.size w w' := druns_true a0 zs cf e0 ne ce Q a2 us cu a1 n1 c1 Q1 w hF hE hU hP ⟨hT, trivial⟩
end Go.Proofs.YtdgkgcfnddmofaaGreatDoor
