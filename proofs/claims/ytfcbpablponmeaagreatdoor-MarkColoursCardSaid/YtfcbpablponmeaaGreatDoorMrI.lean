/- MarkColours, walked; at this seat's numbers. -/
import Derived.Test.YtfcbpablponmeaaGreatDoorMrH
import Derived.Test.YtfcbpablponmeaaGreatDoorArgsM
import Derived.Maps.OwnIn
namespace Go.Proofs.YtfcbpablponmeaaGreatDoor
open Go Go.RowKit Go.Shelf Go.MuLone Go.RwLone
set_option linter.unusedSimpArgs false
set_option linter.unusedVariables false
attribute [local go_sem] Oper.semAt_some

set_option maxRecDepth 100000 in
set_option maxHeartbeats 16000000 in
theorem mcolours_true (a0 : Option Addr) (zs : List Int) (cf : Nat) (e0 : Option Addr) (ne ce : Nat) (Q : Nat → Nat → Int) (a1 : Option Addr) (n1 c1 : Nat) (Q1 : Nat → Nat → Int) (w : World)
    (hF : BytesW w a0 zs) (hE : EdgesW w e0 ne Q) (hP : PairsW w a1 n1 Q1) (hT : Tabs w) :
    Calls Tryz.prog 4 #[.agg #[.slice a0 zs.length cf, .slice e0 ne ce], .slice a1 n1 c1] w fun e w' => e = .returned (.bool true) ∧ Below w.heap.size w w' := by
  have HA := Lib.hid (And.intro hF (And.intro hE hP))
  clear hF hE hP
  obtain ⟨M, hM6⟩ : ∃ M : Nat, 12 ≤ M := ⟨12, Nat.le_refl _⟩
  refine calls_of_wp_marks Tryz.func4 rfl M ?_
  simp only [Tryz.ntmps4, List.size_toArray, List.length_cons, List.length_nil, Nat.reduceAdd, Nat.reduceSub, Array.replicate_succ, Array.replicate_zero, List.push_toArray, List.append_toArray, List.nil_append, List.cons_append]
  gi_wp2_with fail
  refine ⟨trivial, fun h => (by cases h), ?_⟩
  have hs1 : (w.alloc (.cells #[.slice a0 zs.length cf, .slice e0 ne ce] 25)).heap.size = w.heap.size + 1 := by simp
  have hG0 := (Blk.new w #[.slice a0 zs.length cf, .slice e0 ne ce] 25).alloc (.cells #[.bool false] 4)
  have hR0 := Blk.new (w.alloc (.cells #[.slice a0 zs.length cf, .slice e0 ne ce] 25)) #[.bool false] 4
  have hBb := ((Below.refl w.heap.size w).alloc (Nat.le_refl _) (.cells #[.slice a0 zs.length cf, .slice e0 ne ce] 25)).alloc (by simp) (.cells #[.bool false] 4)
  have hTb := hT.below hBb
  have hs2 : ((w.alloc (.cells #[.slice a0 zs.length cf, .slice e0 ne ce] 25)).alloc (.cells #[.bool false] 4)).heap.size = w.heap.size + 2 := by simp
  rw [hs1] at hR0
  generalize (w.alloc (.cells #[.slice a0 zs.length cf, .slice e0 ne ce] 25)).alloc (.cells #[.bool false] 4) = W0 at *
  refine (callsIn_wide.2 (mkfit_true W0 hTb.c hTb.b)).mono ?_
  rintro e w1 ⟨rfl, hB1⟩
  have hG1 := hG0.turn (Turn.ofBelow hB1) (by omega)
  have hR1 := hR0.turn (Turn.ofBelow hB1) (by omega)
  have hB01 := hBb.trans (hB1.mono (by omega))
  have hz1 := hB1.size
  have g0 := hG1.cell 0
  have g1 := hG1.cell 1
  simp only [List.getElem?_toArray, List.getElem?_cons_zero, List.getElem?_cons_succ] at g0 g1
  obtain ⟨q, hq⟩ : ∃ q, (decide (zs.length ≤ 40) && decide (ne ≤ 120)) = q := ⟨_, rfl⟩
  have cS := small_any a0 zs.length cf e0 ne ce w1 q hq
  have HW1 := Lib.hid (And.intro hG1 (And.intro hR1 (And.intro hB01 (And.intro (hTb.below hB1) (show w.heap.size + 2 ≤ w1.heap.size by omega)))))
  clear hB1 hG0 hR0 hTb hG1 hR1 hT hB01 hBb hs1 hs2 hz1
  gi_wp2_with fail
  refine ⟨trivial, fun h => (by cases h), ?_⟩
  refine (callsIn_wide.2 cS).mono ?_
  rintro e w2 ⟨rfl, hB2⟩
  have hz2 := hB2.size
  have hB02 := HW1.out.2.2.1.trans (hB2.mono HW1.out.2.2.1.size)
  have hR2 := HW1.out.2.1.turn (Turn.ofBelow hB2) (by have := HW1.out.2.2.2.2; omega)
  clear cS g0 g1
  by_cases hsm : zs.length ≤ 40 ∧ ne ≤ 120 ∧ n1 ≤ 100
  case neg =>
    have hRc : w2.cell? ⟨w.heap.size + 1, 0, none⟩ = some (.bool false) := hR2.cell 0
    have hZc : w2.frozen? ⟨w.heap.size + 1, 0, none⟩ = false := hR2.free 0
    have hc := World.cell?_setCell_same w2 ⟨w.heap.size + 1, 0, none⟩ (.bool true) hRc
    have hfin := hB02.setCell (p := ⟨w.heap.size + 1, 0, none⟩) (by show w.heap.size ≤ w.heap.size + 1; omega) (.bool true)
    have HF := Lib.hid (And.intro hc hfin)
    clear hc hfin hB02 hR2 HW1
    cases q with
    | false =>
      clear hsm hq
      gi_wp2_with fail
      refine ⟨.bool true, ?_, rfl, HF.out.2⟩
      simp [results, Tryz.f4, go_sem, HF.out.1]
    | true =>
      have h100 : 100 < (n1 : Int) := by
        have h1 : zs.length ≤ 40 := by simpa using (Bool.and_eq_true_iff.1 hq).1
        have h2 : ne ≤ 120 := by simpa using (Bool.and_eq_true_iff.1 hq).2
        have : ¬ n1 ≤ 100 := fun h3 => hsm ⟨h1, h2, h3⟩
        omega
      clear hsm hq
      gi_wp2_with fail
      refine ⟨.bool true, ?_, rfl, HF.out.2⟩
      simp [results, Tryz.f4, go_sem, HF.out.1]
  case pos =>
  obtain ⟨h40, h120, h100⟩ := hsm
  have hqt : q = true := by rw [← hq, decide_eq_true h40, decide_eq_true h120]; rfl
  subst hqt
  have h100I : ¬ 100 < (n1 : Int) := by omega
  have hG2 := HW1.out.1.turn (Turn.ofBelow hB2) (by have := HW1.out.2.2.2.2; omega)
  have hT2 := HW1.out.2.2.2.1.below hB2
  have cM := made_any a0 zs cf e0 ne ce Q w2 h40 h120 (HA.out.1.under hB02 (Nat.le_refl _)) (HA.out.2.1.under hB02 (Nat.le_refl _)) hT2.c
  have HTB := Lib.hid hT2.b
  have g0 := hG2.cell 0
  have g1 := hG2.cell 1
  simp only [List.getElem?_toArray, List.getElem?_cons_zero, List.getElem?_cons_succ] at g0 g1
  have HW2 := Lib.hid (And.intro hB02 (And.intro hR2 (show w.heap.size + 2 ≤ w2.heap.size by have := HW1.out.2.2.2.2; omega)))
  have H40 := Lib.hid (And.intro h40 h100)
  clear hG2 hT2 hR2 hB02 hB2 HW1 hq h40 h120 h100 hz2
  gi_wp2_with fail
  refine ⟨trivial, fun h => (by cases h), ?_⟩
  refine (callsIn_wide.2 cM).mono ?_
  rintro e w3 hMP
  obtain ⟨X, s, obs, vl, mb, n, f, rfl, hMO⟩ := hMP.ok HTB.out
  have holI : (obs.length : Int) ≤ 40 := by have := hMO.len; have := H40.out.1; omega
  have cN := gm_new (E := fun _ => False) hMO.go hMO.P 64 (fun _ h => h.elim) (by omega) hMO.tab hMO.tab.lt
  have HO := Lib.hid hMO
  clear hMO hMP cM g0 g1
  gi_wp2_with fail
  refine ⟨trivial, fun h => (by cases h), ?_⟩
  refine (callsIn_wide.2 cN).mono ?_
  rintro e w4 ⟨T, rfl, hGm, hB4⟩
  obtain ⟨tm, htm⟩ : ∃ tm, T.m = tm := ⟨_, rfl⟩
  have c1' := hGm.shade0
  rw [htm] at c1'
  rw [htm]
  have HG := Lib.hid (And.intro hGm htm)
  clear hGm htm hB4 cN
  gi_wp2_with fail
  refine ⟨trivial, fun h => (by cases h), ?_⟩
  refine (callsIn_wide.2 c1').mono ?_
  rintro e w5 ⟨rfl, hB5⟩
  have hG5 := HG.out.1.ask hB5
  have c2' := hG5.regreyW 0
  rw [HG.out.2] at c2'
  clear c1' hB5 hG5
  gi_wp2_with fail
  refine ⟨trivial, fun h => (by cases h), ?_⟩
  refine (callsIn_wide.2 c2').mono ?_
  rintro e w6 ⟨rfl, T6, hm6, hG6, _⟩
  rw [Col.regrey_no (show Col.white.sc 0 = false from rfl)] at hG6
  have e1 : Col.white.sc 0 = false := rfl
  have htm6 : T6.m = tm := hm6
  have c3' := hG6.at_.marked 0
  rw [htm6, show Col.white.ma 0 = false from rfl] at c3'
  have HG6 := Lib.hid (And.intro hG6 htm6)
  clear c2' hm6 hG6 htm6 HG
  gi_wp2_with fail
  refine ⟨trivial, fun h => (by cases h), ?_⟩
  refine (callsIn_wide.2 c3').mono ?_
  rintro e w7 ⟨rfl, hB7⟩
  have hG7 := HG6.out.1.ask hB7
  have c4' : Calls Tryz.prog 21 #[.pointer (some ⟨T6.m, 0, none⟩)] w7 fun e w' => e = .returned (.int .i64 0) ∧ Below w7.heap.size w7 w' := hG7.at_.count [] List.nodup_nil fun z => ⟨fun h => (by cases h), fun h => (by cases h)⟩
  rw [HG6.out.2] at c4'
  have HG7 := Lib.hid (And.intro hG7 HG6.out.2)
  clear c3' hB7 hG7 HG6
  gi_wp2_with fail
  refine ⟨trivial, fun h => (by cases h), ?_⟩
  refine (callsIn_wide.2 c4').mono ?_
  rintro e w8 ⟨rfl, hB8⟩
  have hG8 := HG7.out.1.ask hB8
  have c5' := hG8.arena
  rw [HG7.out.2] at c5'
  have hne := neqArena X.a
  have HG8 := Lib.hid (And.intro hG8 HG7.out.2)
  clear c4' hB8 hG8 HG7
  gi_wp2_with fail
  refine ⟨trivial, fun h => (by cases h), ?_⟩
  refine (callsIn_wide.2 c5').mono ?_
  rintro e w9 ⟨rfl, rfl⟩
  have c6' := HG8.out.1.blacken0
  rw [HG8.out.2] at c6'
  clear c5'
  gi_wp2_with fail
  refine ⟨trivial, fun h => (by cases h), ?_⟩
  refine (callsIn_wide.2 c6').mono ?_
  rintro e w10 ⟨rfl, hB10⟩
  have hG10 := HG8.out.1.ask hB10
  have hM0 := MapIn.made w10
  obtain ⟨V, hV⟩ : ∃ V, V = (w10.alloc (.map #[] 0)).alloc (.cells #[.map (some w10.heap.size)] 38) := ⟨_, rfl⟩
  have hBV : Below w10.heap.size w10 V := by rw [hV]; exact ((Below.refl _ w10).alloc (Nat.le_refl _) _).alloc (by simp) _
  have hbx : Blk V (w10.heap.size + 1) #[.map (some w10.heap.size)] 38 := by
    have := Blk.new (w10.alloc (.map #[] 0)) #[.map (some w10.heap.size)] 38
    rw [World.size_alloc] at this
    rw [hV]; exact this
  have hMV : MapIn V w10.heap.size 0 (fun _ => 0) (fun _ => false) 0 := by rw [hV]; exact hM0.turn ((Turn.refl (fun _ => False) _).alloc _) (fun h => h)
  have hVs : V.heap.size = w10.heap.size + 2 := by rw [hV]; simp
  have h0 : McA w2.heap.size mb n w10.heap.size (w10.heap.size + 1) tm 0 X s obs vl f (ptsAt obs) w2 (fun _ => 0) T6 Col.white V :=
    ⟨hG10.watch hBV (fun k e => by
      rcases e with e | e
      · exact .inr ⟨by omega, by omega⟩
      · exact .inr ⟨by omega, by omega⟩), HG8.out.2, hbx, ⟨0, _, 0, Nat.le_refl _, hMV⟩, ⟨hG10.size, fun e => by have := hG10.go.lt _ e; omega⟩, hue_white⟩
  have H0 := Lib.hid h0
  have HV := Lib.hid hV
  have hmm := @run_makeMap Tryz.prog
  clear hG10 hB10 hM0 hBV hbx hMV hVs h0 hV c6' HG8 hne e1
  gi_wp2_with fail
  clear hmm
  rw [← HV.out]
  have h0 := H0.out
  clear HV H0
  generalize w10.heap.size + 1 = bx at *
  generalize w10.heap.size = rb at *
  obtain ⟨L, hL⟩ : ∃ L, L = obs.length := ⟨_, rfl⟩
  rw [← hL] at holI
  have HLL := Lib.hid hL
  clear hL
  gi_loopw [65] (fun v65 wr => ∃ (i : Nat) (hue : Int → Int) (T : MkB) (c : Col), i ≤ n1 ∧ v65 = .int .i64 (i : Int) ∧ McA w2.heap.size mb n rb bx tm i X s obs vl f (ptsAt obs) w2 hue T c wr) (fun v65 _ => n1 - (intOf v65).toNat)
  case atStart => exact ⟨0, _, T6, Col.white, Nat.zero_le _, rfl, h0⟩
  case round =>
  clear h0
  obtain ⟨i, hue, T, c, hi, rfl, h1⟩ := hrel
  have hi0 : (0 : Int) ≤ (i : Int) := by omega
  by_cases hlt : i < n1
  · have hi1 : (i : Int) < (n1 : Int) := by omega
    have hB06 := HW2.out.1.trans (h1.gm.below.mono HW2.out.1.size)
    obtain ⟨bk, off, rfl, hbk, hcs⟩ := HA.out.2.2 i hlt
    have hd0 := (hB06.cell (p := ⟨bk, off + i * 2, none⟩) hbk).trans (hcs 0 (by decide)).1
    have hd1 := (hB06.cell (p := ⟨bk, off + i * 2 + 1, none⟩) hbk).trans (hcs 1 (by decide)).1
    obtain ⟨qa, hqa, hqa6⟩ := u8_natW (hcs 0 (by decide)).2
    obtain ⟨qb, hqb, hqb6⟩ := u8_natW (hcs 1 (by decide)).2
    rw [hqa] at hd0
    rw [hqb] at hd1
    have b1 := (Below.refl wr.heap.size wr).alloc (Nat.le_refl _) (.cells #[.int .u8 (qa : Int), .int .u8 (qb : Int)] 26)
    have h1a := h1.ask b1
    have hE0 := Blk.new wr #[.int .u8 (qa : Int), .int .u8 (qb : Int)] 26
    have hl6 := h1a.gm.go.row.lenRun 3
    rw [refsI_length, ← HLL.out] at hl6
    have hx0 := hE0.cell 0
    have hx1 := hE0.cell 1
    simp only [List.getElem?_toArray, List.getElem?_cons_zero, List.getElem?_cons_succ] at hx0 hx1
    clear hqa hqb hcs h1 hbk hB06 b1
    have HS := Lib.hid (And.intro h1a hE0)
    clear h1a hE0
    by_cases hn0 : L = 0
    · have hLz : ((L : Int) == 0) = true := by simp; omega
      clear hn0
      gi_wp2_with fail
      clear hl6 hx0 hx1 hd0 hd1 hLz
      have hA := HS.out.1
      clear HS
      generalize (wr.alloc (.cells #[.int .u8 (qa : Int), .int .u8 (qb : Int)] 26)) = wt at *
      as_aux_lemma =>
        obtain ⟨R, hR⟩ : ∃ R, refsI obs = R := ⟨_, rfl⟩
        have hRL : R.length = L := by rw [← hR, refsI_length, HLL.out]
        have hbd : ∀ y ∈ R, 1 ≤ y ∧ y ≤ 2048 := hR ▸ HO.out.bd
        have hnd : R.Nodup := hR ▸ HO.out.nd
        have hhue : Hue R c hue := hR ▸ hA.hue
        have hinn : ∀ y, c.ma y = true → y ∈ R := hR ▸ hA.gm.inn
        have hwt : w2.heap.size ≤ wt.heap.size := hA.gm.size
        have HR := Lib.hid (And.intro hR (And.intro hRL (And.intro hbd (And.intro hnd (And.intro hhue hinn)))))
        have HA2 := Lib.hid hA
        clear hA hR hRL hbd hnd hhue hinn
        gi_loopw [13, 14, 135] (fun v13 v14 v135 W => ∃ k : Nat, k ≤ L ∧ v135 = .int .i64 (k : Int) ∧ v13 = .int .i64 (cntM c R k : Int) ∧ v14 = .bool (anyG c R k) ∧ Below wt.heap.size wt W) (fun _ _ v135 _ => L - (intOf v135).toNat)
        case atStart => exact ⟨0, Nat.zero_le _, rfl, by simp [cntM], by simp [anyG], Below.refl _ _⟩
        case round =>
        obtain ⟨k, hk, rfl, rfl, rfl, hBW⟩ := hrel
        have hA := HA2.out.ask hBW
        have hk0 : (0 : Int) ≤ (k : Int) := by omega
        have hcl := cntM_le c R k
        have hc0 : (0 : Int) ≤ (cntM c R k : Int) := by omega
        have hc40 : (cntM c R k : Int) ≤ 40 := by omega
        by_cases hlt2 : k < L
        · have hk1 : (k : Int) < (L : Int) := by omega
          obtain ⟨y, hy⟩ : ∃ y, obs[k]? = some y := ⟨_, List.getElem?_eq_getElem (by have := HLL.out; omega)⟩
          rcases hA.gm.go.row.is with ⟨_, e⟩ | ⟨g2, cap2, cur2, hv2, hg2, hlc2, hcm2, hcs2, hcell2⟩
          · have := congrArg List.length e; rw [refsI_length, ← HLL.out] at this; simp at this; omega
          rw [refsI_length, ← HLL.out] at hv2
          have hca2 := hcell2 k (by rw [refsI_length, ← HLL.out]; exact hlt2)
          rw [(List.getElem?_eq_some_iff.1 (refsI_at hy)).2] at hca2
          subst hv2
          have hyR : R[k]? = some (y.r : Int) := by rw [← HR.out.1]; exact refsI_at hy
          have hym : (y.r : Int) ∈ R := List.mem_of_getElem? hyR
          have hyb := HR.out.2.2.1 _ hym
          have hwf2 : (Lit.int .i64 (y.r : Int)).wf = true := wf_ref hyb.1 hyb.2
          obtain ⟨v, hv⟩ : ∃ v, hue (y.r : Int) = v := ⟨_, rfl⟩
          have hlk := hA.look (y.r : Int) hwf2 v hv
          have hcb := hA.cell
          have cMa := hA.gm.at_.marked (y.r : Int)
          rw [hA.tme] at cMa
          have hvc : v = colV c (y.r : Int) := by rw [← hv]; exact HR.out.2.2.2.2.1.is _ hym
          have hsub := HR.out.2.2.2.2.1.sub (y.r : Int)
          have han := anyG_next (c := c) hyR
          have hcy := cntM_yes (c := c) hyR
          have hcn := cntM_no (c := c) hyR
          have HHA := Lib.hid hA
          have HBW := Lib.hid hBW
          unfold colV at hvc
          unfold greyC at han
          clear hA hy hg2 hlc2 hcm2 hcs2 hcell2 hyR hym hyb hwf2 hv hBW
          generalize anyG c R k = b at *
          generalize hcc : cntM c R k = cc at *
          cases hm : c.ma (y.r : Int) with
          | false =>
            have hs : c.sc (y.r : Int) = false := by cases h : c.sc (y.r : Int) with | false => rfl | true => rw [hsub h] at hm; cases hm
            have hc2 := hcn hm
            rw [hm, hs] at hvc han
            rw [hm] at cMa
            have hv0 : v = 0 := by simpa using hvc
            subst hv0
            have HN := Lib.hid (And.intro hc2 (And.intro han (And.intro hm hs)))
            clear hvc han hcy hcn hm hs hsub hcc hc2
            gi_wp2_with fail
            refine ⟨trivial, fun h => (by cases h), ?_⟩
            refine (callsIn_wide.2 cMa).mono ?_
            rintro e V1 ⟨rfl, hB1⟩
            have hA1 := HHA.out.ask hB1
            have cSc := hA1.gm.at_.scanned (y.r : Int)
            rw [hA1.tme, HN.out.2.2.2] at cSc
            have HB1 := Lib.hid hB1
            clear cMa hB1 hA1 hlk hcb hca2
            gi_wp2_with fail
            refine ⟨trivial, fun h => (by cases h), ?_⟩
            refine (callsIn_wide.2 cSc).mono ?_
            rintro e V2 ⟨rfl, hB2⟩
            have HB2 := Lib.hid (HBW.out.trans ((below_step HB1.out hB2).mono HBW.out.size))
            clear cSc hB2
            cases b with
            | false =>
              gi_wp2_with fail
              go_roundw
              case rel => exact ⟨k + 1, hlt2, by go_num, by rw [HN.out.1] <;> go_num, by rw [HN.out.2.1]; rfl, HB2.out⟩
              case measure => simp [intOf]; omega
            | true =>
              gi_wp2_with fail
              go_roundw
              case rel => exact ⟨k + 1, hlt2, by go_num, by rw [HN.out.1] <;> go_num, by rw [HN.out.2.1]; rfl, HB2.out⟩
              case measure => simp [intOf]; omega
          | true =>
            have hc2 := hcy hm
            rw [hm] at cMa
            cases hs : c.sc (y.r : Int) with
            | false =>
              rw [hm, hs] at hvc han
              have hv0 : v = 1 := by simpa using hvc
              subst hv0
              have HN := Lib.hid (And.intro hc2 (And.intro han (And.intro hm hs)))
              clear hvc han hcy hcn hm hs hsub hcc hc2
              gi_wp2_with fail
              refine ⟨trivial, fun h => (by cases h), ?_⟩
              refine (callsIn_wide.2 cMa).mono ?_
              rintro e V1 ⟨rfl, hB1⟩
              have hA1 := HHA.out.ask hB1
              have cSc := hA1.gm.at_.scanned (y.r : Int)
              rw [hA1.tme, HN.out.2.2.2] at cSc
              have HB1 := Lib.hid hB1
              clear cMa hB1 hA1 hlk hcb hca2
              gi_wp2_with fail
              refine ⟨trivial, fun h => (by cases h), ?_⟩
              refine (callsIn_wide.2 cSc).mono ?_
              rintro e V2 ⟨rfl, hB2⟩
              have HB2 := Lib.hid (HBW.out.trans ((below_step HB1.out hB2).mono HBW.out.size))
              clear cSc hB2
              cases b with
              | false =>
                gi_wp2_with fail
                go_roundw
                case rel => exact ⟨k + 1, hlt2, by go_num, by rw [HN.out.1] <;> go_num, by rw [HN.out.2.1]; rfl, HB2.out⟩
                case measure => simp [intOf]; omega
              | true =>
                gi_wp2_with fail
                go_roundw
                case rel => exact ⟨k + 1, hlt2, by go_num, by rw [HN.out.1] <;> go_num, by rw [HN.out.2.1]; rfl, HB2.out⟩
                case measure => simp [intOf]; omega
            | true =>
              rw [hm, hs] at hvc han
              have hv0 : v = 2 := by simpa using hvc
              subst hv0
              have HN := Lib.hid (And.intro hc2 (And.intro han (And.intro hm hs)))
              clear hvc han hcy hcn hm hs hsub hcc hc2
              gi_wp2_with fail
              refine ⟨trivial, fun h => (by cases h), ?_⟩
              refine (callsIn_wide.2 cMa).mono ?_
              rintro e V1 ⟨rfl, hB1⟩
              have hA1 := HHA.out.ask hB1
              have cSc := hA1.gm.at_.scanned (y.r : Int)
              rw [hA1.tme, HN.out.2.2.2] at cSc
              have HB1 := Lib.hid hB1
              clear cMa hB1 hA1 hlk hcb hca2
              gi_wp2_with fail
              refine ⟨trivial, fun h => (by cases h), ?_⟩
              refine (callsIn_wide.2 cSc).mono ?_
              rintro e V2 ⟨rfl, hB2⟩
              have HB2 := Lib.hid (HBW.out.trans ((below_step HB1.out hB2).mono HBW.out.size))
              clear cSc hB2
              cases b with
              | false =>
                gi_wp2_with fail
                go_roundw
                case rel => exact ⟨k + 1, hlt2, by go_num, by rw [HN.out.1] <;> go_num, by rw [HN.out.2.1]; rfl, HB2.out⟩
                case measure => simp [intOf]; omega
              | true =>
                gi_wp2_with fail
                go_roundw
                case rel => exact ⟨k + 1, hlt2, by go_num, by rw [HN.out.1] <;> go_num, by rw [HN.out.2.1]; rfl, HB2.out⟩
                case measure => simp [intOf]; omega
        · have hk1 : ¬ (k : Int) < (L : Int) := by omega
          obtain rfl : L = k := by omega
          have hcell := hA.cell
          have HHA := Lib.hid hA
          have HBW := Lib.hid hBW
          obtain ⟨S1, S2, hSee⟩ := hA.gm.at_.sees
          have hTb := hA.gm.at_.side.tab
          have hwz : wt.heap.size ≤ wr.heap.size := hBW.size
          have hB1 := (Below.refl wr.heap.size wr).alloc (Nat.le_refl _) (.cells #[.int .i64 0] 3)
          have hB2 := hB1.alloc (by simp) (.cells #[.int .i64 0] 36)
          have hk18 := (Blk.new wr #[.int .i64 0] 3).alloc (.cells #[.int .i64 0] 36)
          have hk19 := Blk.new (wr.alloc (.cells #[.int .i64 0] 3)) #[.int .i64 0] 36
          rw [World.size_alloc] at hk19
          have hs6 : ((wr.alloc (.cells #[.int .i64 0] 3)).alloc (.cells #[.int .i64 0] 36)).heap.size = wr.heap.size + 2 := by simp
          have hSee6 := hSee.below hB2
          have hTb6 := hTb.below hB2
          have HS6 := Lib.hid (And.intro hs6 (And.intro hk18 hk19))
          clear hs6 hk18 hk19 hB1 hA hBW hcell
          gi_wp2_with fail
          refine ⟨trivial, fun h => (by cases h), ?_⟩
          have hs6 := HS6.out.1
          have hk18 := HS6.out.2.1
          have hk19 := HS6.out.2.2
          clear HS6
          generalize (wr.alloc (.cells #[.int .i64 0] 3)).alloc (.cells #[.int .i64 0] 36) = V6 at *
          refine (callsIn_wide.2 (allm_any tm V6)).mono ?_
          rintro e w' ⟨rfl, rfl⟩
          obtain ⟨e0, e1, hB7, hs7⟩ := toldW_facts tm 15 V6
          have hSee7 := hSee6.below hB7
          have hTb7 := hTb6.below hB7
          have hk18' := hk18.turn (Turn.ofBelow hB7) (fun e => by omega)
          have hk19' := hk19.turn (Turn.ofBelow hB7) (fun e => by omega)
          have hB07 := hB2.trans (hB7.mono (by omega))
          have HX7 := Lib.hid (And.intro e0 (And.intro e1 (And.intro hs6 hs7)))
          clear e0 e1 hs6 hs7 hB7 hSee6 hTb6 hk18 hk19 hB2
          gi_wp2_with fail
          obtain ⟨e0, e1, hs6, hs7⟩ := HX7.out
          generalize toldWorld tm 15 V6 = V7 at *
          rw [← HHA.out.tme] at e0
          have hlt7 := hSee7.lt
          have hXlt7 := hSee7.ar.lt
          have hTlt7 := hTb7.lt
          have hltW := hSee.lt
          have hXltW := hSee.ar.lt
          have hTltW := hTb.lt
          have hw2 : w.heap.size + 2 ≤ w2.heap.size := HW2.out.2.2
          have HSZ := Lib.hid (And.intro hs6 hs7)
          generalize hx0 : wr.heap.size = x0 at *
          generalize hx6 : V6.heap.size = x6 at *
          clear hs6 hs7 HX7
          refine wpIn_rangeO rfl (by omega) (gf := 70) (lb := #[.pointer (some ⟨x6, 0, none⟩), .pointer (some ⟨x6 + 1, 0, none⟩)]) rfl trivial (enters_of Tryz.func70 (by kernel_rfl) rfl)
            (told_seq (M - 1) (by omega) 15 c.ma asks_marked (enters_of Tryz.func15 (by kernel_rfl) rfl) hSee7.maS x6 V7 hSee7 hTb7 e0 e1) KpMk.trans
            (fun V l o hl => KpMk.putObj (n0 := V7.heap.size) hlt7 hXlt7 (by have := HSZ.out; omega) (by omega) V l o hl) (Below.refl _ _) (fun _ => rfl)
            (fun st V => Blk V x0 #[.int .i64 (st.1.length : Int)] 3 ∧ Blk V (x0 + 1) #[.int .i64 (lastN st.1 : Int)] 36 ∧ Below x0 wr V ∧ V7.heap.size ≤ V.heap.size)
            (fun c' st V => c' = .ret ∧ Falls st.1)
            (fun st V V' row hs hg hr => ⟨hs.1.kept hg (fun r e => (hr r e).2), hs.2.1.kept hg (fun r e => (hr r e).2), (ownFrom_below (β := Unit) (by omega) (by have := HSZ.out; omega)) () V V' row hs.2.2.1 hg hr, Nat.le_trans hs.2.2.2 hg.size⟩)
            (fun c' st V V' row hs hg hr => hs)
            ⟨hk18', hk19', hB07, Nat.le_refl _⟩ ?a1E ?assignE ?bodyE ?doneE ?stopE
          case assignE =>
            intro l0 z W' K hK
            unfold tmArgs
            gi_wp2
            exact hK
          case bodyE =>
            rintro l0 pre O z V ⟨hk18, hk19, hBV, hVs⟩ hpl
            have c18 := hk18.cell 0
            have z18 := hk18.free 0
            have c19 := hk19.cell 0
            have z19 := hk19.free 0
            simp only [List.getElem?_toArray, List.getElem?_cons_zero] at c18 c19
            have hAV := HHA.out.ask (by rw [hx0]; exact hBV)
            have hcb := hAV.cell
            have hzR := HR.out.2.2.2.2.2 _ z.2.2
            have hzb := HR.out.2.2.1 _ hzR
            have hwf3 : (Lit.int .i64 ((z.1.val : Nat) : Int)).wf = true := wf_ref hzb.1 hzb.2
            obtain ⟨v, hv⟩ : ∃ v, hue ((z.1.val : Nat) : Int) = v := ⟨_, rfl⟩
            have hlk := hAV.look _ hwf3 v hv
            have hv0 : (v == 0) = false := by
              have h1 := HR.out.2.2.2.2.1.zero hzR
              rw [hv, z.2.2] at h1
              have h2 : ¬ v = 0 := of_decide_eq_false (by simpa using h1)
              simp [h2]
            have hpl2 : (pre.length : Int) ≤ 4096 := by have := hSee7.s1.1; omega
            have hp0 : (0 : Int) ≤ (pre.length : Int) := by omega
            by_cases hle : z.1.val ≤ lastN pre
            · have hleI : ((z.1.val : Nat) : Int) ≤ ((lastN pre : Nat) : Int) := by omega
              have hbad : Falls (pre ++ [z]) := falls_of (by omega) hle
              have hRb : V.cell? ⟨w.heap.size + 1, 0, none⟩ = some (.bool false) := ((HW2.out.2.1.turn (Turn.ofBelow hAV.gm.below) (by have := HW2.out.2.1.lt; omega)).cell 0)
              have hRz : V.frozen? ⟨w.heap.size + 1, 0, none⟩ = false := ((HW2.out.2.1.turn (Turn.ofBelow hAV.gm.below) (by have := HW2.out.2.1.lt; omega)).free 0)
              have hO : Owned V7.heap.size O O V (V.setCell ⟨w.heap.size + 1, 0, none⟩ (.bool false)) := Owned.ofTurn ((Turn.refl (fun k => k = w.heap.size + 1) V).set _ _ (.inr rfl)) (fun k e => by have := HSZ.out; omega)
              have HB := Lib.hid (And.intro hO hbad)
              clear hO hbad hAV hk18 hk19 hBV hv hzR hzb hwf3
              gi_wp2_with fail
              exact ⟨O, HB.out.1, rfl, HB.out.2⟩
            · have hleI : ¬ ((z.1.val : Nat) : Int) ≤ ((lastN pre : Nat) : Int) := by omega
              have hltI : ((lastN pre : Nat) : Int) < ((z.1.val : Nat) : Int) := by omega
              have hTn : Turn (fun k => k = x0 ∨ k = x0 + 1) V ((V.setCell ⟨x0 + 1, 0, none⟩ (.int .i64 ((z.1.val : Nat) : Int))).setCell ⟨x0, 0, none⟩ (.int .i64 ((pre.length : Int) + 1))) := ((Turn.refl _ V).set _ _ (.inr (.inr rfl))).set _ _ (.inr (.inl rfl))
              have hkp : KpMk T X x6 V ((V.setCell ⟨x0 + 1, 0, none⟩ (.int .i64 ((z.1.val : Nat) : Int))).setCell ⟨x0, 0, none⟩ (.int .i64 ((pre.length : Int) + 1))) := KpMk.ofTurn hTn (fun k hk => ⟨by have := hlt7 k hk; omega, fun e => by have := hltW k hk; omega⟩) (fun k hk => ⟨by have := hXlt7 k hk; omega, fun e => by have := hXltW k hk; omega⟩) (by have := HSZ.out; omega) (by have := HSZ.out; omega) (by have := HSZ.out; omega) (by omega) (by omega)
              have hb2 := (hBV.setCell (p := ⟨x0 + 1, 0, none⟩) (by show x0 ≤ x0 + 1; omega) (.int .i64 ((z.1.val : Nat) : Int))).setCell (p := ⟨x0, 0, none⟩) (Nat.le_refl _) (.int .i64 ((pre.length : Int) + 1))
              have h18 : Blk ((V.setCell ⟨x0 + 1, 0, none⟩ (.int .i64 ((z.1.val : Nat) : Int))).setCell ⟨x0, 0, none⟩ (.int .i64 ((pre.length : Int) + 1))) x0 #[.int .i64 ((pre ++ [z]).length : Int)] 3 := by
                refine ((hk18.setOther ⟨x0 + 1, 0, none⟩ _ (by show x0 ≠ x0 + 1; omega)).setAt 0 _).is ?_
                have e : (((pre ++ [z]).length : Nat) : Int) = (pre.length : Int) + 1 := by simp
                rw [e]; simp
              have h19 : Blk ((V.setCell ⟨x0 + 1, 0, none⟩ (.int .i64 ((z.1.val : Nat) : Int))).setCell ⟨x0, 0, none⟩ (.int .i64 ((pre.length : Int) + 1))) (x0 + 1) #[.int .i64 (lastN (pre ++ [z]) : Int)] 36 := by
                refine ((hk19.setAt 0 (.int .i64 ((z.1.val : Nat) : Int))).setOther ⟨x0, 0, none⟩ _ (by show x0 + 1 ≠ x0; omega)).is ?_
                rw [lastN_snoc]; simp
              have c18' : (V.setCell ⟨x0 + 1, 0, none⟩ (.int .i64 ((z.1.val : Nat) : Int))).cell? ⟨x0, 0, none⟩ = some (.int .i64 (pre.length : Int)) := (hk18.setOther ⟨x0 + 1, 0, none⟩ _ (by show x0 ≠ x0 + 1; omega)).cell 0
              have z18' : (V.setCell ⟨x0 + 1, 0, none⟩ (.int .i64 ((z.1.val : Nat) : Int))).frozen? ⟨x0, 0, none⟩ = false := (hk18.setOther ⟨x0 + 1, 0, none⟩ _ (by show x0 ≠ x0 + 1; omega)).free 0
              have hO : Owned V7.heap.size O O V ((V.setCell ⟨x0 + 1, 0, none⟩ (.int .i64 ((z.1.val : Nat) : Int))).setCell ⟨x0, 0, none⟩ (.int .i64 ((pre.length : Int) + 1))) := Owned.ofTurn hTn (fun k e => by have := HSZ.out; omega)
              have HG := Lib.hid (And.intro hO (And.intro hkp (And.intro h18 (And.intro h19 (And.intro hb2 (show V7.heap.size ≤ ((V.setCell ⟨x0 + 1, 0, none⟩ (.int .i64 ((z.1.val : Nat) : Int))).setCell ⟨x0, 0, none⟩ (.int .i64 ((pre.length : Int) + 1))).heap.size by simpa using hVs))))))
              clear hO hkp h18 h19 hb2 hTn hAV hk18 hk19 hBV hv hzR hzb hwf3
              gi_wp2_with fail
              exact ⟨O, HG.out⟩
          case doneE =>
            rintro D xs O V hD hxs ⟨hk18, hk19, hBV, hVs⟩ hDf
            have c18 := hk18.cell 0
            simp only [List.getElem?_toArray, List.getElem?_cons_zero] at c18
            have hAV := HHA.out.ask (by rw [hx0]; exact hBV)
            have hcnt : cntM c R L = (R.filter c.ma).length := by rw [← HR.out.2.1]; exact cntM_all c R
            have cC := hAV.gm.at_.count (R.filter c.ma) (HR.out.2.2.2.1.filter _) (fun y => by
              rw [List.mem_filter]
              exact ⟨fun h => h.2, fun h => ⟨HR.out.2.2.2.2.2 y h, h⟩⟩)
            rw [hAV.tme, ← hcnt] at cC
            have hxl : xs.length = cntM c R L := by
              have h1 := congrArg List.length (show tmVals xs = soL c.ma (elems S1 T.n) from hxs)
              rw [tmVals_length] at h1
              rw [h1, hcnt]
              have h2 : (ints (soL c.ma (elems S1 T.n))).length = (soL c.ma (elems S1 T.n)).length := by unfold ints; rw [List.length_map]
              rw [← h2]
              refine same_length ?_ (HR.out.2.2.2.1.filter _) fun y => ?_
              · unfold ints
                exact List.pairwise_map.2 ((soL_nodup _ _ _).imp fun {a b} hab e => hab (by omega))
              · rw [List.mem_filter]
                constructor
                · intro hy
                  obtain ⟨n', hn', rfl⟩ := List.mem_map.1 hy
                  have hm := (soL_mem hSee7.maS hSee7.s1.2.1 n').1 hn'
                  exact ⟨HR.out.2.2.2.2.2 _ hm, hm⟩
                · rintro ⟨_, hm⟩
                  obtain ⟨n', rfl⟩ := hSee7.nonneg hm
                  exact List.mem_map.2 ⟨n', (soL_mem hSee7.maS hSee7.s1.2.1 n').2 hm, rfl⟩
            rw [hxl] at c18
            have hDV := (Array.getElem?_eq_some_iff.mp hDf).1
            have HAV := Lib.hid (And.intro hAV (And.intro hBV hDf))
            have hdry := anyG_dry (c := c) (R := R) HR.out.2.2.2.2.2
            rw [HR.out.2.1] at hdry
            have HDR := Lib.hid hdry
            clear hAV hBV hk18 hk19 hxs hcnt hxl hDf hdry
            gi_wp2_with fail
            refine ⟨trivial, fun h => (by cases h), ?_⟩
            refine (callsIn_wide.2 cC).mono ?_
            rintro e V8 ⟨rfl, hB8⟩
            have hA8 := HAV.out.1.ask hB8
            have c18' := (hB8.cell (p := ⟨x0, 0, none⟩) (World.block_lt_of_cell? V _ c18)).trans c18
            obtain ⟨b, hb⟩ : ∃ b, anyG c R L = b := ⟨_, rfl⟩
            have cD := hA8.gm.at_.drained (!b) (by rw [← hb]; exact HDR.out)
            rw [hA8.tme] at cD
            rw [hb]
            have HB8 := Lib.hid hB8
            clear cC c18 hB8 hA8 hb
            gi_wp2_with fail
            refine ⟨trivial, fun h => (by cases h), ?_⟩
            refine (callsIn_wide.2 cD).mono ?_
            rintro e V9 ⟨rfl, hB9⟩
            have hB89 := below_step HB8.out hB9
            have hA9 := HAV.out.1.ask hB89
            have hfin := HW2.out.1.trans (hA9.gm.below.mono HW2.out.1.size)
            have hR7 := HW2.out.2.1.turn (Turn.ofBelow hA9.gm.below) (by have := HW2.out.2.1.lt; omega)
            have hZc : V9.frozen? ⟨w.heap.size + 1, 0, none⟩ = false := hR7.free 0
            have hRc : V9.cell? ⟨w.heap.size + 1, 0, none⟩ = some (.bool false) := hR7.cell 0
            have hR9 := World.cell?_setCell_same V9 ⟨w.heap.size + 1, 0, none⟩ (.bool true) hRc
            have hBF := hfin.setCell (p := ⟨w.heap.size + 1, 0, none⟩) (by show w.heap.size ≤ w.heap.size + 1; omega) (.bool true)
            have hD9 : V9.heap[D]? = some (.deferred (some [])) := (hB89.block D hDV).trans HAV.out.2.2
            have hD10 : (V9.setCell ⟨w.heap.size + 1, 0, none⟩ (.bool true)).heap[D]? = some (.deferred (some [])) := (Below.heap_setCell _ _ _ _ (fun e => by have e2 : D = w.heap.size + 1 := e; have := HSZ.out; omega)).trans hD9
            have hs10 : (V9.setCell ⟨w.heap.size + 1, 0, none⟩ (.bool true)).heap.size = V9.heap.size := by simp
            have hDl : D < V9.heap.size := (Array.getElem?_eq_some_iff.mp hD9).1
            have hR9l : w.heap.size + 1 < V9.heap.size := World.block_lt_of_cell? _ _ hRc
            have HH := Lib.hid (And.intro hR9 (And.intro hBF (And.intro hD10 hs10)))
            clear hA9 hfin hR7 hR9 hBF hD9 hD10 hs10 hB89 hB9 cD c18'
            cases b with
            | false =>
              gi_wp2_with fail
              obtain ⟨hR9, hBF, hD10, hs10⟩ := HH.out
              generalize V9.setCell ⟨w.heap.size + 1, 0, none⟩ (.bool true) = V10 at *
              refine leavesP_marks (B := w2.heap.size) (hi := D + 1) ⟨D, rfl, by have := HSZ.out; omega, by omega, hD10, trivial⟩ (by omega) fun w' hb' _ hcs => ?_
              have hRF := hcs ⟨w.heap.size + 1, 0, none⟩ _ (by show w.heap.size + 1 < _; omega) hR9
              refine ⟨.bool true, ?_, rfl, hBF.trans (hb'.mono (by omega))⟩
              simp [results, Tryz.f4, go_sem, hRF]
            | true =>
              gi_wp2_with fail
              obtain ⟨hR9, hBF, hD10, hs10⟩ := HH.out
              generalize V9.setCell ⟨w.heap.size + 1, 0, none⟩ (.bool true) = V10 at *
              refine leavesP_marks (B := w2.heap.size) (hi := D + 1) ⟨D, rfl, by have := HSZ.out; omega, by omega, hD10, trivial⟩ (by omega) fun w' hb' _ hcs => ?_
              have hRF := hcs ⟨w.heap.size + 1, 0, none⟩ _ (by show w.heap.size + 1 < _; omega) hR9
              refine ⟨.bool true, ?_, rfl, hBF.trans (hb'.mono (by omega))⟩
              simp [results, Tryz.f4, go_sem, hRF]
          case stopE =>
            rintro D c' pre O V hD ⟨j, hj⟩ ⟨_, hbad⟩ _
            exact absurd hbad (falls_not hj)
    · obtain ⟨ia, hia⟩ : ∃ ia, ia = qa % L := ⟨_, rfl⟩
      have hip : 0 < L := by omega
      have hta : (qa : Int).tmod (L : Int) = (ia : Int) := by rw [Int.tmod_eq_emod_of_nonneg (by omega), hia]; omega
      have hla : ia < L := by rw [hia]; exact Nat.mod_lt _ hip
      have hin : ¬ (L : Int) = 0 := by omega
      have hinb : ((L : Int) == 0) = false := by simp; omega
      have hlaI : (ia : Int) < (L : Int) := by omega
      have hla0 : (0 : Int) ≤ (ia : Int) := by omega
      have hwa : IntKind.i64.wrap (qa : Int) = (qa : Int) := by simp [IntKind.wrap, IntKind.bits, IntKind.signed]; omega
      obtain ⟨x, hx⟩ : ∃ x, obs[ia]? = some x := ⟨_, List.getElem?_eq_getElem (by have := HLL.out; omega)⟩
      have h1a := HS.out.1
      rcases h1a.gm.go.row.is with ⟨_, e⟩ | ⟨g, cap, cur, hv, hg, hlc, hcm, hcs, hcell⟩
      · have := congrArg List.length e; rw [refsI_length, ← HLL.out] at this; simp at this; omega
      rw [refsI_length, ← HLL.out] at hv
      have hca := hcell ia (by rw [refsI_length, ← HLL.out]; exact hla)
      rw [(List.getElem?_eq_some_iff.1 (refsI_at hx)).2] at hca
      subst hv
      have hxR : (x.r : Int) ∈ refsI obs := List.mem_map.2 ⟨x, List.mem_of_getElem? hx, rfl⟩
      have hxb := HO.out.bd _ hxR
      have hwf : (Lit.int .i64 (x.r : Int)).wf = true := wf_ref hxb.1 hxb.2
      have hi100 : i ≤ 100 := by have := H40.out.2; omega
      have HX := Lib.hid (And.intro hxR (And.intro hxb (And.intro hwf hi100)))
      obtain ⟨m, hm3, hand⟩ := u8_and_maskC (qb : Int) 3 (by decide)
      have hand3 : bits .and .u8 (qb : Int) 3 = (m : Int) := hand
      clear hn0 hia hx hg hlc hcm hcs hcell h1a hand hxR hxb hwf hi100
      have hm4 : m = 0 ∨ m = 1 ∨ m = 2 ∨ m = 3 := by omega
      rcases hm4 with hm0 | hm1 | hm2 | hm3'
      · as_aux_lemma =>
        subst hm0
        have hmI : ((0 : Nat) : Int) = 0 := rfl
        rw [hmI] at hand3
        clear hmI hm3
        have h1a := HS.out.1
        have hcb := h1a.cell
        by_cases hv0 : hue (x.r : Int) = 0
        · have hmz : c.ma (x.r : Int) = false := by have := h1a.hue.zero HX.out.1; rw [decide_eq_true hv0] at this; cases hm : c.ma (x.r : Int) with | false => rfl | true => rw [hm] at this; cases this
          have hD := h1a.ask (Below.refl _ _).drew
          have cSh := hD.gm.shade (x.r : Int) HX.out.1 HX.out.2.1.1 HX.out.2.1.2
          rw [h1a.tme, hmz] at cSh
          have hHU : Hue (refsI obs) (c.shade (x.r : Int)) (updI hue (x.r : Int) 1) := by have := h1a.hue.shade HX.out.1; rw [hv0, if_pos (by decide)] at this; exact this
          have hS0 := And.intro hD.cell (hD.look (x.r : Int) HX.out.2.2.1 0 hv0)
          have HHU := Lib.hid hHU
          have HV := Lib.hid hv0
          have HVB := Lib.hid (show (1 : Int) = 1 from rfl)
          have HD := Lib.hid hD
          clear hHU hv0 hmz hD h1a
          gi_wp2_with fail
          refine wpIn_wide.2 ?_
          go_region_held3 (fun W' => W'.cell? ⟨bx, 0, none⟩ = some (.map (some rb)) ∧ (Instr.lookup 38 (.map (some rb)) (.int .i64 (x.r : Int)) false).run Tryz.prog W' = .ok (.int .i64 0) W')
            (first | exact hSa | exact hS0)
            (first
              | (go_at_call 16; refine cSh.mono ?_; rintro e w' ⟨rfl, T', hm', hG', hk'⟩; have hMS := HD.out.went hm' hG' hk'; have hSa := And.intro hMS.cell (hMS.look (x.r : Int) HX.out.2.2.1 0 HV.out)))
          all_goals
            obtain ⟨w7, hrun, hfin⟩ := hMS.put (by have := HX.out.2.2.2; omega) (x.r : Int) HX.out.2.2.1 1 (by have := HVB.out; simp [Lit.wf, IntKind.min, IntKind.max, IntKind.signed, IntKind.bits]; try omega) HHU.out
            have hcb' := hSa.1
            have hlk' := hSa.2
            have HFIN := Lib.hid hfin
            clear hfin hMS hSa hS0 hG' hk' hm' cSh hcb hca
            gi_wp2_with (gi_at_mapUpdate; refine wpListIn_mapUpdate_runG rfl _ _ _ _ rfl _ _ _ rfl rfl rfl hrun ?_)
            go_roundw
            case rel => exact ⟨i + 1, _, T', _, hlt, by go_num, HFIN.out⟩
            case measure => simp [intOf]; omega
        · have hvr := h1a.hue.range HX.out.1
          have hmz : c.ma (x.r : Int) = true := by have := h1a.hue.zero HX.out.1; rw [decide_eq_false hv0] at this; cases hm : c.ma (x.r : Int) with | true => rfl | false => rw [hm] at this; cases this
          obtain ⟨v, hv⟩ : ∃ v, hue (x.r : Int) = v := ⟨_, rfl⟩
          rw [hv] at hv0 hvr
          have hv1 : ¬ v < 1 := by omega
          have hvb : (v == 0) = false := by simp; omega
          have hD := h1a.ask (Below.refl _ _).drew
          have cSh := hD.gm.shade (x.r : Int) HX.out.1 HX.out.2.1.1 HX.out.2.1.2
          rw [h1a.tme, hmz] at cSh
          have hHU : Hue (refsI obs) (c.shade (x.r : Int)) (updI hue (x.r : Int) v) := by have := h1a.hue.shade HX.out.1; rw [hv, if_neg hv1] at this; exact this
          have hS0 := And.intro hD.cell (hD.look (x.r : Int) HX.out.2.2.1 v hv)
          have hvm : (if v < 1 then 1 else v) = v := if_neg hv1
          have HHU := Lib.hid hHU
          have HV := Lib.hid hv
          have HVB := Lib.hid hvr
          have HD := Lib.hid hD
          clear hHU hv hmz hD h1a hvr
          gi_wp2_with fail
          refine wpIn_wide.2 ?_
          go_region_held3 (fun W' => W'.cell? ⟨bx, 0, none⟩ = some (.map (some rb)) ∧ (Instr.lookup 38 (.map (some rb)) (.int .i64 (x.r : Int)) false).run Tryz.prog W' = .ok (.int .i64 v) W')
            (first | exact hSa | exact hS0)
            (first
              | (go_at_call 16; refine cSh.mono ?_; rintro e w' ⟨rfl, T', hm', hG', hk'⟩; have hMS := HD.out.went hm' hG' hk'; have hSa := And.intro hMS.cell (hMS.look (x.r : Int) HX.out.2.2.1 v HV.out)))
          all_goals
            obtain ⟨w7, hrun, hfin⟩ := hMS.put (by have := HX.out.2.2.2; omega) (x.r : Int) HX.out.2.2.1 v (by have := HVB.out; simp [Lit.wf, IntKind.min, IntKind.max, IntKind.signed, IntKind.bits]; try omega) HHU.out
            have hcb' := hSa.1
            have hlk' := hSa.2
            have HFIN := Lib.hid hfin
            clear hfin hMS hSa hS0 hG' hk' hm' cSh hcb hca
            gi_wp2_with (gi_at_mapUpdate; refine wpListIn_mapUpdate_runG rfl _ _ _ _ rfl _ _ _ rfl rfl rfl hrun ?_)
            go_roundw
            case rel => exact ⟨i + 1, _, T', _, hlt, by go_num, HFIN.out⟩
            case measure => simp [intOf]; omega
      · as_aux_lemma =>
        subst hm1
        have hmI : ((1 : Nat) : Int) = 1 := rfl
        rw [hmI] at hand3
        clear hmI hm3
        have h1a := HS.out.1
        have hcb := h1a.cell
        have cB := h1a.gm.blacken (x.r : Int) HX.out.1 HX.out.2.1.1 HX.out.2.1.2
        rw [h1a.tme] at cB
        have HD := Lib.hid h1a
        clear h1a hcb
        gi_wp2_with fail
        refine ⟨trivial, fun h => (by cases h), ?_⟩
        refine (callsIn_wide.2 cB).mono ?_
        rintro e w' ⟨rfl, T', hm', hG', hk'⟩
        have hMS := HD.out.went hm' hG' hk'
        obtain ⟨w7, hrun, hfin⟩ := hMS.put (by have := HX.out.2.2.2; omega) (x.r : Int) HX.out.2.2.1 2 (by decide) HD.out.hue.black
        have hcb' := hMS.cell
        have HFIN := Lib.hid hfin
        clear hfin hMS hG' hk' hm' cB hca
        gi_wp2_with (gi_at_mapUpdate; refine wpListIn_mapUpdate_runG rfl _ _ _ _ rfl _ _ _ rfl rfl rfl hrun ?_)
        go_roundw
        case rel => exact ⟨i + 1, _, T', _, hlt, by go_num, HFIN.out⟩
        case measure => simp [intOf]; omega
      · as_aux_lemma =>
        subst hm2
        have hmI : ((2 : Nat) : Int) = 2 := rfl
        rw [hmI] at hand3
        clear hmI hm3
        have h1a := HS.out.1
        have hcb := h1a.cell
        by_cases hv0 : hue (x.r : Int) = 2
        · have hsz : c.sc (x.r : Int) = true := by have := h1a.hue.two HX.out.1; rw [decide_eq_true hv0] at this; exact this.symm
          have hD := h1a.ask (Below.refl _ _).drew
          have cSh := hD.gm.regreyW (x.r : Int)
          rw [h1a.tme, hsz] at cSh
          have hHU : Hue (refsI obs) (c.regrey (x.r : Int)) (updI hue (x.r : Int) 1) := h1a.hue.regrey HX.out.1 hsz
          have hS0 := And.intro hD.cell (hD.look (x.r : Int) HX.out.2.2.1 2 hv0)
          have HHU := Lib.hid hHU
          have HV := Lib.hid hv0
          have HD := Lib.hid hD
          clear hHU hv0 hsz hD h1a
          gi_wp2_with fail
          refine wpIn_wide.2 ?_
          go_region_held3 (fun W' => W'.cell? ⟨bx, 0, none⟩ = some (.map (some rb)) ∧ (Instr.lookup 38 (.map (some rb)) (.int .i64 (x.r : Int)) false).run Tryz.prog W' = .ok (.int .i64 2) W')
            (first | exact hSa | exact hS0)
            (first
              | (go_at_call 22; refine cSh.mono ?_; rintro e w' ⟨rfl, T', hm', hG', hk'⟩; have hMS := HD.out.went hm' hG' hk'; have hSa := And.intro hMS.cell (hMS.look (x.r : Int) HX.out.2.2.1 2 HV.out)))
          all_goals
            obtain ⟨w7, hrun, hfin⟩ := hMS.put (by have := HX.out.2.2.2; omega) (x.r : Int) HX.out.2.2.1 1 (by decide) HHU.out
            have hcb' := hSa.1
            have hlk' := hSa.2
            have HFIN := Lib.hid hfin
            clear hfin hMS hSa hS0 hG' hk' hm' cSh hcb hca
            gi_wp2_with (gi_at_mapUpdate; refine wpListIn_mapUpdate_runG rfl _ _ _ _ rfl _ _ _ rfl rfl rfl hrun ?_)
            go_roundw
            case rel => exact ⟨i + 1, _, T', _, hlt, by go_num, HFIN.out⟩
            case measure => simp [intOf]; omega
        · have hsz : c.sc (x.r : Int) = false := by have := h1a.hue.two HX.out.1; rw [decide_eq_false hv0] at this; exact this.symm
          obtain ⟨v, hv⟩ : ∃ v, hue (x.r : Int) = v := ⟨_, rfl⟩
          rw [hv] at hv0
          have hvb : (v == 2) = false := by simp; omega
          have hD := h1a.ask (Below.refl _ _).drew
          have cSh := hD.gm.regreyW (x.r : Int)
          rw [h1a.tme, hsz, Col.regrey_no hsz] at cSh
          have hS0 := And.intro hD.cell (hD.look (x.r : Int) HX.out.2.2.1 v hv)
          have HV := Lib.hid hv
          have HD := Lib.hid hD
          clear hv hsz hD h1a
          gi_wp2_with fail
          refine wpIn_wide.2 ?_
          go_region_held3 (fun W' => W'.cell? ⟨bx, 0, none⟩ = some (.map (some rb)) ∧ (Instr.lookup 38 (.map (some rb)) (.int .i64 (x.r : Int)) false).run Tryz.prog W' = .ok (.int .i64 v) W')
            (first | exact hSa | exact hS0)
            (first
              | (go_at_call 22; refine cSh.mono ?_; rintro e w' ⟨rfl, T', hm', hG', hk'⟩; have hMS := HD.out.went hm' hG' hk'; have hSa := And.intro hMS.cell (hMS.look (x.r : Int) HX.out.2.2.1 v HV.out)))
          all_goals
            have hcb' := hSa.1
            have hlk' := hSa.2
            have HFIN := Lib.hid ((hMS.ok HD.out.hue).up (Nat.le_succ i))
            clear hMS hSa hS0 hG' hk' hm' cSh hcb hca
            gi_wp2_with fail
            go_roundw
            case rel => exact ⟨i + 1, hue, T', c, hlt, by go_num, HFIN.out⟩
            case measure => simp [intOf]; omega
      · as_aux_lemma =>
        subst hm3'
        have hmI : ((3 : Nat) : Int) = 3 := rfl
        rw [hmI] at hand3
        clear hmI hm3
        have h1a := HS.out.1
        have hcb := h1a.cell
        have hlk := h1a.look (x.r : Int) HX.out.2.2.1 _ rfl
        by_cases hv0 : hue (x.r : Int) = 1
        · obtain ⟨v, hv⟩ : ∃ v, hue (x.r : Int) = v := ⟨_, rfl⟩
          rw [hv] at hv0 hlk
          have hvb : (v != 1) = false := by simp [hv0]
          have HFIN := Lib.hid (h1a.up (Nat.le_succ i))
          clear h1a hv hv0
          gi_wp2_with fail
          go_roundw
          case rel => exact ⟨i + 1, hue, T, c, hlt, by go_num, HFIN.out⟩
          case measure => simp [intOf]; omega
        · obtain ⟨v, hv⟩ : ∃ v, hue (x.r : Int) = v := ⟨_, rfl⟩
          rw [hv] at hv0 hlk
          have hvb : (v != 1) = true := by simp; omega
          have cB := h1a.gm.forget (x.r : Int)
          rw [h1a.tme] at cB
          have HD := Lib.hid h1a
          clear h1a hv
          gi_wp2_with fail
          refine ⟨trivial, fun h => (by cases h), ?_⟩
          refine (callsIn_wide.2 cB).mono ?_
          rintro e w' ⟨rfl, T', hm', hG', hk'⟩
          have hMS := HD.out.went hm' hG' hk'
          obtain ⟨w7, hrun, hfin⟩ := hMS.put (by have := HX.out.2.2.2; omega) (x.r : Int) HX.out.2.2.1 0 (by decide) HD.out.hue.forget
          have hcb' := hMS.cell
          have HFIN := Lib.hid hfin
          clear hfin hMS hG' hk' hm' cB hca hlk hcb
          gi_wp2_with (gi_at_mapUpdate; refine wpListIn_mapUpdate_runG rfl _ _ _ _ rfl _ _ _ rfl rfl rfl hrun ?_)
          go_roundw
          case rel => exact ⟨i + 1, _, T', _, hlt, by go_num, HFIN.out⟩
          case measure => simp [intOf]; omega
  · have hi1 : ¬ (i : Int) < (n1 : Int) := by omega
    have hl6 := h1.gm.go.row.lenRun 3
    rw [refsI_length, ← HLL.out] at hl6
    gi_wp2_with fail
    clear hl6
    have hA := h1
    generalize wr = wt at *
    clear h1
    as_aux_lemma =>
      obtain ⟨R, hR⟩ : ∃ R, refsI obs = R := ⟨_, rfl⟩
      have hRL : R.length = L := by rw [← hR, refsI_length, HLL.out]
      have hbd : ∀ y ∈ R, 1 ≤ y ∧ y ≤ 2048 := hR ▸ HO.out.bd
      have hnd : R.Nodup := hR ▸ HO.out.nd
      have hhue : Hue R c hue := hR ▸ hA.hue
      have hinn : ∀ y, c.ma y = true → y ∈ R := hR ▸ hA.gm.inn
      have hwt : w2.heap.size ≤ wt.heap.size := hA.gm.size
      have HR := Lib.hid (And.intro hR (And.intro hRL (And.intro hbd (And.intro hnd (And.intro hhue hinn)))))
      have HA2 := Lib.hid hA
      clear hA hR hRL hbd hnd hhue hinn
      gi_loopw [13, 14, 135] (fun v13 v14 v135 W => ∃ k : Nat, k ≤ L ∧ v135 = .int .i64 (k : Int) ∧ v13 = .int .i64 (cntM c R k : Int) ∧ v14 = .bool (anyG c R k) ∧ Below wt.heap.size wt W) (fun _ _ v135 _ => L - (intOf v135).toNat)
      case atStart => exact ⟨0, Nat.zero_le _, rfl, by simp [cntM], by simp [anyG], Below.refl _ _⟩
      case round =>
      obtain ⟨k, hk, rfl, rfl, rfl, hBW⟩ := hrel
      have hA := HA2.out.ask hBW
      have hk0 : (0 : Int) ≤ (k : Int) := by omega
      have hcl := cntM_le c R k
      have hc0 : (0 : Int) ≤ (cntM c R k : Int) := by omega
      have hc40 : (cntM c R k : Int) ≤ 40 := by omega
      by_cases hlt2 : k < L
      · have hk1 : (k : Int) < (L : Int) := by omega
        obtain ⟨y, hy⟩ : ∃ y, obs[k]? = some y := ⟨_, List.getElem?_eq_getElem (by have := HLL.out; omega)⟩
        rcases hA.gm.go.row.is with ⟨_, e⟩ | ⟨g2, cap2, cur2, hv2, hg2, hlc2, hcm2, hcs2, hcell2⟩
        · have := congrArg List.length e; rw [refsI_length, ← HLL.out] at this; simp at this; omega
        rw [refsI_length, ← HLL.out] at hv2
        have hca2 := hcell2 k (by rw [refsI_length, ← HLL.out]; exact hlt2)
        rw [(List.getElem?_eq_some_iff.1 (refsI_at hy)).2] at hca2
        subst hv2
        have hyR : R[k]? = some (y.r : Int) := by rw [← HR.out.1]; exact refsI_at hy
        have hym : (y.r : Int) ∈ R := List.mem_of_getElem? hyR
        have hyb := HR.out.2.2.1 _ hym
        have hwf2 : (Lit.int .i64 (y.r : Int)).wf = true := wf_ref hyb.1 hyb.2
        obtain ⟨v, hv⟩ : ∃ v, hue (y.r : Int) = v := ⟨_, rfl⟩
        have hlk := hA.look (y.r : Int) hwf2 v hv
        have hcb := hA.cell
        have cMa := hA.gm.at_.marked (y.r : Int)
        rw [hA.tme] at cMa
        have hvc : v = colV c (y.r : Int) := by rw [← hv]; exact HR.out.2.2.2.2.1.is _ hym
        have hsub := HR.out.2.2.2.2.1.sub (y.r : Int)
        have han := anyG_next (c := c) hyR
        have hcy := cntM_yes (c := c) hyR
        have hcn := cntM_no (c := c) hyR
        have HHA := Lib.hid hA
        have HBW := Lib.hid hBW
        unfold colV at hvc
        unfold greyC at han
        clear hA hy hg2 hlc2 hcm2 hcs2 hcell2 hyR hym hyb hwf2 hv hBW
        generalize anyG c R k = b at *
        generalize hcc : cntM c R k = cc at *
        cases hm : c.ma (y.r : Int) with
        | false =>
          have hs : c.sc (y.r : Int) = false := by cases h : c.sc (y.r : Int) with | false => rfl | true => rw [hsub h] at hm; cases hm
          have hc2 := hcn hm
          rw [hm, hs] at hvc han
          rw [hm] at cMa
          have hv0 : v = 0 := by simpa using hvc
          subst hv0
          have HN := Lib.hid (And.intro hc2 (And.intro han (And.intro hm hs)))
          clear hvc han hcy hcn hm hs hsub hcc hc2
          gi_wp2_with fail
          refine ⟨trivial, fun h => (by cases h), ?_⟩
          refine (callsIn_wide.2 cMa).mono ?_
          rintro e V1 ⟨rfl, hB1⟩
          have hA1 := HHA.out.ask hB1
          have cSc := hA1.gm.at_.scanned (y.r : Int)
          rw [hA1.tme, HN.out.2.2.2] at cSc
          have HB1 := Lib.hid hB1
          clear cMa hB1 hA1 hlk hcb hca2
          gi_wp2_with fail
          refine ⟨trivial, fun h => (by cases h), ?_⟩
          refine (callsIn_wide.2 cSc).mono ?_
          rintro e V2 ⟨rfl, hB2⟩
          have HB2 := Lib.hid (HBW.out.trans ((below_step HB1.out hB2).mono HBW.out.size))
          clear cSc hB2
          cases b with
          | false =>
            gi_wp2_with fail
            go_roundw
            case rel => exact ⟨k + 1, hlt2, by go_num, by rw [HN.out.1] <;> go_num, by rw [HN.out.2.1]; rfl, HB2.out⟩
            case measure => simp [intOf]; omega
          | true =>
            gi_wp2_with fail
            go_roundw
            case rel => exact ⟨k + 1, hlt2, by go_num, by rw [HN.out.1] <;> go_num, by rw [HN.out.2.1]; rfl, HB2.out⟩
            case measure => simp [intOf]; omega
        | true =>
          have hc2 := hcy hm
          rw [hm] at cMa
          cases hs : c.sc (y.r : Int) with
          | false =>
            rw [hm, hs] at hvc han
            have hv0 : v = 1 := by simpa using hvc
            subst hv0
            have HN := Lib.hid (And.intro hc2 (And.intro han (And.intro hm hs)))
            clear hvc han hcy hcn hm hs hsub hcc hc2
            gi_wp2_with fail
            refine ⟨trivial, fun h => (by cases h), ?_⟩
            refine (callsIn_wide.2 cMa).mono ?_
            rintro e V1 ⟨rfl, hB1⟩
            have hA1 := HHA.out.ask hB1
            have cSc := hA1.gm.at_.scanned (y.r : Int)
            rw [hA1.tme, HN.out.2.2.2] at cSc
            have HB1 := Lib.hid hB1
            clear cMa hB1 hA1 hlk hcb hca2
            gi_wp2_with fail
            refine ⟨trivial, fun h => (by cases h), ?_⟩
            refine (callsIn_wide.2 cSc).mono ?_
            rintro e V2 ⟨rfl, hB2⟩
            have HB2 := Lib.hid (HBW.out.trans ((below_step HB1.out hB2).mono HBW.out.size))
            clear cSc hB2
            cases b with
            | false =>
              gi_wp2_with fail
              go_roundw
              case rel => exact ⟨k + 1, hlt2, by go_num, by rw [HN.out.1] <;> go_num, by rw [HN.out.2.1]; rfl, HB2.out⟩
              case measure => simp [intOf]; omega
            | true =>
              gi_wp2_with fail
              go_roundw
              case rel => exact ⟨k + 1, hlt2, by go_num, by rw [HN.out.1] <;> go_num, by rw [HN.out.2.1]; rfl, HB2.out⟩
              case measure => simp [intOf]; omega
          | true =>
            rw [hm, hs] at hvc han
            have hv0 : v = 2 := by simpa using hvc
            subst hv0
            have HN := Lib.hid (And.intro hc2 (And.intro han (And.intro hm hs)))
            clear hvc han hcy hcn hm hs hsub hcc hc2
            gi_wp2_with fail
            refine ⟨trivial, fun h => (by cases h), ?_⟩
            refine (callsIn_wide.2 cMa).mono ?_
            rintro e V1 ⟨rfl, hB1⟩
            have hA1 := HHA.out.ask hB1
            have cSc := hA1.gm.at_.scanned (y.r : Int)
            rw [hA1.tme, HN.out.2.2.2] at cSc
            have HB1 := Lib.hid hB1
            clear cMa hB1 hA1 hlk hcb hca2
            gi_wp2_with fail
            refine ⟨trivial, fun h => (by cases h), ?_⟩
            refine (callsIn_wide.2 cSc).mono ?_
            rintro e V2 ⟨rfl, hB2⟩
            have HB2 := Lib.hid (HBW.out.trans ((below_step HB1.out hB2).mono HBW.out.size))
            clear cSc hB2
            cases b with
            | false =>
              gi_wp2_with fail
              go_roundw
              case rel => exact ⟨k + 1, hlt2, by go_num, by rw [HN.out.1] <;> go_num, by rw [HN.out.2.1]; rfl, HB2.out⟩
              case measure => simp [intOf]; omega
            | true =>
              gi_wp2_with fail
              go_roundw
              case rel => exact ⟨k + 1, hlt2, by go_num, by rw [HN.out.1] <;> go_num, by rw [HN.out.2.1]; rfl, HB2.out⟩
              case measure => simp [intOf]; omega
      · have hk1 : ¬ (k : Int) < (L : Int) := by omega
        obtain rfl : L = k := by omega
        have hcell := hA.cell
        have HHA := Lib.hid hA
        have HBW := Lib.hid hBW
        obtain ⟨S1, S2, hSee⟩ := hA.gm.at_.sees
        have hTb := hA.gm.at_.side.tab
        have hwz : wt.heap.size ≤ wr.heap.size := hBW.size
        have hB1 := (Below.refl wr.heap.size wr).alloc (Nat.le_refl _) (.cells #[.int .i64 0] 3)
        have hB2 := hB1.alloc (by simp) (.cells #[.int .i64 0] 36)
        have hk18 := (Blk.new wr #[.int .i64 0] 3).alloc (.cells #[.int .i64 0] 36)
        have hk19 := Blk.new (wr.alloc (.cells #[.int .i64 0] 3)) #[.int .i64 0] 36
        rw [World.size_alloc] at hk19
        have hs6 : ((wr.alloc (.cells #[.int .i64 0] 3)).alloc (.cells #[.int .i64 0] 36)).heap.size = wr.heap.size + 2 := by simp
        have hSee6 := hSee.below hB2
        have hTb6 := hTb.below hB2
        have HS6 := Lib.hid (And.intro hs6 (And.intro hk18 hk19))
        clear hs6 hk18 hk19 hB1 hA hBW hcell
        gi_wp2_with fail
        refine ⟨trivial, fun h => (by cases h), ?_⟩
        have hs6 := HS6.out.1
        have hk18 := HS6.out.2.1
        have hk19 := HS6.out.2.2
        clear HS6
        generalize (wr.alloc (.cells #[.int .i64 0] 3)).alloc (.cells #[.int .i64 0] 36) = V6 at *
        refine (callsIn_wide.2 (allm_any tm V6)).mono ?_
        rintro e w' ⟨rfl, rfl⟩
        obtain ⟨e0, e1, hB7, hs7⟩ := toldW_facts tm 15 V6
        have hSee7 := hSee6.below hB7
        have hTb7 := hTb6.below hB7
        have hk18' := hk18.turn (Turn.ofBelow hB7) (fun e => by omega)
        have hk19' := hk19.turn (Turn.ofBelow hB7) (fun e => by omega)
        have hB07 := hB2.trans (hB7.mono (by omega))
        have HX7 := Lib.hid (And.intro e0 (And.intro e1 (And.intro hs6 hs7)))
        clear e0 e1 hs6 hs7 hB7 hSee6 hTb6 hk18 hk19 hB2
        gi_wp2_with fail
        obtain ⟨e0, e1, hs6, hs7⟩ := HX7.out
        generalize toldWorld tm 15 V6 = V7 at *
        rw [← HHA.out.tme] at e0
        have hlt7 := hSee7.lt
        have hXlt7 := hSee7.ar.lt
        have hTlt7 := hTb7.lt
        have hltW := hSee.lt
        have hXltW := hSee.ar.lt
        have hTltW := hTb.lt
        have hw2 : w.heap.size + 2 ≤ w2.heap.size := HW2.out.2.2
        have HSZ := Lib.hid (And.intro hs6 hs7)
        generalize hx0 : wr.heap.size = x0 at *
        generalize hx6 : V6.heap.size = x6 at *
        clear hs6 hs7 HX7
        refine wpIn_rangeO rfl (by omega) (gf := 70) (lb := #[.pointer (some ⟨x6, 0, none⟩), .pointer (some ⟨x6 + 1, 0, none⟩)]) rfl trivial (enters_of Tryz.func70 (by kernel_rfl) rfl)
          (told_seq (M - 1) (by omega) 15 c.ma asks_marked (enters_of Tryz.func15 (by kernel_rfl) rfl) hSee7.maS x6 V7 hSee7 hTb7 e0 e1) KpMk.trans
          (fun V l o hl => KpMk.putObj (n0 := V7.heap.size) hlt7 hXlt7 (by have := HSZ.out; omega) (by omega) V l o hl) (Below.refl _ _) (fun _ => rfl)
          (fun st V => Blk V x0 #[.int .i64 (st.1.length : Int)] 3 ∧ Blk V (x0 + 1) #[.int .i64 (lastN st.1 : Int)] 36 ∧ Below x0 wr V ∧ V7.heap.size ≤ V.heap.size)
          (fun c' st V => c' = .ret ∧ Falls st.1)
          (fun st V V' row hs hg hr => ⟨hs.1.kept hg (fun r e => (hr r e).2), hs.2.1.kept hg (fun r e => (hr r e).2), (ownFrom_below (β := Unit) (by omega) (by have := HSZ.out; omega)) () V V' row hs.2.2.1 hg hr, Nat.le_trans hs.2.2.2 hg.size⟩)
          (fun c' st V V' row hs hg hr => hs)
          ⟨hk18', hk19', hB07, Nat.le_refl _⟩ ?a1F ?assignF ?bodyF ?doneF ?stopF
        case assignF =>
          intro l0 z W' K hK
          unfold tmArgs
          gi_wp2
          exact hK
        case bodyF =>
          rintro l0 pre O z V ⟨hk18, hk19, hBV, hVs⟩ hpl
          have c18 := hk18.cell 0
          have z18 := hk18.free 0
          have c19 := hk19.cell 0
          have z19 := hk19.free 0
          simp only [List.getElem?_toArray, List.getElem?_cons_zero] at c18 c19
          have hAV := HHA.out.ask (by rw [hx0]; exact hBV)
          have hcb := hAV.cell
          have hzR := HR.out.2.2.2.2.2 _ z.2.2
          have hzb := HR.out.2.2.1 _ hzR
          have hwf3 : (Lit.int .i64 ((z.1.val : Nat) : Int)).wf = true := wf_ref hzb.1 hzb.2
          obtain ⟨v, hv⟩ : ∃ v, hue ((z.1.val : Nat) : Int) = v := ⟨_, rfl⟩
          have hlk := hAV.look _ hwf3 v hv
          have hv0 : (v == 0) = false := by
            have h1 := HR.out.2.2.2.2.1.zero hzR
            rw [hv, z.2.2] at h1
            have h2 : ¬ v = 0 := of_decide_eq_false (by simpa using h1)
            simp [h2]
          have hpl2 : (pre.length : Int) ≤ 4096 := by have := hSee7.s1.1; omega
          have hp0 : (0 : Int) ≤ (pre.length : Int) := by omega
          by_cases hle : z.1.val ≤ lastN pre
          · have hleI : ((z.1.val : Nat) : Int) ≤ ((lastN pre : Nat) : Int) := by omega
            have hbad : Falls (pre ++ [z]) := falls_of (by omega) hle
            have hRb : V.cell? ⟨w.heap.size + 1, 0, none⟩ = some (.bool false) := ((HW2.out.2.1.turn (Turn.ofBelow hAV.gm.below) (by have := HW2.out.2.1.lt; omega)).cell 0)
            have hRz : V.frozen? ⟨w.heap.size + 1, 0, none⟩ = false := ((HW2.out.2.1.turn (Turn.ofBelow hAV.gm.below) (by have := HW2.out.2.1.lt; omega)).free 0)
            have hO : Owned V7.heap.size O O V (V.setCell ⟨w.heap.size + 1, 0, none⟩ (.bool false)) := Owned.ofTurn ((Turn.refl (fun k => k = w.heap.size + 1) V).set _ _ (.inr rfl)) (fun k e => by have := HSZ.out; omega)
            have HB := Lib.hid (And.intro hO hbad)
            clear hO hbad hAV hk18 hk19 hBV hv hzR hzb hwf3
            gi_wp2_with fail
            exact ⟨O, HB.out.1, rfl, HB.out.2⟩
          · have hleI : ¬ ((z.1.val : Nat) : Int) ≤ ((lastN pre : Nat) : Int) := by omega
            have hltI : ((lastN pre : Nat) : Int) < ((z.1.val : Nat) : Int) := by omega
            have hTn : Turn (fun k => k = x0 ∨ k = x0 + 1) V ((V.setCell ⟨x0 + 1, 0, none⟩ (.int .i64 ((z.1.val : Nat) : Int))).setCell ⟨x0, 0, none⟩ (.int .i64 ((pre.length : Int) + 1))) := ((Turn.refl _ V).set _ _ (.inr (.inr rfl))).set _ _ (.inr (.inl rfl))
            have hkp : KpMk T X x6 V ((V.setCell ⟨x0 + 1, 0, none⟩ (.int .i64 ((z.1.val : Nat) : Int))).setCell ⟨x0, 0, none⟩ (.int .i64 ((pre.length : Int) + 1))) := KpMk.ofTurn hTn (fun k hk => ⟨by have := hlt7 k hk; omega, fun e => by have := hltW k hk; omega⟩) (fun k hk => ⟨by have := hXlt7 k hk; omega, fun e => by have := hXltW k hk; omega⟩) (by have := HSZ.out; omega) (by have := HSZ.out; omega) (by have := HSZ.out; omega) (by omega) (by omega)
            have hb2 := (hBV.setCell (p := ⟨x0 + 1, 0, none⟩) (by show x0 ≤ x0 + 1; omega) (.int .i64 ((z.1.val : Nat) : Int))).setCell (p := ⟨x0, 0, none⟩) (Nat.le_refl _) (.int .i64 ((pre.length : Int) + 1))
            have h18 : Blk ((V.setCell ⟨x0 + 1, 0, none⟩ (.int .i64 ((z.1.val : Nat) : Int))).setCell ⟨x0, 0, none⟩ (.int .i64 ((pre.length : Int) + 1))) x0 #[.int .i64 ((pre ++ [z]).length : Int)] 3 := by
              refine ((hk18.setOther ⟨x0 + 1, 0, none⟩ _ (by show x0 ≠ x0 + 1; omega)).setAt 0 _).is ?_
              have e : (((pre ++ [z]).length : Nat) : Int) = (pre.length : Int) + 1 := by simp
              rw [e]; simp
            have h19 : Blk ((V.setCell ⟨x0 + 1, 0, none⟩ (.int .i64 ((z.1.val : Nat) : Int))).setCell ⟨x0, 0, none⟩ (.int .i64 ((pre.length : Int) + 1))) (x0 + 1) #[.int .i64 (lastN (pre ++ [z]) : Int)] 36 := by
              refine ((hk19.setAt 0 (.int .i64 ((z.1.val : Nat) : Int))).setOther ⟨x0, 0, none⟩ _ (by show x0 + 1 ≠ x0; omega)).is ?_
              rw [lastN_snoc]; simp
            have c18' : (V.setCell ⟨x0 + 1, 0, none⟩ (.int .i64 ((z.1.val : Nat) : Int))).cell? ⟨x0, 0, none⟩ = some (.int .i64 (pre.length : Int)) := (hk18.setOther ⟨x0 + 1, 0, none⟩ _ (by show x0 ≠ x0 + 1; omega)).cell 0
            have z18' : (V.setCell ⟨x0 + 1, 0, none⟩ (.int .i64 ((z.1.val : Nat) : Int))).frozen? ⟨x0, 0, none⟩ = false := (hk18.setOther ⟨x0 + 1, 0, none⟩ _ (by show x0 ≠ x0 + 1; omega)).free 0
            have hO : Owned V7.heap.size O O V ((V.setCell ⟨x0 + 1, 0, none⟩ (.int .i64 ((z.1.val : Nat) : Int))).setCell ⟨x0, 0, none⟩ (.int .i64 ((pre.length : Int) + 1))) := Owned.ofTurn hTn (fun k e => by have := HSZ.out; omega)
            have HG := Lib.hid (And.intro hO (And.intro hkp (And.intro h18 (And.intro h19 (And.intro hb2 (show V7.heap.size ≤ ((V.setCell ⟨x0 + 1, 0, none⟩ (.int .i64 ((z.1.val : Nat) : Int))).setCell ⟨x0, 0, none⟩ (.int .i64 ((pre.length : Int) + 1))).heap.size by simpa using hVs))))))
            clear hO hkp h18 h19 hb2 hTn hAV hk18 hk19 hBV hv hzR hzb hwf3
            gi_wp2_with fail
            exact ⟨O, HG.out⟩
        case doneF =>
          rintro D xs O V hD hxs ⟨hk18, hk19, hBV, hVs⟩ hDf
          have c18 := hk18.cell 0
          simp only [List.getElem?_toArray, List.getElem?_cons_zero] at c18
          have hAV := HHA.out.ask (by rw [hx0]; exact hBV)
          have hcnt : cntM c R L = (R.filter c.ma).length := by rw [← HR.out.2.1]; exact cntM_all c R
          have cC := hAV.gm.at_.count (R.filter c.ma) (HR.out.2.2.2.1.filter _) (fun y => by
            rw [List.mem_filter]
            exact ⟨fun h => h.2, fun h => ⟨HR.out.2.2.2.2.2 y h, h⟩⟩)
          rw [hAV.tme, ← hcnt] at cC
          have hxl : xs.length = cntM c R L := by
            have h1 := congrArg List.length (show tmVals xs = soL c.ma (elems S1 T.n) from hxs)
            rw [tmVals_length] at h1
            rw [h1, hcnt]
            have h2 : (ints (soL c.ma (elems S1 T.n))).length = (soL c.ma (elems S1 T.n)).length := by unfold ints; rw [List.length_map]
            rw [← h2]
            refine same_length ?_ (HR.out.2.2.2.1.filter _) fun y => ?_
            · unfold ints
              exact List.pairwise_map.2 ((soL_nodup _ _ _).imp fun {a b} hab e => hab (by omega))
            · rw [List.mem_filter]
              constructor
              · intro hy
                obtain ⟨n', hn', rfl⟩ := List.mem_map.1 hy
                have hm := (soL_mem hSee7.maS hSee7.s1.2.1 n').1 hn'
                exact ⟨HR.out.2.2.2.2.2 _ hm, hm⟩
              · rintro ⟨_, hm⟩
                obtain ⟨n', rfl⟩ := hSee7.nonneg hm
                exact List.mem_map.2 ⟨n', (soL_mem hSee7.maS hSee7.s1.2.1 n').2 hm, rfl⟩
          rw [hxl] at c18
          have hDV := (Array.getElem?_eq_some_iff.mp hDf).1
          have HAV := Lib.hid (And.intro hAV (And.intro hBV hDf))
          have hdry := anyG_dry (c := c) (R := R) HR.out.2.2.2.2.2
          rw [HR.out.2.1] at hdry
          have HDR := Lib.hid hdry
          clear hAV hBV hk18 hk19 hxs hcnt hxl hDf hdry
          gi_wp2_with fail
          refine ⟨trivial, fun h => (by cases h), ?_⟩
          refine (callsIn_wide.2 cC).mono ?_
          rintro e V8 ⟨rfl, hB8⟩
          have hA8 := HAV.out.1.ask hB8
          have c18' := (hB8.cell (p := ⟨x0, 0, none⟩) (World.block_lt_of_cell? V _ c18)).trans c18
          obtain ⟨b, hb⟩ : ∃ b, anyG c R L = b := ⟨_, rfl⟩
          have cD := hA8.gm.at_.drained (!b) (by rw [← hb]; exact HDR.out)
          rw [hA8.tme] at cD
          rw [hb]
          have HB8 := Lib.hid hB8
          clear cC c18 hB8 hA8 hb
          gi_wp2_with fail
          refine ⟨trivial, fun h => (by cases h), ?_⟩
          refine (callsIn_wide.2 cD).mono ?_
          rintro e V9 ⟨rfl, hB9⟩
          have hB89 := below_step HB8.out hB9
          have hA9 := HAV.out.1.ask hB89
          have hfin := HW2.out.1.trans (hA9.gm.below.mono HW2.out.1.size)
          have hR7 := HW2.out.2.1.turn (Turn.ofBelow hA9.gm.below) (by have := HW2.out.2.1.lt; omega)
          have hZc : V9.frozen? ⟨w.heap.size + 1, 0, none⟩ = false := hR7.free 0
          have hRc : V9.cell? ⟨w.heap.size + 1, 0, none⟩ = some (.bool false) := hR7.cell 0
          have hR9 := World.cell?_setCell_same V9 ⟨w.heap.size + 1, 0, none⟩ (.bool true) hRc
          have hBF := hfin.setCell (p := ⟨w.heap.size + 1, 0, none⟩) (by show w.heap.size ≤ w.heap.size + 1; omega) (.bool true)
          have hD9 : V9.heap[D]? = some (.deferred (some [])) := (hB89.block D hDV).trans HAV.out.2.2
          have hD10 : (V9.setCell ⟨w.heap.size + 1, 0, none⟩ (.bool true)).heap[D]? = some (.deferred (some [])) := (Below.heap_setCell _ _ _ _ (fun e => by have e2 : D = w.heap.size + 1 := e; have := HSZ.out; omega)).trans hD9
          have hs10 : (V9.setCell ⟨w.heap.size + 1, 0, none⟩ (.bool true)).heap.size = V9.heap.size := by simp
          have hDl : D < V9.heap.size := (Array.getElem?_eq_some_iff.mp hD9).1
          have hR9l : w.heap.size + 1 < V9.heap.size := World.block_lt_of_cell? _ _ hRc
          have HH := Lib.hid (And.intro hR9 (And.intro hBF (And.intro hD10 hs10)))
          clear hA9 hfin hR7 hR9 hBF hD9 hD10 hs10 hB89 hB9 cD c18'
          cases b with
          | false =>
            gi_wp2_with fail
            obtain ⟨hR9, hBF, hD10, hs10⟩ := HH.out
            generalize V9.setCell ⟨w.heap.size + 1, 0, none⟩ (.bool true) = V10 at *
            refine leavesP_marks (B := w2.heap.size) (hi := D + 1) ⟨D, rfl, by have := HSZ.out; omega, by omega, hD10, trivial⟩ (by omega) fun w' hb' _ hcs => ?_
            have hRF := hcs ⟨w.heap.size + 1, 0, none⟩ _ (by show w.heap.size + 1 < _; omega) hR9
            refine ⟨.bool true, ?_, rfl, hBF.trans (hb'.mono (by omega))⟩
            simp [results, Tryz.f4, go_sem, hRF]
          | true =>
            gi_wp2_with fail
            obtain ⟨hR9, hBF, hD10, hs10⟩ := HH.out
            generalize V9.setCell ⟨w.heap.size + 1, 0, none⟩ (.bool true) = V10 at *
            refine leavesP_marks (B := w2.heap.size) (hi := D + 1) ⟨D, rfl, by have := HSZ.out; omega, by omega, hD10, trivial⟩ (by omega) fun w' hb' _ hcs => ?_
            have hRF := hcs ⟨w.heap.size + 1, 0, none⟩ _ (by show w.heap.size + 1 < _; omega) hR9
            refine ⟨.bool true, ?_, rfl, hBF.trans (hb'.mono (by omega))⟩
            simp [results, Tryz.f4, go_sem, hRF]
        case stopF =>
          rintro D c' pre O V hD ⟨j, hj⟩ ⟨_, hbad⟩ _
          exact absurd hbad (falls_not hj)
theorem mcolours_frame (a0 : Option Addr) (zs : List Int) (cf : Nat) (e0 : Option Addr) (ne ce : Nat) (Q : Nat → Nat → Int) (a1 : Option Addr) (n1 c1 : Nat) (Q1 : Nat → Nat → Int) (w : World) (_ : n1 ≤ 9223372036854775807)
    (hF : BytesW w a0 zs) (hE : EdgesW w e0 ne Q) (hP : PairsW w a1 n1 Q1) (hTb : TabAt w) (hT : TableAt w) :
    Calls Tryz.prog 4 #[.agg #[.slice a0 zs.length cf, .slice e0 ne ce], .slice a1 n1 c1] w fun e w' => e = .returned (.bool true) ∧ Below w.heap.size w w' :=
  mcolours_true a0 zs cf e0 ne ce Q a1 n1 c1 Q1 w hF hE hP ⟨hT, hTb⟩
end Go.Proofs.YtfcbpablponmeaaGreatDoor
