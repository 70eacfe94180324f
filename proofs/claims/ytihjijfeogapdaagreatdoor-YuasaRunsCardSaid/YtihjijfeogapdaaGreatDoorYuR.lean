/- YuasaRuns, walked, over the barrier's contracts; at this seat's numbers. -/
import Derived.Test.YtihjijfeogapdaaGreatDoorYuF
import Derived.Test.YtihjijfeogapdaaGreatDoorDjH
import Derived.Test.YtihjijfeogapdaaGreatDoorMrC
import Derived.Test.YtihjijfeogapdaaGreatDoorArgsF
import Derived.Test.YtihjijfeogapdaaGreatDoorBrC
import Derived.Deep.RegionHeld3
import Derived.Deep.DeepCutAuto
import Derived.Deep.CutBlock
namespace Go.Proofs.YtihjijfeogapdaaGreatDoor
open Go Go.RowKit Go.Shelf Go.MuLone Go.RwLone
set_option linter.unusedSimpArgs false
set_option linter.unusedVariables false
attribute [local go_sem] Oper.semAt_some

/-- A new map beside a barrier. -/
theorem HuB.made2 {t : BrK} {B mb n b tm : Nat} {X : ArB} {s : ArS} {obs : List Ob} {vl : Value} {f : Int → Value} {adj : Int → List Int} {T : MkB} {c : Col} {wb wr : World} (h : BrIn t B mb n X s obs vl f adj (fun _ => False) T c b tm wb wr) :
    HuB t B mb n wr.heap.size 0 X s obs vl f adj wb (fun _ => 0) T c b tm (wr.alloc (.map #[] 0)) :=
  ⟨h.watch ((Below.refl _ wr).alloc (Nat.le_refl _) _) fun k e => .inr ⟨Nat.le_of_eq (show wr.heap.size = k from e.symm), by have e2 : k = wr.heap.size := e; simp; omega⟩, ⟨0, _, 0, Nat.le_refl _, MapIn.made wr⟩, h.gm.size, fun e => by have := h.gm.go.lt _ e; omega⟩
/-- Colours where none is black: those that are told are grey. -/
structure Gy (R : List Int) (c : Col) (hue : Int → Int) : Prop where
  hu : Hue R c hue
  sc : ∀ x, c.sc x = false
theorem Gy.shadeZ {R : List Int} {c : Col} {hue : Int → Int} {x : Int} (h : Gy R c hue) (hx : x ∈ R) (h0 : x ≠ 0) : Gy R (c.shadeZ x) (updI hue x 1) := by
  refine ⟨?_, fun y => by rw [shadeZ_sc]; exact h.sc y⟩
  have h2 := h.hu.shadeZ hx h0 rfl
  have hv : hue x = 0 ∨ hue x = 1 := by
    rw [h.hu.is x hx]; unfold colV; rw [h.sc x]
    cases c.ma x <;> simp
  rcases hv with e | e
  · rw [e] at h2; simpa using h2
  · rw [e] at h2; simpa using h2
/-- A map of numbers has room for more. -/
theorem HuB.up {t : BrK} {B mb n rb q q' b tm : Nat} {X : ArB} {s : ArS} {obs : List Ob} {vl : Value} {f : Int → Value} {adj : Int → List Int} {T : MkB} {c : Col} {wb wr : World} {hue : Int → Int} (h : HuB t B mb n rb q X s obs vl f adj wb hue T c b tm wr) (hq : q ≤ q') : HuB t B mb n rb q' X s obs vl f adj wb hue T c b tm wr :=
  ⟨h.br, (h.hu.up hq).map, h.far⟩
set_option maxRecDepth 100000 in
set_option maxHeartbeats 16000000 in
theorem yruns_true (a0 : Option Addr) (zs : List Int) (cf : Nat) (e0 : Option Addr) (ne ce : Nat) (Q : Nat → Nat → Int) (a1 : Option Addr) (n1 c1 : Nat) (Q1 : Nat → Nat → Int) (w : World)
    (hF : BytesW w a0 zs) (hE : EdgesW w e0 ne Q) (hP : FoursW w a1 n1 Q1) (hT : Tabs w) :
    Calls Tryz.prog 3 #[.agg #[.slice a0 zs.length cf, .slice e0 ne ce], .slice a1 n1 c1] w fun e w' => e = .returned (.bool true) ∧ Below w.heap.size w w' := by
  have HA := Lib.hid (And.intro hF (And.intro hE hP))
  clear hF hE hP
  go_enter Tryz.func3, Tryz.ntmps3
  go_wp2_with fail
  have hG := Blk.new w #[.slice a0 zs.length cf, .slice e0 ne ce] 25
  have hB0 := (Below.refl w.heap.size w).alloc (Nat.le_refl _) (.cells #[.slice a0 zs.length cf, .slice e0 ne ce] 25)
  have hT0 := hT.below hB0
  generalize w.alloc (.cells #[.slice a0 zs.length cf, .slice e0 ne ce] 25) = W0 at *
  refine (yufit_true W0 hT0).mono ?_
  rintro e w1 ⟨rfl, hB1⟩
  have hG1 := hG.turn (Turn.ofBelow hB1) (fun e => Nat.lt_irrefl _ (Nat.lt_of_lt_of_le hG.lt e))
  have hB01 := hB0.trans (hB1.mono hB0.size)
  have g0 := hG1.cell 0
  have g1 := hG1.cell 1
  simp only [List.getElem?_toArray, List.getElem?_cons_zero, List.getElem?_cons_succ] at g0 g1
  obtain ⟨q, hq⟩ : ∃ q, (decide (zs.length ≤ 40) && decide (ne ≤ 120)) = q := ⟨_, rfl⟩
  have cS := small_any a0 zs.length cf e0 ne ce w1 q hq
  have HW1 := Lib.hid (And.intro hG1 (And.intro hB01 (hT.below hB01)))
  clear hB0 hB1 hG hT0 hG1 hT hB01
  go_wp2_with fail
  refine cS.mono ?_
  rintro e w2 ⟨rfl, hB2⟩
  have hB02 := HW1.out.2.1.trans (hB2.mono HW1.out.2.1.size)
  clear cS g0 g1
  by_cases hsm : zs.length ≤ 40 ∧ ne ≤ 120 ∧ n1 ≤ 40
  case neg =>
    cases q with
    | false =>
      clear hsm hq
      go_wp2_with fail
      go_ret
      exact ⟨rfl, hB02⟩
    | true =>
      have h20 : 40 < (n1 : Int) := by
        have h1 : zs.length ≤ 40 := by simpa using (Bool.and_eq_true_iff.1 hq).1
        have h2 : ne ≤ 120 := by simpa using (Bool.and_eq_true_iff.1 hq).2
        have : ¬ n1 ≤ 40 := fun h3 => hsm ⟨h1, h2, h3⟩
        omega
      clear hsm hq
      go_wp2_with fail
      go_ret
      exact ⟨rfl, hB02⟩
  case pos =>
  obtain ⟨h40, h120, hn40⟩ := hsm
  have hqt : q = true := by rw [← hq, decide_eq_true h40, decide_eq_true h120]; rfl
  subst hqt
  have hn40I : ¬ 40 < (n1 : Int) := by omega
  have hG2 := HW1.out.1.turn (Turn.ofBelow hB2) (fun e => Nat.lt_irrefl _ (Nat.lt_of_lt_of_le HW1.out.1.lt e))
  have hT2 := HW1.out.2.2.below hB2
  have cM := made_any a0 zs cf e0 ne ce Q w2 h40 h120 (HA.out.1.under hB02 (Nat.le_refl _)) (HA.out.2.1.under hB02 (Nat.le_refl _)) hT2.c
  have HTB := Lib.hid hT2.b
  have g0 := hG2.cell 0
  have g1 := hG2.cell 1
  simp only [List.getElem?_toArray, List.getElem?_cons_zero, List.getElem?_cons_succ] at g0 g1
  have HW2 := Lib.hid hB02
  have H40 := Lib.hid (And.intro h40 hn40)
  clear hG2 hT2 hB02 hB2 HW1 hq h40 h120 hn40
  go_wp2_with fail
  refine cM.mono ?_
  rintro e w3 hMP
  obtain ⟨X, s, obs, vl, mb, n, f, rfl, hMO⟩ := hMP.ok HTB.out
  obtain ⟨L, hL⟩ : ∃ L, L = obs.length := ⟨_, rfl⟩
  have hLI : (L : Int) ≤ 40 := by have := hMO.len; have := H40.out.1; omega
  have cN := gm_new (E := fun _ => False) hMO.go hMO.P 64 (fun _ h => h.elim) (by omega) hMO.tab hMO.tab.lt
  have HO := Lib.hid hMO
  have HL := Lib.hid hL
  clear hMO hMP cM g0 g1 hL
  go_wp2_with fail
  refine cN.mono ?_
  rintro e w4 ⟨T, rfl, hGm, hB4⟩
  obtain ⟨tm, htm⟩ : ∃ tm, T.m = tm := ⟨_, rfl⟩
  rw [htm]
  have h5 := BrIn.made (t := yuK) hGm htm
  have cD := yu_new tm w4
  have H5 := Lib.hid h5
  clear cN hB4 h5 hGm htm
  go_wp2_with fail
  refine cD.mono ?_
  rintro e w' ⟨rfl, rfl⟩
  have h5 := H5.out
  clear cD H5
  generalize w4.alloc (.cells (BrCells yuK tm) yuK.t) = w5 at *
  generalize w4.heap.size = bt at *
  have hmm := @run_makeMap Tryz.prog
  have h6 := HuB.made2 h5
  have H6 := Lib.hid h6
  clear h5 h6
  go_wp2_with fail
  clear hmm
  have h6 := H6.out
  clear H6
  generalize w5.alloc (.map #[] 0) = w6 at *
  generalize w5.heap.size = rb at *
  go_loopw [43] (fun v43 wr => ∃ (i : Nat) (hue : Int → Int) (T : MkB) (c : Col), i ≤ n1 ∧ v43 = .int .i64 (i : Int) ∧ HuB yuK w2.heap.size mb n rb (2 * i) X s obs vl f (ptsAt obs) w2 hue T c bt tm wr ∧ Gy (refsI obs) c hue) (fun v43 _ => n1 - (intOf v43).toNat)
  case atStart => exact ⟨0, _, T, Col.white, Nat.zero_le _, rfl, h6, hue_white, fun _ => rfl⟩
  case round =>
  clear h6
  obtain ⟨i, hue, T, c, hi, rfl, h1, hgy⟩ := hrel
  have hi0 : (0 : Int) ≤ (i : Int) := by omega
  have hi40 : i ≤ 40 := by have := H40.out.2; omega
  by_cases hlt : i < n1
  · have hi1 : (i : Int) < (n1 : Int) := by omega
    have hB06 := HW2.out.trans (h1.br.gm.below.mono HW2.out.size)
    obtain ⟨bk, off, rfl, hbk, hcs⟩ := HA.out.2.2 i hlt
    have hd0 := (hB06.cell (p := ⟨bk, off + i * 4, none⟩) hbk).trans (hcs 0 (by decide)).1
    have hd1 := (hB06.cell (p := ⟨bk, off + i * 4 + 1, none⟩) hbk).trans (hcs 1 (by decide)).1
    have hd2 := (hB06.cell (p := ⟨bk, off + i * 4 + 2, none⟩) hbk).trans (hcs 2 (by decide)).1
    have hd3 := (hB06.cell (p := ⟨bk, off + i * 4 + 3, none⟩) hbk).trans (hcs 3 (by decide)).1
    obtain ⟨qa, hqa, hqa6⟩ := u8_natW (hcs 0 (by decide)).2
    obtain ⟨qb, hqb, hqb6⟩ := u8_natW (hcs 1 (by decide)).2
    obtain ⟨qc, hqc, hqc6⟩ := u8_natW (hcs 2 (by decide)).2
    obtain ⟨qd, hqd, hqd6⟩ := u8_natW (hcs 3 (by decide)).2
    rw [hqa] at hd0
    rw [hqb] at hd1
    rw [hqc] at hd2
    rw [hqd] at hd3
    have b1 := (Below.refl wr.heap.size wr).alloc (Nat.le_refl _) (.cells #[.int .u8 (qa : Int), .int .u8 (qb : Int), .int .u8 (qc : Int), .int .u8 (qd : Int)] 38)
    have h1a := h1.ask b1
    have hE0 := Blk.new wr #[.int .u8 (qa : Int), .int .u8 (qb : Int), .int .u8 (qc : Int), .int .u8 (qd : Int)] 38
    have hl6 := h1a.br.gm.go.row.lenRun 3
    rw [refsI_length, ← HL.out] at hl6
    have hx0 := hE0.cell 0
    have hx1 := hE0.cell 1
    have hx2 := hE0.cell 2
    simp only [List.getElem?_toArray, List.getElem?_cons_zero, List.getElem?_cons_succ] at hx0 hx1 hx2
    have HS := Lib.hid (And.intro h1a (And.intro hE0 hgy))
    clear hqa hqb hqc hqd hcs h1 hbk hB06 b1 hgy
    by_cases hn0 : L = 0
    · have hLz : ((L : Int) == 0) = true := by simp; omega
      have HN0 := Lib.hid hn0
      clear hn0
      go_wp2_with fail
      clear hl6 hx0 hx1 hx2 hd0 hd1 hd2 hd3 hLz h1a hE0
      have hA := HS.out.1
      generalize (wr.alloc (.cells #[.int .u8 (qa : Int), .int .u8 (qb : Int), .int .u8 (qc : Int), .int .u8 (qd : Int)] 38)) = W at *
      have hcn : Calls Tryz.prog 15 #[.pointer (some ⟨tm, 0, none⟩)] W fun e w' => e = .returned (.int .i64 (((refsI obs).filter c.ma).length : Int)) ∧ Below W.heap.size W w' := by
        have h9 := hA.br.gm.at_.count ((refsI obs).filter c.ma) (HO.out.nd.filter _) (fun y => by
          rw [List.mem_filter]
          exact ⟨fun h => h.2, fun h => ⟨hA.br.gm.inn y h, h⟩⟩)
        rw [hA.br.tm] at h9
        exact h9
      refine hcn.mono ?_
      rintro e V8 ⟨rfl, hB8⟩
      have hA8 := hA.ask hB8
      have hcn2 : ∀ V, Below V8.heap.size V8 V → Calls Tryz.prog 15 #[.pointer (some ⟨tm, 0, none⟩)] V fun e w' => e = .returned (.int .i64 (((refsI obs).filter c.ma).length : Int)) ∧ Below V.heap.size V w' := fun V hB => by
        have h8 := hA8.ask hB
        have h9 := h8.br.gm.at_.count ((refsI obs).filter c.ma) (HO.out.nd.filter _) (fun y => by
          rw [List.mem_filter]
          exact ⟨fun h => h.2, fun h => ⟨h8.br.gm.inn y h, h⟩⟩)
        rw [h8.br.tm] at h9
        exact h9
      have cR := yu_remark bt V8
      have cR2 := yu_reset bt V8
      have H8 := Lib.hid hA8
      have hcc := hcn2 V8 (Below.refl _ _)
      generalize (((refsI obs).filter c.ma).length : Int) = kc at *
      have hkk : (kc == kc) = true := by simp
      clear hcn hB8 hA8 hA hcn2
      go_wp2_with fail
      refine cR.mono ?_
      rintro e w' ⟨rfl, rfl⟩
      clear cR
      go_wp2_with fail
      refine cR2.mono ?_
      rintro e w' ⟨rfl, rfl⟩
      clear cR2
      go_wp2_with fail
      refine hcc.mono ?_
      rintro e V9 ⟨rfl, hB9⟩
      have HF := Lib.hid (HW2.out.trans ((H8.out.ask hB9).br.gm.below.mono HW2.out.size))
      clear hcc hB9
      go_wp2_with fail
      go_ret
      exact ⟨rfl, HF.out⟩
    · obtain ⟨ia, hia⟩ : ∃ ia, ia = qa % L := ⟨_, rfl⟩
      obtain ⟨ib, hib⟩ : ∃ ib, ib = qb % L := ⟨_, rfl⟩
      have hip : 0 < L := by omega
      have hta : (qa : Int).tmod (L : Int) = (ia : Int) := by rw [Int.tmod_eq_emod_of_nonneg (by omega), hia]; omega
      have htb : (qb : Int).tmod (L : Int) = (ib : Int) := by rw [Int.tmod_eq_emod_of_nonneg (by omega), hib]; omega
      have hla : ia < L := by rw [hia]; exact Nat.mod_lt _ hip
      have hlb : ib < L := by rw [hib]; exact Nat.mod_lt _ hip
      have hin : ¬ (L : Int) = 0 := by omega
      have hinb : ((L : Int) == 0) = false := by simp; omega
      have hlaI : (ia : Int) < (L : Int) := by omega
      have hlbI : (ib : Int) < (L : Int) := by omega
      have hla0 : (0 : Int) ≤ (ia : Int) := by omega
      have hlb0 : (0 : Int) ≤ (ib : Int) := by omega
      have hwa : IntKind.i64.wrap (qa : Int) = (qa : Int) := by simp [IntKind.wrap, IntKind.bits, IntKind.signed]; omega
      have hwb : IntKind.i64.wrap (qb : Int) = (qb : Int) := by simp [IntKind.wrap, IntKind.bits, IntKind.signed]; omega
      obtain ⟨x, hx⟩ : ∃ x, obs[ia]? = some x := ⟨_, List.getElem?_eq_getElem (by have := HL.out; omega)⟩
      obtain ⟨y, hy⟩ : ∃ y, obs[ib]? = some y := ⟨_, List.getElem?_eq_getElem (by have := HL.out; omega)⟩
      obtain ⟨ic, hic⟩ : ∃ ic, ic = qc % L := ⟨_, rfl⟩
      have htc : (qc : Int).tmod (L : Int) = (ic : Int) := by rw [Int.tmod_eq_emod_of_nonneg (by omega), hic]; omega
      have hlc : ic < L := by rw [hic]; exact Nat.mod_lt _ hip
      have hlcI : (ic : Int) < (L : Int) := by omega
      have hlc0 : (0 : Int) ≤ (ic : Int) := by omega
      have hwc : IntKind.i64.wrap (qc : Int) = (qc : Int) := by simp [IntKind.wrap, IntKind.bits, IntKind.signed]; omega
      obtain ⟨z, hz⟩ : ∃ z, obs[ic]? = some z := ⟨_, List.getElem?_eq_getElem (by have := HL.out; omega)⟩
      rcases h1a.br.gm.go.row.is with ⟨_, e⟩ | ⟨g, cap, cur, hv, hg, hlcx, hcm, hcs, hcell⟩
      · have := congrArg List.length e; rw [refsI_length, ← HL.out] at this; simp at this; omega
      rw [refsI_length, ← HL.out] at hv
      have hca := hcell ia (by rw [refsI_length, ← HL.out]; exact hla)
      have hcb := hcell ib (by rw [refsI_length, ← HL.out]; exact hlb)
      have hcc := hcell ic (by rw [refsI_length, ← HL.out]; exact hlc)
      rw [(List.getElem?_eq_some_iff.1 (refsI_at hx)).2] at hca
      rw [(List.getElem?_eq_some_iff.1 (refsI_at hy)).2] at hcb
      rw [(List.getElem?_eq_some_iff.1 (refsI_at hz)).2] at hcc
      have hzR : (z.r : Int) ∈ refsI obs := List.mem_map.2 ⟨z, List.mem_of_getElem? hz, rfl⟩
      have hxR : (x.r : Int) ∈ refsI obs := List.mem_map.2 ⟨x, List.mem_of_getElem? hx, rfl⟩
      have hyR : (y.r : Int) ∈ refsI obs := List.mem_map.2 ⟨y, List.mem_of_getElem? hy, rfl⟩
      subst hv
      have HY := Lib.hid (And.intro hx (And.intro hy (And.intro hz (And.intro hxR (And.intro hyR hzR)))))
      clear hn0 hia hib hic hx hy hz hg hlcx hcm hcs hcell hxR hyR hzR
      clear h1a hE0 hl6
      go_wp2_with fail
      go_quiet (fail)
      have h2 := HS.out.1.ask (below_drewG _ nq)
      have hE2 := HS.out.2.1.drewN nq
      generalize (wr.alloc (.cells #[.int .u8 (qa : Int), .int .u8 (qb : Int), .int .u8 (qc : Int), .int .u8 (qd : Int)] 38)).drewN nq = V1 at *
      have hx3 := hE2.cell 3
      simp only [List.getElem?_toArray, List.getElem?_cons_zero, List.getElem?_cons_succ] at hx3
      have hyb := HO.out.bd _ HY.out.2.2.2.2.1
      have hzb := HO.out.bd _ HY.out.2.2.2.2.2
      have hwy := wf_ref hyb.1 hyb.2
      have hwz := wf_ref hzb.1 hzb.2
      have H2 := Lib.hid (And.intro h2 (And.intro hyb (And.intro hzb (And.intro hwy hwz))))
      clear h2 hE2 hta htb htc hla hlb hlc hin hinb hlaI hlbI hlcI hla0 hlb0 hlc0 hwa hwb hwc hca hcb hcc hx0 hx1 hx2 hd0 hd1 hd2 hd3 hyb hzb hwy hwz
      obtain ⟨ey, hey⟩ : ∃ ey, (bits .and .u8 (qd : Int) 1 == 1) = ey := ⟨_, rfl⟩
      obtain ⟨m0, hm0, hand⟩ := u8_and_maskC ((qd : Int) / 2) 3 (by decide)
      obtain ⟨m, hm⟩ : ∃ m : Int, (m0 : Int) = m := ⟨_, rfl⟩
      have hand3 : bits .and .u8 ((qd : Int) / 2) 3 = m := hand.trans hm
      have hm3 : m = 0 ∨ m = 1 ∨ m = 2 ∨ m = 3 := by omega
      have HM3 := Lib.hid hm3
      clear hand hm hm0 hm3
      go_upto_block 2 with fail
      go_cut [13] (fun v13 wx => v13 = .int .i64 (x.r : Int) ∧ ∃ (hue : Int → Int) (T : MkB) (c : Col), HuB yuK w2.heap.size mb n rb (2 * i + 2) X s obs (.slice (some ⟨g, 0, none⟩) L cap) f (ptsAt obs) w2 hue T c bt tm wx ∧ Gy (refsI obs) c hue)
      case first =>
        clear hx3
        rcases HM3.out with rfl | rfl | rfl | rfl
        · skip
          have cP := yu_pre H2.out.1.br (x.r : Int) (y.r : Int) (.inl HY.out.2.2.2.2.1) HO.out.bd
          go_wp2_with fail
          refine cP.mono ?_
          rintro e V2 ⟨rfl, T2, hb2, hk2⟩
          obtain ⟨w7, hrun, h7⟩ := (H2.out.1.went hb2 (hk2 rb rfl)).put (by omega) (y.r : Int) H2.out.2.2.2.1 1 (by decide)
          have H7 := Lib.hid (And.intro (HuB.up h7 (show 2 * i + 1 ≤ 2 * i + 2 by omega)) (HS.out.2.2.shadeZ HY.out.2.2.2.2.1 (by have := H2.out.2.1; omega)))
          clear cP hb2 hk2 h7
          go_wp2_with (at_mapUpdate; refine wpList_mapUpdate_run _ rfl _ _ _ _ rfl _ _ _ rfl rfl rfl hrun ?_)
          go_meet
          case rel => exact ⟨rfl, _, _, _, H7.out.1, H7.out.2⟩
        · skip
          have cP := yu_post H2.out.1.br (x.r : Int) (y.r : Int) (z.r : Int) false ey (.inl HY.out.2.2.2.2.1) (.inl HY.out.2.2.2.2.2) HO.out.bd
          cases ey with
          | false =>
            go_wp2_with fail
            refine cP.mono ?_
            rintro e V2 ⟨rfl, T2, hb2, hk2⟩
            simp only [Bool.false_eq_true, if_false, Col.shadeZ_no] at hb2
            obtain ⟨w7, hrun, h7⟩ := (H2.out.1.went hb2 (hk2 rb rfl)).put (by omega) (y.r : Int) H2.out.2.2.2.1 1 (by decide)
            have H7 := Lib.hid (And.intro (HuB.up h7 (show 2 * i + 1 ≤ 2 * i + 2 by omega)) (HS.out.2.2.shadeZ HY.out.2.2.2.2.1 (by have := H2.out.2.1; omega)))
            clear cP hb2 hk2 h7
            go_wp2_with (at_mapUpdate; refine wpList_mapUpdate_run _ rfl _ _ _ _ rfl _ _ _ rfl rfl rfl hrun ?_)
            go_meet
            case rel => exact ⟨rfl, _, _, _, H7.out.1, H7.out.2⟩
          | true =>
            go_wp2_with fail
            refine cP.mono ?_
            rintro e V2 ⟨rfl, T2, hb2, hk2⟩
            simp only [if_true] at hb2
            obtain ⟨w7, hrun, h7⟩ := (H2.out.1.went hb2 (hk2 rb rfl)).put (by omega) (y.r : Int) H2.out.2.2.2.1 1 (by decide)
            obtain ⟨w8, hrun8, h8⟩ := h7.put (by omega) (z.r : Int) H2.out.2.2.2.2 1 (by decide)
            have H7 := Lib.hid (And.intro h8 ((HS.out.2.2.shadeZ HY.out.2.2.2.2.1 (by have := H2.out.2.1; omega)).shadeZ HY.out.2.2.2.2.2 (by have := H2.out.2.2.1; omega)))
            clear cP hb2 hk2 h7 h8
            go_wp2_with (first | (at_mapUpdate; refine wpList_mapUpdate_run _ rfl _ _ _ _ rfl _ _ _ rfl rfl rfl hrun ?_) | (at_mapUpdate; refine wpList_mapUpdate_run _ rfl _ _ _ _ rfl _ _ _ rfl rfl rfl hrun8 ?_))
            go_meet
            case rel => exact ⟨rfl, _, _, _, H7.out.1, H7.out.2⟩
        · skip
          have cP := yu_post H2.out.1.br 0 0 (z.r : Int) false ey (.inr rfl) (.inl HY.out.2.2.2.2.2) HO.out.bd
          rw [Col.shadeZ_no] at cP
          cases ey with
          | false =>
            go_wp2_with fail
            refine cP.mono ?_
            rintro e V2 ⟨rfl, T2, hb2, hk2⟩
            simp only [Bool.false_eq_true, if_false, Col.shadeZ_no] at hb2
            have H7 := Lib.hid (And.intro (HuB.up (H2.out.1.went hb2 (hk2 rb rfl)) (show 2 * i ≤ 2 * i + 2 by omega)) HS.out.2.2)
            clear cP hb2 hk2
            go_wp2_with fail
            go_meet
            case rel => exact ⟨rfl, _, _, _, H7.out.1, H7.out.2⟩
          | true =>
            go_wp2_with fail
            refine cP.mono ?_
            rintro e V2 ⟨rfl, T2, hb2, hk2⟩
            simp only [if_true] at hb2
            obtain ⟨w7, hrun, h7⟩ := (H2.out.1.went hb2 (hk2 rb rfl)).put (by omega) (z.r : Int) H2.out.2.2.2.2 1 (by decide)
            have H7 := Lib.hid (And.intro (HuB.up h7 (show 2 * i + 1 ≤ 2 * i + 2 by omega)) (HS.out.2.2.shadeZ HY.out.2.2.2.2.2 (by have := H2.out.2.2.1; omega)))
            clear cP hb2 hk2 h7
            go_wp2_with (at_mapUpdate; refine wpList_mapUpdate_run _ rfl _ _ _ _ rfl _ _ _ rfl rfl rfl hrun ?_)
            go_meet
            case rel => exact ⟨rfl, _, _, _, H7.out.1, H7.out.2⟩
        · skip
          have cP := yu_pre H2.out.1.br (x.r : Int) 0 (.inr rfl) HO.out.bd
          rw [Col.shadeZ_no] at cP
          go_wp2_with fail
          refine cP.mono ?_
          rintro e V2 ⟨rfl, T2, hb2, hk2⟩
          have H7 := Lib.hid (And.intro (HuB.up (H2.out.1.went hb2 (hk2 rb rfl)) (show 2 * i ≤ 2 * i + 2 by omega)) HS.out.2.2)
          clear cP hb2 hk2
          go_wp2_with fail
          go_meet
          case rel => exact ⟨rfl, _, _, _, H7.out.1, H7.out.2⟩
      case rest =>
        obtain ⟨rfl, hue7, T7, c7, hb7, hgy7⟩ := hcut
        have hl7 := hb7.br.gm.go.row.lenRun 3
        rw [refsI_length, ← HL.out] at hl7
        have H7 := Lib.hid (And.intro hb7 hgy7)
        clear hb7 hgy7 hx3 hand3
        go_wp2_with fail
        clear hl7
        go_loopw [122] (fun v122 V => ∃ k : Nat, k ≤ L ∧ v122 = .int .i64 (k : Int) ∧ Below wc.heap.size wc V) (fun v122 _ => L - (intOf v122).toNat)
        case atStart => exact ⟨0, Nat.zero_le _, rfl, Below.refl _ _⟩
        case round =>
        obtain ⟨k, hk, rfl, hBW⟩ := hrel
        have hk0 : (0 : Int) ≤ (k : Int) := by omega
        have hV := H7.out.1.ask hBW
        by_cases hlt2 : k < L
        · have hk1 : (k : Int) < (L : Int) := by omega
          obtain ⟨u, hu⟩ : ∃ u, obs[k]? = some u := ⟨_, List.getElem?_eq_getElem (by have := HL.out; omega)⟩
          have huR : (u.r : Int) ∈ refsI obs := List.mem_map.2 ⟨u, List.mem_of_getElem? hu, rfl⟩
          have hub := HO.out.bd _ huR
          have hwf2 : (Lit.int .i64 (u.r : Int)).wf = true := wf_ref hub.1 hub.2
          have hca2 := row_cellB hV.br.gm.go.row (refsI_at hu)
          obtain ⟨v, hv⟩ : ∃ v, hue7 (u.r : Int) = v := ⟨_, rfl⟩
          have hvc : v = colV c7 (u.r : Int) := by rw [← hv]; exact H7.out.2.hu.is _ huR
          have hs : c7.sc (u.r : Int) = false := H7.out.2.sc _
          have hD := hV.ask (Below.refl _ _).drew
          have hlk := hD.look (u.r : Int) hwf2 v hv
          have cMa := hD.br.gm.at_.marked (u.r : Int)
          rw [hD.br.tm] at cMa
          unfold colV at hvc
          rw [hs] at hvc
          have HD := Lib.hid hD
          have HX := Lib.hid (And.intro hwf2 (And.intro hv (And.intro hBW hs)))
          clear hu huR hub hwf2 hV hD hBW hs
          cases hm : c7.ma (u.r : Int) with
          | false =>
            rw [hm] at hvc cMa
            have hv0 : v = 0 := by simpa using hvc
            subst hv0
            have HMS := Lib.hid hm
            clear hm hvc
            go_wp2_with fail
            go_region_held3 (fun W' => (Instr.lookup 37 (.map (some rb)) (.int .i64 (u.r : Int)) false).run Tryz.prog W' = .ok (.int .i64 0) W')
              (first | exact hS8 | exact hS7 | exact hlk)
              (first
                | (go_at_call 13; refine cMa.mono ?_; rintro e V1' ⟨rfl, hB1⟩; have hA1 := HD.out.ask hB1; have hS7 := hA1.look (u.r : Int) HX.out.1 0 HX.out.2.1; have cSc := hA1.br.gm.at_.scanned (u.r : Int); rw [hA1.br.tm, HX.out.2.2.2] at cSc)
                | (go_at_call 14; refine cSc.mono ?_; rintro e V2 ⟨rfl, hB2⟩; have hA2 := hA1.ask hB2; have hS8 := hA2.look (u.r : Int) HX.out.1 0 HX.out.2.1))
            all_goals
              have HB2 := Lib.hid (HX.out.2.2.1.trans ((((Below.refl _ _).drew.trans (below_step hB1 hB2))).mono HX.out.2.2.1.size))
              clear cMa cSc hB1 hB2 hA1 hA2 hS7 hS8
              go_wp2_with fail
              go_roundw
              case rel => exact ⟨k + 1, by omega, by go_num, HB2.out⟩
              case measure => simp [intOf]; omega
          | true =>
            rw [hm] at hvc cMa
            have hv0 : v = 1 := by simpa using hvc
            subst hv0
            have HMS := Lib.hid hm
            clear hm hvc
            go_wp2_with fail
            go_region_held3 (fun W' => (Instr.lookup 37 (.map (some rb)) (.int .i64 (u.r : Int)) false).run Tryz.prog W' = .ok (.int .i64 1) W')
              (first | exact hS8 | exact hS7 | exact hlk)
              (first
                | (go_at_call 13; refine cMa.mono ?_; rintro e V1' ⟨rfl, hB1⟩; have hA1 := HD.out.ask hB1; have hS7 := hA1.look (u.r : Int) HX.out.1 1 HX.out.2.1; have cSc := hA1.br.gm.at_.scanned (u.r : Int); rw [hA1.br.tm, HX.out.2.2.2] at cSc)
                | (go_at_call 14; refine cSc.mono ?_; rintro e V2 ⟨rfl, hB2⟩; have hA2 := hA1.ask hB2; have hS8 := hA2.look (u.r : Int) HX.out.1 1 HX.out.2.1))
            all_goals
              have HB2 := Lib.hid (HX.out.2.2.1.trans ((((Below.refl _ _).drew.trans (below_step hB1 hB2))).mono HX.out.2.2.1.size))
              clear cMa cSc hB1 hB2 hA1 hA2 hS7 hS8
              go_wp2_with fail
              go_roundw
              case rel => exact ⟨k + 1, by omega, by go_num, HB2.out⟩
              case measure => simp [intOf]; omega
        · have hk1 : ¬ (k : Int) < (L : Int) := by omega
          have hbF := H7.out.1.ask hBW
          have HF := Lib.hid (And.intro hbF H7.out.2)
          clear hlt2 hV hBW hbF
          go_wp2_with fail
          go_roundw
          case rel => exact ⟨i + 1, hue7, T7, c7, hlt, by go_num, by rw [show 2 * (i + 1) = 2 * i + 2 by omega]; exact HF.out.1, HF.out.2⟩
          case measure => simp [intOf]; omega
  · have hi1 : ¬ (i : Int) < (n1 : Int) := by omega
    clear hlt
    have hA := h1
    go_wp2_with fail
    generalize wr = W at *
    have hcn : Calls Tryz.prog 15 #[.pointer (some ⟨tm, 0, none⟩)] W fun e w' => e = .returned (.int .i64 (((refsI obs).filter c.ma).length : Int)) ∧ Below W.heap.size W w' := by
      have h9 := hA.br.gm.at_.count ((refsI obs).filter c.ma) (HO.out.nd.filter _) (fun y => by
        rw [List.mem_filter]
        exact ⟨fun h => h.2, fun h => ⟨hA.br.gm.inn y h, h⟩⟩)
      rw [hA.br.tm] at h9
      exact h9
    refine hcn.mono ?_
    rintro e V8 ⟨rfl, hB8⟩
    have hA8 := hA.ask hB8
    have hcn2 : ∀ V, Below V8.heap.size V8 V → Calls Tryz.prog 15 #[.pointer (some ⟨tm, 0, none⟩)] V fun e w' => e = .returned (.int .i64 (((refsI obs).filter c.ma).length : Int)) ∧ Below V.heap.size V w' := fun V hB => by
      have h8 := hA8.ask hB
      have h9 := h8.br.gm.at_.count ((refsI obs).filter c.ma) (HO.out.nd.filter _) (fun y => by
        rw [List.mem_filter]
        exact ⟨fun h => h.2, fun h => ⟨h8.br.gm.inn y h, h⟩⟩)
      rw [h8.br.tm] at h9
      exact h9
    have cR := yu_remark bt V8
    have cR2 := yu_reset bt V8
    have H8 := Lib.hid hA8
    have hcc := hcn2 V8 (Below.refl _ _)
    generalize (((refsI obs).filter c.ma).length : Int) = kc at *
    have hkk : (kc == kc) = true := by simp
    clear hcn hB8 hA8 hA hcn2
    go_wp2_with fail
    refine cR.mono ?_
    rintro e w' ⟨rfl, rfl⟩
    clear cR
    go_wp2_with fail
    refine cR2.mono ?_
    rintro e w' ⟨rfl, rfl⟩
    clear cR2
    go_wp2_with fail
    refine hcc.mono ?_
    rintro e V9 ⟨rfl, hB9⟩
    have HF := Lib.hid (HW2.out.trans ((H8.out.ask hB9).br.gm.below.mono HW2.out.size))
    clear hcc hB9
    go_wp2_with fail
    go_ret
    exact ⟨rfl, HF.out⟩
/-- As the frame asks it. -/
theorem yruns_frame (a0 : Option Addr) (zs : List Int) (cf : Nat) (e0 : Option Addr) (ne ce : Nat) (Q : Nat → Nat → Int) (a1 : Option Addr) (n1 c1 : Nat) (Q1 : Nat → Nat → Int) (w : World) (hl : n1 ≤ 9223372036854775807)
    (hF : BytesW w a0 zs) (hE : EdgesW w e0 ne Q) (hP : FoursW w a1 n1 Q1) (hTb : TabAt w) (hT : TableAt w) :
    Calls Tryz.prog 3 #[.agg #[.slice a0 zs.length cf, .slice e0 ne ce], .slice a1 n1 c1] w fun e w' => e = .returned (.bool true) ∧ Below w.heap.size w w' := yruns_true a0 zs cf e0 ne ce Q a1 n1 c1 Q1 w hF hE hP ⟨hT, hTb⟩
end Go.Proofs.YtihjijfeogapdaaGreatDoor
