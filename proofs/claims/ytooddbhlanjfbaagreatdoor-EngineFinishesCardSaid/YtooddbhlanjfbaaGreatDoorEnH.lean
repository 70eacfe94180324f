/- EngineFinishes, walked; at this seat's numbers. -/
import Derived.Test.YtooddbhlanjfbaaGreatDoorEnE
import Derived.Test.YtooddbhlanjfbaaGreatDoorAppA
namespace Go.Proofs.YtooddbhlanjfbaaGreatDoor
open Go Go.RowKit Go.Shelf Go.MuLone Go.RwLone
set_option linter.unusedSimpArgs false
set_option linter.unusedVariables false
attribute [local go_sem] Oper.semAt_some

theorem remS_none (e : Nat) : remS e EnS.none = EnS.none := by
  unfold remS; split <;> rfl
theorem wrapL {ls a b : Nat} (h : ls = a + b) (h9 : a + b ≤ 9223372036854775807) : wrap64 ((a : Int) + (b : Int)) = (ls : Int) := by
  subst h; simp [wrap64]; omega
set_option maxRecDepth 100000 in
set_option maxHeartbeats 16000000 in
theorem enfin_true (b0 b1 b2 b3 b4 b5 : Nat) (hb6 : b0 ≤ 255 ∧ b1 ≤ 255 ∧ b2 ≤ 255 ∧ b3 ≤ 255 ∧ b4 ≤ 255 ∧ b5 ≤ 255) (a0 : Option Addr) (zs : List Int) (cf : Nat) (e0 : Option Addr) (ne ce : Nat) (Q : Nat → Nat → Int) (a1 : Option Addr) (us : List Int) (c1 : Nat) (a2 : Option Addr) (vs : List Int) (c2 : Nat) (hsum : us.length + vs.length ≤ 9223372036854775807) (w : World)
    (hF : BytesW w a0 zs) (hE : EdgesW w e0 ne Q) (hU : BytesW w a1 us) (hV : BytesW w a2 vs) (hT : Tabs w) :
    Calls Tryz.prog 5 #[.agg #[.int .u8 (b0 : Int), .int .u8 (b1 : Int), .int .u8 (b2 : Int), .int .u8 (b3 : Int), .int .u8 (b4 : Int), .int .u8 (b5 : Int)], .agg #[.slice a0 zs.length cf, .slice e0 ne ce], .agg #[.slice a1 us.length c1, .slice a2 vs.length c2]] w fun e w' => e = .returned (.bool true) ∧ Below w.heap.size w w' := by
  have HA := Lib.hid (And.intro hF (And.intro hE (And.intro hU hV)))
  clear hF hE hU hV
  go_enter Tryz.func5, Tryz.ntmps5
  go_wp2_with fail
  have hX := ((Blk.new w #[.int .u8 (b0 : Int), .int .u8 (b1 : Int), .int .u8 (b2 : Int), .int .u8 (b3 : Int), .int .u8 (b4 : Int), .int .u8 (b5 : Int)] 22).alloc (.cells #[.slice a0 zs.length cf, .slice e0 ne ce] 26)).alloc (.cells #[.slice a1 us.length c1, .slice a2 vs.length c2] 69)
  have hY := Blk.new ((w.alloc (.cells #[.int .u8 (b0 : Int), .int .u8 (b1 : Int), .int .u8 (b2 : Int), .int .u8 (b3 : Int), .int .u8 (b4 : Int), .int .u8 (b5 : Int)] 22)).alloc (.cells #[.slice a0 zs.length cf, .slice e0 ne ce] 26)) #[.slice a1 us.length c1, .slice a2 vs.length c2] 69
  have hG := (Blk.new (w.alloc (.cells #[.int .u8 (b0 : Int), .int .u8 (b1 : Int), .int .u8 (b2 : Int), .int .u8 (b3 : Int), .int .u8 (b4 : Int), .int .u8 (b5 : Int)] 22)) #[.slice a0 zs.length cf, .slice e0 ne ce] 26).alloc (.cells #[.slice a1 us.length c1, .slice a2 vs.length c2] 69)
  simp only [World.size_alloc, Nat.add_assoc, Nat.reduceAdd] at hG hY
  have hB0 := ((Below.refl w.heap.size w).alloc (Nat.le_refl _) (.cells #[.int .u8 (b0 : Int), .int .u8 (b1 : Int), .int .u8 (b2 : Int), .int .u8 (b3 : Int), .int .u8 (b4 : Int), .int .u8 (b5 : Int)] 22)).alloc (by simp) (.cells #[.slice a0 zs.length cf, .slice e0 ne ce] 26) |>.alloc (by simp; omega) (.cells #[.slice a1 us.length c1, .slice a2 vs.length c2] 69)
  have hT0 := hT.below hB0
  generalize ((w.alloc (.cells #[.int .u8 (b0 : Int), .int .u8 (b1 : Int), .int .u8 (b2 : Int), .int .u8 (b3 : Int), .int .u8 (b4 : Int), .int .u8 (b5 : Int)] 22)).alloc (.cells #[.slice a0 zs.length cf, .slice e0 ne ce] 26)).alloc (.cells #[.slice a1 us.length c1, .slice a2 vs.length c2] 69) = W0 at *
  refine (enfit_true W0 hT0).mono ?_
  rintro e w1 ⟨rfl, hB1⟩
  have hG1 := hG.turn (Turn.ofBelow hB1) (fun e => Nat.lt_irrefl _ (Nat.lt_of_lt_of_le hG.lt e))
  have hY1 := hY.turn (Turn.ofBelow hB1) (fun e => Nat.lt_irrefl _ (Nat.lt_of_lt_of_le hY.lt e))
  have y0 := hY1.cell 0
  have y1 := hY1.cell 1
  simp only [List.getElem?_toArray, List.getElem?_cons_zero, List.getElem?_cons_succ] at y0 y1
  have hX1 := hX.turn (Turn.ofBelow hB1) (fun e => Nat.lt_irrefl _ (Nat.lt_of_lt_of_le hX.lt e))
  have hB01 := hB0.trans (hB1.mono hB0.size)
  have g0 := hG1.cell 0
  have g1 := hG1.cell 1
  simp only [List.getElem?_toArray, List.getElem?_cons_zero, List.getElem?_cons_succ] at g0 g1
  obtain ⟨q, hq⟩ : ∃ q, (decide (zs.length ≤ 40) && decide (ne ≤ 120)) = q := ⟨_, rfl⟩
  have cS := small_any a0 zs.length cf e0 ne ce w1 q hq
  have HW1 := Lib.hid (And.intro hG1 (And.intro hX1 (And.intro hB01 (And.intro (hT.below hB01) hY1))))
  clear hB0 hB1 hG hX hT0 hG1 hX1 hT hB01 hY hY1 y0 y1
  go_wp2_with fail
  refine cS.mono ?_
  rintro e w2 ⟨rfl, hB2⟩
  have hB02 := HW1.out.2.2.1.trans (hB2.mono HW1.out.2.2.1.size)
  clear cS g0 g1
  have hY2 := HW1.out.2.2.2.2.turn (Turn.ofBelow hB2) (fun e => Nat.lt_irrefl _ (Nat.lt_of_lt_of_le HW1.out.2.2.2.2.lt e))
  have y0 := hY2.cell 0
  have y1 := hY2.cell 1
  simp only [List.getElem?_toArray, List.getElem?_cons_zero, List.getElem?_cons_succ] at y0 y1
  obtain ⟨ls, hls⟩ : ∃ ls : Nat, ls = us.length + vs.length := ⟨_, rfl⟩
  by_cases hsm : zs.length ≤ 40 ∧ ne ≤ 120 ∧ ls ≤ 30
  case neg =>
    cases q with
    | false =>
      clear hsm hq
      go_wp2_with fail
      go_ret
      exact ⟨rfl, hB02⟩
    | true =>
      have h20 : 30 < (us.length : Int) + (vs.length : Int) := by
        have h1 : zs.length ≤ 40 := by simpa using (Bool.and_eq_true_iff.1 hq).1
        have h2 : ne ≤ 120 := by simpa using (Bool.and_eq_true_iff.1 hq).2
        have : ¬ ls ≤ 30 := fun h3 => hsm ⟨h1, h2, h3⟩
        omega
      clear hsm hq
      go_wp2_with fail
      go_ret
      exact ⟨rfl, hB02⟩
  case pos =>
  obtain ⟨h40, h120, hn60⟩ := hsm
  have hqt : q = true := by rw [← hq, decide_eq_true h40, decide_eq_true h120]; rfl
  subst hqt
  have hn60I : ¬ 30 < (us.length : Int) + (vs.length : Int) := by omega
  have hX2 := HW1.out.2.1.turn (Turn.ofBelow hB2) (fun e => Nat.lt_irrefl _ (Nat.lt_of_lt_of_le HW1.out.2.1.lt e))
  have hG2 := HW1.out.1.turn (Turn.ofBelow hB2) (fun e => Nat.lt_irrefl _ (Nat.lt_of_lt_of_le HW1.out.1.lt e))
  have x0 := hX2.cell 0
  have x1 := hX2.cell 1
  have x2 := hX2.cell 2
  have x3 := hX2.cell 3
  have x4 := hX2.cell 4
  have x5 := hX2.cell 5
  simp only [List.getElem?_toArray, List.getElem?_cons_zero, List.getElem?_cons_succ] at x0 x1 x2 x3 x4 x5
  have cC := cfMade_any b0 b1 b2 b3 b4 b5 hb6 w2
  have HW2 := Lib.hid (And.intro hB02 (And.intro hX2 (And.intro hG2 (And.intro (HW1.out.2.2.2.1.below hB2) hY2))))
  have H40 := Lib.hid (And.intro h40 (And.intro h120 (And.intro hn60 hls)))
  clear hG2 hX2 hB02 hB2 HW1 hq h40 h120 hn60 hY2 hls
  go_wp2_with fail
  refine cC.mono ?_
  rintro e w3 ⟨gc, rfl, hmay, hB3, _⟩
  clear y0 y1
  have hCf := Blk.new w3 gc.arr 30
  have hB34 := (Below.refl w3.heap.size w3).alloc (Nat.le_refl _) (.cells gc.arr 30)
  have hB24 := hB3.trans (hB34.mono hB3.size)
  have hB04 := HW2.out.1.trans (hB24.mono HW2.out.1.size)
  have hX4 := HW2.out.2.1.turn (Turn.ofBelow hB24) (fun e => Nat.lt_irrefl _ (Nat.lt_of_lt_of_le HW2.out.2.1.lt e))
  have hY4 := HW2.out.2.2.2.2.turn (Turn.ofBelow hB24) (fun e => Nat.lt_irrefl _ (Nat.lt_of_lt_of_le HW2.out.2.2.2.2.lt e))
  have hG4 := HW2.out.2.2.1.turn (Turn.ofBelow hB24) (fun e => Nat.lt_irrefl _ (Nat.lt_of_lt_of_le HW2.out.2.2.1.lt e))
  have hT4 := HW2.out.2.2.2.1.below hB24
  have g0 := hG4.cell 0
  have g1 := hG4.cell 1
  simp only [List.getElem?_toArray, List.getElem?_cons_zero, List.getElem?_cons_succ] at g0 g1
  have cM := made_any a0 zs cf e0 ne ce Q (w3.alloc (.cells gc.arr 30)) H40.out.1 H40.out.2.1 (HA.out.1.under hB04 (Nat.le_refl _)) (HA.out.2.1.under hB04 (Nat.le_refl _)) hT4.c
  have HW4 := Lib.hid (And.intro hB04 (And.intro hX4 (And.intro hCf (And.intro hT4.b hY4))))
  have HMAY := Lib.hid hmay
  clear cC x0 x1 x2 x3 x4 x5 hmay hB3 hCf hB34 hB24 hB04 hX4 hG4 hT4 hY4
  go_wp2_with fail
  have HW4b := HW4.out
  clear HW4
  obtain ⟨w4, hw4⟩ : ∃ w4, w4 = w3.alloc (.cells gc.arr 30) := ⟨_, rfl⟩
  obtain ⟨cb, hcb⟩ : ∃ cb, cb = w3.heap.size := ⟨_, rfl⟩
  rw [← hw4] at cM HW4b g0 g1 ⊢
  rw [← hcb] at HW4b ⊢
  have HW4 := Lib.hid HW4b
  clear hw4 hcb HW4b
  refine cM.mono ?_
  rintro e w5 hMP
  obtain ⟨X, s, obs, vl, mb, n, f, rfl, hMO⟩ := hMP.ok HW4.out.2.2.2.1
  obtain ⟨L, hL⟩ : ∃ L, L = obs.length := ⟨_, rfl⟩
  have hLI : (L : Int) ≤ 40 := by have := hMO.len; have := H40.out.1; omega
  have hl6 := hMO.go.row.lenRun 3
  rw [refsI_length, ← hL] at hl6
  have HO := Lib.hid hMO
  have HL := Lib.hid hL
  by_cases hn0 : L = 0
  · have hLz : ((L : Int) == 0) = true := by simp; omega
    have HF := Lib.hid (HW4.out.1.trans (hMO.go.ar.below.mono HW4.out.1.size))
    clear hMO hMP cM g0 g1 hL hn0
    go_wp2_with fail
    go_ret
    exact ⟨rfl, HF.out⟩
  have hLz : ((L : Int) == 0) = false := by simp; omega
  have hL0 : 0 < L := by omega
  rcases hMO.go.row.is with ⟨_, e⟩ | ⟨g, cap, cur, hv, hg, hlc, hcm, hcs, hcell⟩
  · have := congrArg List.length e; rw [refsI_length, ← hL] at this; simp at this; omega
  rw [refsI_length, ← hL] at hv
  subst hv
  have hRL : (refsI obs).length = L := by rw [refsI_length, ← hL]
  have hlcI : (L : Int) ≤ (cap : Int) := by omega
  have hcmI : (cap : Int) ≤ 9223372036854775807 := by omega
  have HROW := Lib.hid hMO.go.row
  have hY5 := HW4.out.2.2.2.2.turn (Turn.ofBelow hMO.go.ar.below) (fun e => Nat.lt_irrefl _ (Nat.lt_of_lt_of_le HW4.out.2.2.2.2.lt e))
  have HB5 := Lib.hid (HW4.out.1.trans (hMO.go.ar.below.mono HW4.out.1.size))
  have y0 := hY5.cell 0
  have y1 := hY5.cell 1
  simp only [List.getElem?_toArray, List.getElem?_cons_zero, List.getElem?_cons_succ] at y0 y1
  have HY5 := Lib.hid hY5
  clear hMO hMP cM g0 g1 hL hn0 hg hlc hcm hcs hcell hY5
  go_wp2_with fail
  clear y0 y1 hl6
  go_loopw [11, 53] (fun v11 v53 W => ∃ (i : Nat) (l1 : List Int) (va : Value), i ≤ us.length ∧ v53 = .int .i64 (i : Int) ∧ v11 = va ∧ RefRow W va l1 ∧ l1.length ≤ i ∧ (∀ x ∈ l1, x ∈ refsI obs) ∧ Below w5.heap.size w5 W ∧ ∀ k, va.ownBlock = some k → w5.heap.size ≤ k) (fun _ v53 _ => us.length - (intOf v53).toNat)
  case atStart => exact ⟨0, [], _, Nat.zero_le _, rfl, rfl, World.ownsRow_nil _ _ _ _, Nat.le_refl _, (fun x hx => by cases hx), Below.refl _ _, (fun k e => by cases e)⟩
  case round =>
  obtain ⟨i, l1, va, hi, rfl, rfl, hR, hll, hlin, hB, hN⟩ := hrel
  have hi0 : (0 : Int) ≤ (i : Int) := by omega
  by_cases hlt : i < us.length
  · have hi1 : (i : Int) < (us.length : Int) := by omega
    have hB06 := HB5.out.trans (hB.mono HB5.out.size)
    obtain ⟨bk, off, rfl, hbk, hcU, hwU⟩ := HA.out.2.2.1 i hlt
    have hd0 := (hB06.cell (p := ⟨bk, off + i, none⟩) hbk).trans hcU
    obtain ⟨z, hz, hz6⟩ := u8_natW hwU
    rw [hz] at hd0
    obtain ⟨ia, hta, hla, hwa⟩ := mod_run (L := L) hL0 hz6
    have hin : ¬ (L : Int) = 0 := by omega
    have hlaI : (ia : Int) < (L : Int) := by omega
    have hla0 : (0 : Int) ≤ (ia : Int) := by omega
    obtain ⟨x, hx⟩ : ∃ x, obs[ia]? = some x := ⟨_, List.getElem?_eq_getElem (by have := HL.out; omega)⟩
    have hxR : (x.r : Int) ∈ refsI obs := List.mem_of_getElem? (refsI_at hx)
    have hrowW := HROW.out.turn (Turn.ofBelow hB) (fun k e e2 => Nat.lt_irrefl _ (Nat.lt_of_lt_of_le (HROW.out.lt e) e2))
    have hca := row_cellB hrowW (refsI_at hx)
    have hl6 := hrowW.lenRun 3
    rw [refsI_length, ← HL.out] at hl6
    have hb1 := (Below.refl wr.heap.size wr).alloc (Nat.le_refl _) (.cells #[.int .i64 (x.r : Int)] 44)
    have hRa := hR.turn (Turn.ofBelow hb1) (fun k e e2 => Nat.lt_irrefl _ (Nat.lt_of_lt_of_le (hR.lt e) e2))
    have hls : l1.length ≤ 100000 := by have := H40.out.2.2.1; have := H40.out.2.2.2; omega
    have H := Lib.hid (And.intro hB (And.intro hN (And.intro hll (And.intro hlin hxR))))
    clear hz hwU hbk hcU hB06 hx hxR hrowW hb1 hR hB hN hll hlin
    go_wp2_with (at_builtin; refine wpList_pushT rfl _ _ rfl hRa hls wr.heap.size 1 (x.r : Int) ((Blk.new wr _ _).cell 0) rfl rfl ?_; intro g6 n6 c6 w6 hR6 hT6 hN6; have H6 := Lib.hid (And.intro hR6 (And.intro hT6 hN6)); clear hR6 hT6 hN6 hRa)
    go_roundw
    case rel =>
      obtain ⟨hB, hN, hll, hlin, hxR⟩ := H.out
      obtain ⟨hR6, hT6, hN6⟩ := H6.out
      refine ⟨i + 1, l1 ++ [(x.r : Int)], _, hlt, by go_num, rfl, hR6, by rw [List.length_append, List.length_singleton]; omega, fun y hy => ?_, ?_, fun k e => ?_⟩
      · rcases List.mem_append.1 hy with e | e
        · exact hlin y e
        · simp at e; rw [e]; exact hxR
      · exact (hB.alloc hB.size _).trans ((hT6.below _ (by simp; have := hB.size; omega) (fun k hk e => by have := hN k e; omega)))
      · have e2 := own_slice e
        subst e2
        rcases hN6 with e3 | e3
        · exact hN _ e3
        · simp at e3; have := hB.size; omega
    case measure => simp [intOf]; omega
  · have hi1 : ¬ (i : Int) < (us.length : Int) := by omega
    have hY6 := HY5.out.turn (Turn.ofBelow hB) (fun e => Nat.lt_irrefl _ (Nat.lt_of_lt_of_le HY5.out.lt e))
    have y1 := hY6.cell 1
    simp only [List.getElem?_toArray, List.getElem?_cons_zero, List.getElem?_cons_succ] at y1
    have HA1 := Lib.hid (And.intro hR (And.intro hll (And.intro hlin (And.intro hB hN))))
    have HB6 := Lib.hid (HB5.out.trans (hB.mono HB5.out.size))
    have hiu : i = us.length := by omega
    have HIU := Lib.hid hiu
    clear hY6 hR hll hlin hB hN hlt hi hi0 hiu
    go_wp2_with fail
    clear y1 hi1
    obtain ⟨w6, hw6⟩ : ∃ w6, w6 = wr := ⟨_, rfl⟩
    subst hw6
    obtain ⟨l0, hl0⟩ : ∃ l0, l0 = l1 := ⟨_, rfl⟩
    subst hl0
    obtain ⟨v0, hv0⟩ : ∃ v0, v0 = u11 := ⟨_, rfl⟩
    subst hv0
    obtain ⟨i0, hi0⟩ : ∃ i0, i0 = i := ⟨_, rfl⟩
    subst hi0
    go_loopw [12, 72] (fun v12 v72 W => ∃ (i : Nat) (l1 : List Int) (va : Value), i ≤ vs.length ∧ v72 = .int .i64 (i : Int) ∧ v12 = va ∧ RefRow W va l1 ∧ l1.length ≤ i ∧ (∀ x ∈ l1, x ∈ refsI obs) ∧ Below w6.heap.size w6 W ∧ ∀ k, va.ownBlock = some k → w6.heap.size ≤ k) (fun _ v72 _ => vs.length - (intOf v72).toNat)
    case atStart => exact ⟨0, [], _, Nat.zero_le _, rfl, rfl, World.ownsRow_nil _ _ _ _, Nat.le_refl _, (fun x hx => by cases hx), Below.refl _ _, (fun k e => by cases e)⟩
    case round =>
    obtain ⟨i, l1, va, hi, rfl, rfl, hR, hll, hlin, hB, hN⟩ := hrel
    have hi0 : (0 : Int) ≤ (i : Int) := by omega
    by_cases hlt : i < vs.length
    · have hi1 : (i : Int) < (vs.length : Int) := by omega
      have hB06 := HB6.out.trans (hB.mono HB6.out.size)
      obtain ⟨bk, off, rfl, hbk, hcU, hwU⟩ := HA.out.2.2.2 i hlt
      have hd0 := (hB06.cell (p := ⟨bk, off + i, none⟩) hbk).trans hcU
      obtain ⟨z, hz, hz6⟩ := u8_natW hwU
      rw [hz] at hd0
      obtain ⟨ia, hta, hla, hwa⟩ := mod_run (L := L) hL0 hz6
      have hin : ¬ (L : Int) = 0 := by omega
      have hlaI : (ia : Int) < (L : Int) := by omega
      have hla0 : (0 : Int) ≤ (ia : Int) := by omega
      obtain ⟨x, hx⟩ : ∃ x, obs[ia]? = some x := ⟨_, List.getElem?_eq_getElem (by have := HL.out; omega)⟩
      have hxR : (x.r : Int) ∈ refsI obs := List.mem_of_getElem? (refsI_at hx)
      have hrowW := HROW.out.turn (Turn.ofBelow (HA1.out.2.2.2.1.trans (hB.mono HA1.out.2.2.2.1.size))) (fun k e e2 => Nat.lt_irrefl _ (Nat.lt_of_lt_of_le (HROW.out.lt e) e2))
      have hca := row_cellB hrowW (refsI_at hx)
      have hl6 := hrowW.lenRun 3
      rw [refsI_length, ← HL.out] at hl6
      have hb1 := (Below.refl wr.heap.size wr).alloc (Nat.le_refl _) (.cells #[.int .i64 (x.r : Int)] 44)
      have hRa := hR.turn (Turn.ofBelow hb1) (fun k e e2 => Nat.lt_irrefl _ (Nat.lt_of_lt_of_le (hR.lt e) e2))
      have hls : l1.length ≤ 100000 := by have := H40.out.2.2.1; have := H40.out.2.2.2; omega
      have H := Lib.hid (And.intro hB (And.intro hN (And.intro hll (And.intro hlin hxR))))
      clear hz hwU hbk hcU hB06 hx hxR hrowW hb1 hR hB hN hll hlin
      go_wp2_with (at_builtin; refine wpList_pushT rfl _ _ rfl hRa hls wr.heap.size 1 (x.r : Int) ((Blk.new wr _ _).cell 0) rfl rfl ?_; intro g6 n6 c6 w6 hR6 hT6 hN6; have H6 := Lib.hid (And.intro hR6 (And.intro hT6 hN6)); clear hR6 hT6 hN6 hRa)
      go_roundw
      case rel =>
        obtain ⟨hB, hN, hll, hlin, hxR⟩ := H.out
        obtain ⟨hR6, hT6, hN6⟩ := H6.out
        refine ⟨i + 1, l1 ++ [(x.r : Int)], _, hlt, by go_num, rfl, hR6, by rw [List.length_append, List.length_singleton]; omega, fun y hy => ?_, ?_, fun k e => ?_⟩
        · rcases List.mem_append.1 hy with e | e
          · exact hlin y e
          · simp at e; rw [e]; exact hxR
        · exact (hB.alloc hB.size _).trans ((hT6.below _ (by simp; have := hB.size; omega) (fun k hk e => by have := hN k e; omega)))
        · have e2 := own_slice e
          subst e2
          rcases hN6 with e3 | e3
          · exact hN _ e3
          · simp at e3; have := hB.size; omega
      case measure => simp [intOf]; omega
    · have hi1 : ¬ (i : Int) < (vs.length : Int) := by omega
      obtain ⟨room, m, hgl, hr64, hgm, hm1, hm64⟩ := cfg_room HMAY.out
      obtain ⟨ee, hge, hee⟩ : ∃ ee : Nat, gc.e = (ee : Int) ∧ ee ≤ 3 := by
        have h9 := HMAY.out
        unfold Cfg.may at h9
        simp only [Bool.and_eq_true, inB_iff] at h9
        exact ⟨gc.e.toNat, by omega, by omega⟩
      have hBx := HA1.out.2.2.2.1.trans (hB.mono HA1.out.2.2.2.1.size)
      have hGo := HO.out.go.ask hBx
      have hC5 := HW4.out.2.2.1.turn (Turn.ofBelow hGo.ar.below) (fun e => Nat.lt_irrefl _ (Nat.lt_of_lt_of_le HW4.out.2.2.1.lt e))
      have c8 : wr.cell? ⟨cb, 8, none⟩ = some (.int .i64 gc.m) := hC5.cell 8
      rw [hgm] at c8
      have hR0 := HA1.out.1.keepG (w' := wr) (fun k e => hB.block k (HA1.out.1.lt e))
      have cN := gm_new (E := (fun k => v0.ownBlock = some k ∨ u12.ownBlock = some k)) hGo HO.out.P (m : Int) (fun k e => by
        rcases e with e | e
        · exact hR0.lt e
        · exact hR.lt e) (by omega) HO.out.tab HO.out.tab.lt
      have HC := Lib.hid (And.intro hC5 (And.intro hgl (And.intro hr64 (And.intro hge hee))))
      have hap : ∀ k, v0.ownBlock = some k → ¬ u12.ownBlock = some k := fun k e e2 => by have := HA1.out.1.lt e; have := hN k e2; omega
      have hl0 : l0.length ≤ 30 ∧ l1.length ≤ 30 := by have := HA1.out.2.1; have := HIU.out; have := H40.out.2.2.1; have := H40.out.2.2.2; omega
      have HA2 := Lib.hid (And.intro hR0 (And.intro hR (And.intro hlin (And.intro hap hl0))))
      clear hC5 hgl hr64 hgm hm1 hm64 hge hee hBx hGo hR0 hR hlin hap hl0 hB hN hll hlt hi
      go_wp2_with fail
      refine cN.mono ?_
      rintro e V1 ⟨T, rfl, hGm, hB6⟩
      obtain ⟨tm, htm⟩ : ∃ tm, T.m = tm := ⟨_, rfl⟩
      rw [htm]
      have hC6 := HC.out.1.turn (Turn.ofBelow hB6) (fun e => Nat.lt_irrefl _ (Nat.lt_of_lt_of_le HC.out.1.lt e))
      have k0 : V1.cell? ⟨cb, 0, none⟩ = some (.int .i64 gc.e) := hC6.cell 0
      have k1 : V1.cell? ⟨cb, 1, none⟩ = some (.bool gc.k) := hC6.cell 1
      have k2 : V1.cell? ⟨cb, 2, none⟩ = some (.int .i64 gc.p) := hC6.cell 2
      have k3 : V1.cell? ⟨cb, 3, none⟩ = some (.int .i64 gc.t) := hC6.cell 3
      have k4 : V1.cell? ⟨cb, 4, none⟩ = some (.int .i64 gc.r) := hC6.cell 4
      have k5 : V1.cell? ⟨cb, 5, none⟩ = some (.int .i64 gc.s) := hC6.cell 5
      have k6 : V1.cell? ⟨cb, 6, none⟩ = some (.int .i64 gc.g) := hC6.cell 6
      have k7 : V1.cell? ⟨cb, 7, none⟩ = some (.int .i64 gc.f) := hC6.cell 7
      have k8 : V1.cell? ⟨cb, 8, none⟩ = some (.int .i64 gc.m) := hC6.cell 8
      have k9 : V1.cell? ⟨cb, 9, none⟩ = some (.int .i64 gc.l) := hC6.cell 9
      have k10 : V1.cell? ⟨cb, 10, none⟩ = some (.int .i64 gc.b) := hC6.cell 10
      have cE := en_new (e := ee) (room := room) hGm htm gc HC.out.2.2.2.1 HC.out.2.2.2.2 HC.out.2.1 (by have := HC.out.2.2.1; omega)
      have H6 := Lib.hid (And.intro (HA2.out.1.ask hB6) (And.intro (HA2.out.2.1.ask hB6) hC6))
      clear cN hB6 hGm htm hC6 c8
      go_wp2_with fail
      refine cE.mono ?_
      rintro e V2 ⟨bt, H, rfl, h7, hB7⟩
      have hR0 := H6.out.1.ask hB7
      have hR1 := H6.out.2.1.ask hB7
      have hC7 := H6.out.2.2.turn (Turn.ofBelow hB7) (fun e => Nat.lt_irrefl _ (Nat.lt_of_lt_of_le H6.out.2.2.lt e))
      have hll := hR0.lenRun 3
      obtain ⟨tk, hTk⟩ : ∃ tk, enT ee = tk := ⟨_, rfl⟩
      unfold enV
      rw [hTk]
      have HEE := Lib.hid (And.intro HC.out.2.2.2.2 hTk)
      have H7 := Lib.hid (And.intro h7 (And.intro hR0 (And.intro hR1 (And.intro hTk hC7))))
      clear cE k0 k1 k2 k3 k4 k5 k6 k7 k8 k9 k10 hB7 h7 hR0 hR1 hTk hC7
      go_wp2_with fail
      clear hll
      go_loopw [97] (fun v97 W => ∃ (j : Nat) (T : MkB) (c : Col), j ≤ l0.length ∧ v97 = .int .i64 (j : Int) ∧ EnIn ee w4.heap.size mb n X s obs (.slice (some ⟨g, 0, none⟩) L cap) f (ptsAt obs) (fun k => v0.ownBlock = some k ∨ u12.ownBlock = some k) T c H bt tm room EnS.none w4 W ∧ RefRow W v0 l0 ∧ RefRow W u12 l1 ∧ Blk W cb gc.arr 30 ∧ Tri (ptsAt obs) (l0.take j) c []) (fun v97 _ => l0.length - (intOf v97).toNat)
      case atStart => exact ⟨0, T, Col.white, Nat.zero_le _, rfl, H7.out.1, H7.out.2.1, H7.out.2.2.1, H7.out.2.2.2.2, tri_whiteP _⟩
      case round =>
      clear H7 T
      obtain ⟨j, T, c, hj, rfl, h8, hR0, hR1, hC8, hTri⟩ := hrel
      have hj0 : (0 : Int) ≤ (j : Int) := by omega
      by_cases hlt3 : j < l0.length
      · have hj1 : (j : Int) < (l0.length : Int) := by omega
        obtain ⟨x, hx⟩ : ∃ x, l0[j]? = some x := ⟨_, List.getElem?_eq_getElem hlt3⟩
        rcases hR0.is with ⟨_, e⟩ | ⟨g3, cap3, cur3, hv3, hg3, _, _, _, hcell3⟩
        · rw [e] at hlt3; exact absurd hlt3 (by simp)
        have hca := hcell3 j hlt3
        rw [(List.getElem?_eq_some_iff.1 hx).2] at hca
        have hxR := HA1.out.2.2.1 x (List.mem_of_getElem? hx)
        have hxb := HO.out.bd _ hxR
        have cSh := h8.gm.shade x hxR hxb.1 hxb.2
        rw [h8.tm] at cSh
        have hT9 := hTri.shade (x := x) (by omega)
        rw [← take_nextR hx] at hT9
        have H8 := Lib.hid (And.intro h8 (And.intro hR0 (And.intro hR1 hT9)))
        subst hv3
        clear hx hg3 hcell3 hxR hxb h8 hR0 hR1 hC8 hTri hT9
        go_wp2_with fail
        refine cSh.mono ?_
        rintro e V5 ⟨rfl, T5, hm5, hG5, hk5⟩
        have hC9 := HW4.out.2.2.1.turn (Turn.ofBelow hG5.below) (fun e => Nat.lt_irrefl _ (Nat.lt_of_lt_of_le HW4.out.2.2.1.lt e))
        have H9 := Lib.hid (And.intro (H8.out.1.went hm5 hG5 hk5).1 (And.intro (H8.out.2.1.keepG fun k e => hk5 k (.inl (.inl e))) (And.intro (H8.out.2.2.1.keepG fun k e => hk5 k (.inl (.inr e))) hC9)))
        clear cSh hm5 hG5 hk5 hca hC9
        go_wp2_with fail
        go_roundw
        case rel => exact ⟨j + 1, T5, _, hlt3, by go_num, H9.out.1, H9.out.2.1, H9.out.2.2.1, H9.out.2.2.2, H8.out.2.2.2⟩
        case measure => simp [intOf]; omega
      · have hj1 : ¬ (j : Int) < (l0.length : Int) := by omega
        have hjl : j = l0.length := by omega
        rw [hjl, List.take_length] at hTri
        have e0 : wr.cell? ⟨cb, 0, none⟩ = some (.int .i64 gc.e) := hC8.cell 0
        rw [HC.out.2.2.2.1] at e0
        have H8 := Lib.hid (And.intro h8 (And.intro hR0 (And.intro hR1 hTri)))
        clear hjl hj hlt3 h8 hR0 hR1 hC8 hTri
        go_upto_if 107 with fail
        clear e0
        go_cut [11] (fun v11 wx => ∃ v', v' = v11 ∧ EnIn ee w4.heap.size mb n X s obs (.slice (some ⟨g, 0, none⟩) L cap) f (ptsAt obs) (fun k => v'.ownBlock = some k ∨ u12.ownBlock = some k) T c H bt tm room EnS.none w4 wx ∧ RefRow wx v' (rootsE ee l0 l1) ∧ RefRow wx u12 l1)
        case first =>
          by_cases he2 : ee = 2
          · have heI : (ee : Int) = 2 := by omega
            have hr2 : rootsE ee l0 l1 = l0 := if_pos he2
            have HR2 := Lib.hid hr2
            clear hr2
            have heb : ((ee : Int) != 2) = false := by simp [he2]
            clear heI he2
            go_wp2_with fail
            go_meet
            case rel => rw [HR2.out]; exact ⟨_, rfl, H8.out.1, H8.out.2.1, H8.out.2.2.1⟩
          · have heI : ¬ (ee : Int) = 2 := by omega
            have heb : ((ee : Int) != 2) = true := by simp; omega
            have hr2 : rootsE ee l0 l1 = l0 ++ l1 := if_neg he2
            obtain ⟨v', w', hrun, hR', hT', hN'⟩ := append_all H8.out.2.1 H8.out.2.2.1 (by have := HA2.out.2.2.2.2; omega) 33
            have h9 := H8.out.1.turnE hT' (fun k e => ⟨.inl e, by have := HA1.out.2.2.2.2 k e; have := HO.out.go.ar.size; omega, fun e2 => by have := HA1.out.2.2.2.2 k e; have := HO.out.go.lt k e2; omega⟩)
            have h10 : EnIn ee w4.heap.size mb n X s obs (.slice (some ⟨g, 0, none⟩) L cap) f (ptsAt obs) (fun k => v'.ownBlock = some k ∨ u12.ownBlock = some k) T c H bt tm room EnS.none w4 w' := h9.reE fun k e => by
              rcases e with e | e
              · rcases hN' k e with e2 | e2
                · exact ⟨fun e3 => (h9.gm.own k e3).2.2 (.inl (.inl e2)), fun e3 => (h9.own k e3).2.2 (.inl e2), hR'.lt e⟩
                · exact ⟨fun e3 => by have := H8.out.1.gm.mt.lt k e3; omega, fun e3 => by have := H8.out.1.en.lt k e3; omega, hR'.lt e⟩
              · exact ⟨fun e3 => (h9.gm.own k e3).2.2 (.inl (.inr e)), fun e3 => (h9.own k e3).2.2 (.inr e), h9.gm.ext k (.inl (.inr e))⟩
            have hR1' := H8.out.2.2.1.turn hT' (fun k e e2 => HA2.out.2.2.2.1 k e2 e)
            have H10 := Lib.hid (And.intro h10 (And.intro (hr2 ▸ hR') hR1'))
            clear h9 h10 hR' hT' hN' hR1' hr2 heI he2
            go_wp2_with (at_builtin; refine wpList_appendRun rfl _ _ _ rfl _ _ rfl rfl hrun ?_)
            go_meet
            case rel => exact ⟨_, rfl, H10.out.1, H10.out.2.1, H10.out.2.2⟩
        case rest =>
        obtain ⟨v', rfl, h9, hR', hR1⟩ := hcut
        have hTri := H8.out.2.2.2
        have hRn : (refsI obs).length = L := by rw [refsI_length, ← HL.out]
        have hrest : restI (ptsAt obs) [] (refsI obs) ≤ 6 * (refsI obs).length := restI_nil_le _ 6 _ HO.out.few
        have hrm : ∀ x ∈ rootsE ee l0 l1, x ∈ refsI obs := fun x hx => by
          unfold rootsE at hx
          split at hx
          · exact HA1.out.2.2.1 x hx
          · rcases List.mem_append.1 hx with e | e
            · exact HA1.out.2.2.1 x e
            · exact HA2.out.2.2.1 x e
        have hrl : (rootsE ee l0 l1).length ≤ 60 := by
          have := HA2.out.2.2.2.2
          unfold rootsE; split
          · omega
          · rw [List.length_append]; omega
        have cRe := reach_any v' (rootsE ee l0 l1) (refsI obs) mb n f (ptsAt obs) wc hR' h9.gm.go.grp HO.out.nd HO.out.bd (by omega) (fun x hx => .inr (hrm x hx)) HO.out.pin (by omega) (fun x hx => by have := HO.out.few x hx; omega)
        have H9 := Lib.hid (And.intro h9 (And.intro hR1 hTri))
        clear h9 hR' hR1 hTri hRn hrest hrm hrl H8
        go_wp2_with fail
        refine cRe.mono ?_
        rintro e V6 ⟨rb, vis, rfl, hMap, hrb, hB6, hvn, hvin, hvis⟩
        have h10 : EnIn ee w4.heap.size mb n X s obs (.slice (some ⟨g, 0, none⟩) L cap) f (ptsAt obs) (fun k => k = rb ∨ u12.ownBlock = some k) T c H bt tm room EnS.none w4 V6 := H9.out.1.watch hB6 fun k e => by
          rcases e with e | e
          · exact .inr ⟨by have e2 : k = rb := e; omega, by have e2 : k = rb := e; have := hMap.lt; omega⟩
          · exact .inl (.inr e)
        have hR6 := H9.out.2.1.ask hB6
        obtain ⟨av, nv, cv, hvv⟩ : ∃ a n c, u12 = .slice a n c := by
          rcases hR6.is with ⟨e, _⟩ | ⟨g9, cap9, cur9, e, _⟩
          · exact ⟨_, _, _, e⟩
          · exact ⟨_, _, _, e⟩
        have cRt := roots_any av nv cv V6
        have H10 := Lib.hid (And.intro h10 (And.intro hMap (And.intro hvn (And.intro hvin (And.intro hvis (And.intro hR6 (H9.out.2.2)))))))
        clear cRe hMap hrb hB6 hvn hvin hvis h10 hR6 H9 H6 HC
        subst hvv
        go_wp2_with fail
        refine cRt.mono ?_
        rintro e w' ⟨rfl, rfl⟩
        have hB7 := (Below.refl V6.heap.size V6).alloc (Nat.le_refl _) (.cells #[.slice av nv cv] 33)
        have h7 := H10.out.1.box (.cells #[.slice av nv cv] 33)
        have hMap7 := H10.out.2.1.ask hB7
        have hrow7 := H10.out.2.2.2.2.2.1.ask hB7
        have hbx7 : (V6.alloc (.cells #[.slice av nv cv] 33)).cell? ⟨V6.heap.size, 0, none⟩ = some (.slice av nv cv) := (Blk.new V6 _ _).cell 0
        have cF := en_finish h7 HEE.out.1 HO.out.cl (by have := HL.out; omega) l1 hrow7 hbx7 (.inr rfl) (fun k e => .inl (.inl (.inr e))) HA2.out.2.2.1
        unfold enV at cF
        rw [HEE.out.2] at cF
        have H7 := Lib.hid hMap7
        clear cRt h7 hMap7 hrow7 hbx7 hB7
        go_wp2_with fail
        generalize V6.alloc (.cells #[.slice av nv cv] 33) = V8 at *
        refine cF.mono ?_
        rintro e V9 ⟨T9, H9, l, c9, rfl, hsc, hdry, h9, hk9⟩
        have hMap9 := H7.out.keep (hk9 rb (.inl (.inl rfl)))
        have hT9 := fin_tri H10.out.2.2.2.2.2.2 ptsAt_zero (fun z hz => by have := HO.out.bd z (HA2.out.2.2.1 z hz); omega) hsc
        rw [List.nil_append] at hT9
        have hov : l.length = vis.length := same_length hT9.nod H10.out.2.2.1 fun z => (hT9.ordDry hdry z).trans (H10.out.2.2.2.2.1 z).symm
        have hmv : ∀ z, c9.ma z = true ↔ z ∈ vis := fun z => (hT9.dry hdry z).trans (H10.out.2.2.2.2.1 z).symm
        have hlen := hMap9.len 3
        rw [← hov] at hlen
        have hnn : ((l.length : Int) == (l.length : Int)) = true := by simp
        have hl6 := h9.gm.go.row.lenRun 3
        rw [refsI_length, ← HL.out] at hl6
        have H9' := Lib.hid (And.intro h9 (And.intro hMap9 (And.intro hmv (And.intro hdry hT9.sub))))
        clear cF hsc hdry h9 hk9 hMap9 hT9 hov hmv
        go_wp2_with fail
        clear hl6 hlen hnn
        go_loopw [124] (fun v124 W => ∃ k : Nat, k ≤ L ∧ v124 = .int .i64 (k : Int) ∧ Below V9.heap.size V9 W) (fun v124 _ => L - (intOf v124).toNat)
        case atStart => exact ⟨0, Nat.zero_le _, rfl, Below.refl _ _⟩
        case round =>
        obtain ⟨k, hk, rfl, hBW⟩ := hrel
        have hk0 : (0 : Int) ≤ (k : Int) := by omega
        have hV := H9'.out.1.ask hBW
        by_cases hlt4 : k < L
        · have hk1 : (k : Int) < (L : Int) := by omega
          obtain ⟨u, hu⟩ : ∃ u, obs[k]? = some u := ⟨_, List.getElem?_eq_getElem (by have := HL.out; omega)⟩
          have huR : (u.r : Int) ∈ refsI obs := List.mem_of_getElem? (refsI_at hu)
          have hub := HO.out.bd _ huR
          have hwu := wf_ref hub.1 hub.2
          have hca2 := row_cellB hV.gm.go.row (refsI_at hu)
          have hmu := H9'.out.2.2.1 (u.r : Int)
          have hdry := H9'.out.2.2.2.1
          have hsub := H9'.out.2.2.2.2
          cases hm : c9.ma (u.r : Int) with
          | false =>
            have hvv : visF vis (u.r : Int) = 0 := by
              unfold visF; rw [if_neg (fun e => by have := hmu.2 e; rw [hm] at this; cases this)]
            have hsc : c9.sc (u.r : Int) = false := (by cases e : c9.sc (u.r : Int) with | false => rfl | true => (have := hsub _ e; rw [hm] at this; cases this))
            have hold : ∀ W, Below V9.heap.size V9 W → (Instr.lookup 42 (.map (some rb)) (.int .i64 (u.r : Int)) false).run Tryz.prog W = .ok (.int .i64 0) W := fun W hB => by
              have h := (H9'.out.2.1.ask hB).look (u.r : Int) hwu
              rw [hvv] at h; exact h
            have cMa : ∀ W, Below V9.heap.size V9 W → Calls Tryz.prog 23 #[.pointer (some ⟨tm, 0, none⟩), .int .i64 (u.r : Int)] W fun e w' => e = .returned (.bool false) ∧ Below W.heap.size W w' := fun W hB => by
              have h := (H9'.out.1.ask hB).mkr.at_.marked (u.r : Int)
              rw [H9'.out.1.tm, hm] at h; exact h
            have cSc : ∀ W, Below V9.heap.size V9 W → Calls Tryz.prog 29 #[.pointer (some ⟨tm, 0, none⟩), .int .i64 (u.r : Int)] W fun e w' => e = .returned (.bool false) ∧ Below W.heap.size W w' := fun W hB => by
              have h := (H9'.out.1.ask hB).mkr.at_.scanned (u.r : Int)
              rw [H9'.out.1.tm, hsc] at h; exact h
            have hD0 : Below V9.heap.size V9 wr.drew := hBW.drew
            have hS0 := And.intro hD0 (hold _ hD0)
            have HOLD := Lib.hid hold
            have HS0 := Lib.hid hS0
            clear hu huR hub hwu hV hmu hBW hm hvv hsc hold hD0 hdry hsub
            go_wp2_with fail
            go_region_held3 (fun W' => Below V9.heap.size V9 W' ∧ (Instr.lookup 42 (.map (some rb)) (.int .i64 (u.r : Int)) false).run Tryz.prog W' = .ok (.int .i64 0) W')
              (first | exact hSc | exact hSb | exact hSa | exact hS0)
              (first
                | (go_at_call 23; first | (refine (cMa _ hSb.1).mono ?_; rintro e w' ⟨rfl, hB'⟩; have hSc := And.intro (below_step hSb.1 hB') (HOLD.out _ (below_step hSb.1 hB'))) | (refine (cMa _ hSa.1).mono ?_; rintro e w' ⟨rfl, hB'⟩; have hSb := And.intro (below_step hSa.1 hB') (HOLD.out _ (below_step hSa.1 hB'))) | (refine (cMa _ hS0.1).mono ?_; rintro e w' ⟨rfl, hB'⟩; have hSa := And.intro (below_step hS0.1 hB') (HOLD.out _ (below_step hS0.1 hB'))))
                | (go_at_call 29; first | (refine (cSc _ hSb.1).mono ?_; rintro e w' ⟨rfl, hB'⟩; have hSc := And.intro (below_step hSb.1 hB') (HOLD.out _ (below_step hSb.1 hB'))) | (refine (cSc _ hSa.1).mono ?_; rintro e w' ⟨rfl, hB'⟩; have hSb := And.intro (below_step hSa.1 hB') (HOLD.out _ (below_step hSa.1 hB'))) | (refine (cSc _ hS0.1).mono ?_; rintro e w' ⟨rfl, hB'⟩; have hSa := And.intro (below_step hS0.1 hB') (HOLD.out _ (below_step hS0.1 hB')))))
            all_goals
              have HC9 := Lib.hid hSc.1
              clear hSc hSb hSa hS0 cMa cSc hca2
              go_wp2_with fail
              go_roundw
              case rel => exact ⟨k + 1, by omega, by go_num, HC9.out⟩
              case measure => simp [intOf]; omega
          | true =>
            have hvv : visF vis (u.r : Int) = 1 := by
              unfold visF; rw [if_pos (hmu.1 hm)]
            have hsc : c9.sc (u.r : Int) = true := hdry _ hm
            have hold : ∀ W, Below V9.heap.size V9 W → (Instr.lookup 42 (.map (some rb)) (.int .i64 (u.r : Int)) false).run Tryz.prog W = .ok (.int .i64 1) W := fun W hB => by
              have h := (H9'.out.2.1.ask hB).look (u.r : Int) hwu
              rw [hvv] at h; exact h
            have cMa : ∀ W, Below V9.heap.size V9 W → Calls Tryz.prog 23 #[.pointer (some ⟨tm, 0, none⟩), .int .i64 (u.r : Int)] W fun e w' => e = .returned (.bool true) ∧ Below W.heap.size W w' := fun W hB => by
              have h := (H9'.out.1.ask hB).mkr.at_.marked (u.r : Int)
              rw [H9'.out.1.tm, hm] at h; exact h
            have cSc : ∀ W, Below V9.heap.size V9 W → Calls Tryz.prog 29 #[.pointer (some ⟨tm, 0, none⟩), .int .i64 (u.r : Int)] W fun e w' => e = .returned (.bool true) ∧ Below W.heap.size W w' := fun W hB => by
              have h := (H9'.out.1.ask hB).mkr.at_.scanned (u.r : Int)
              rw [H9'.out.1.tm, hsc] at h; exact h
            have hD0 : Below V9.heap.size V9 wr.drew := hBW.drew
            have hS0 := And.intro hD0 (hold _ hD0)
            have HOLD := Lib.hid hold
            have HS0 := Lib.hid hS0
            clear hu huR hub hwu hV hmu hBW hm hvv hsc hold hD0 hdry hsub
            go_wp2_with fail
            go_region_held3 (fun W' => Below V9.heap.size V9 W' ∧ (Instr.lookup 42 (.map (some rb)) (.int .i64 (u.r : Int)) false).run Tryz.prog W' = .ok (.int .i64 1) W')
              (first | exact hSc | exact hSb | exact hSa | exact hS0)
              (first
                | (go_at_call 23; first | (refine (cMa _ hSb.1).mono ?_; rintro e w' ⟨rfl, hB'⟩; have hSc := And.intro (below_step hSb.1 hB') (HOLD.out _ (below_step hSb.1 hB'))) | (refine (cMa _ hSa.1).mono ?_; rintro e w' ⟨rfl, hB'⟩; have hSb := And.intro (below_step hSa.1 hB') (HOLD.out _ (below_step hSa.1 hB'))) | (refine (cMa _ hS0.1).mono ?_; rintro e w' ⟨rfl, hB'⟩; have hSa := And.intro (below_step hS0.1 hB') (HOLD.out _ (below_step hS0.1 hB'))))
                | (go_at_call 29; first | (refine (cSc _ hSb.1).mono ?_; rintro e w' ⟨rfl, hB'⟩; have hSc := And.intro (below_step hSb.1 hB') (HOLD.out _ (below_step hSb.1 hB'))) | (refine (cSc _ hSa.1).mono ?_; rintro e w' ⟨rfl, hB'⟩; have hSb := And.intro (below_step hSa.1 hB') (HOLD.out _ (below_step hSa.1 hB'))) | (refine (cSc _ hS0.1).mono ?_; rintro e w' ⟨rfl, hB'⟩; have hSa := And.intro (below_step hS0.1 hB') (HOLD.out _ (below_step hS0.1 hB')))))
            all_goals
              have HC9 := Lib.hid hSc.1
              clear hSc hSb hSa hS0 cMa cSc hca2
              go_wp2_with fail
              go_roundw
              case rel => exact ⟨k + 1, by omega, by go_num, HC9.out⟩
              case measure => simp [intOf]; omega
        · have hk1 : ¬ (k : Int) < (L : Int) := by omega
          have cRt := roots_any none 0 0 wr
          have H12 := Lib.hid hV
          clear hlt4 hV hBW
          go_wp2_with fail
          refine cRt.mono ?_
          rintro e w' ⟨rfl, rfl⟩
          have h13 := H12.out.box (.cells #[.slice none 0 0] 33)
          have hbx13 : (wr.alloc (.cells #[.slice none 0 0] 33)).cell? ⟨wr.heap.size, 0, none⟩ = some (.slice none 0 0) := (Blk.new wr _ _).cell 0
          rw [remS_none] at h13
          have cF := en_finish h13 HEE.out.1 HO.out.cl (by have := HL.out; omega) [] (World.ownsRow_nil _ _ _ _) hbx13 (.inr rfl) (fun k e => by cases e) (fun z hz => by cases hz)
          unfold enV at cF
          rw [HEE.out.2] at cF
          clear cRt h13 hbx13
          go_wp2_with fail
          generalize wr.alloc (.cells #[.slice none 0 0] 33) = V13 at *
          refine cF.mono ?_
          rintro e V14 ⟨T14, H14, l14, c14, rfl, hsc, hdry, h14, _⟩
          have hc9 : (if ee = 2 then c9 else c9.shades []) = c9 := by rw [Col.shades_nil]; split <;> rfl
          rw [hc9, remC_none] at hsc
          have hl0 := (hsc.dryNil H9'.out.2.2.2.1).1
          subst hl0
          have HF := Lib.hid (HW4.out.1.trans (h14.gm.below.mono HW4.out.1.size))
          clear cF hsc hdry h14 hc9
          go_wp2_with fail
          go_ret
          exact ⟨rfl, HF.out⟩
/-- As the frame asks it. -/
theorem enfin_frame (b0 b1 b2 b3 b4 b5 : Nat) (hb6 : b0 ≤ 255 ∧ b1 ≤ 255 ∧ b2 ≤ 255 ∧ b3 ≤ 255 ∧ b4 ≤ 255 ∧ b5 ≤ 255) (a0 : Option Addr) (zs : List Int) (cf : Nat) (e0 : Option Addr) (ne ce : Nat) (Q : Nat → Nat → Int) (a1 : Option Addr) (us : List Int) (c1 : Nat) (a2 : Option Addr) (vs : List Int) (c2 : Nat) (w : World) (hsum : us.length + vs.length ≤ 9223372036854775807)
    (hF : BytesW w a0 zs) (hE : EdgesW w e0 ne Q) (hU : BytesW w a1 us) (hV : BytesW w a2 vs) (hTb : TabAt w) (hT : TableAt w) :
    Calls Tryz.prog 5 #[.agg #[.int .u8 (b0 : Int), .int .u8 (b1 : Int), .int .u8 (b2 : Int), .int .u8 (b3 : Int), .int .u8 (b4 : Int), .int .u8 (b5 : Int)], .agg #[.slice a0 zs.length cf, .slice e0 ne ce], .agg #[.slice a1 us.length c1, .slice a2 vs.length c2]] w fun e w' => e = .returned (.bool true) ∧ Below w.heap.size w w' := enfin_true b0 b1 b2 b3 b4 b5 hb6 a0 zs cf e0 ne ce Q a1 us c1 a2 vs c2 hsum w hF hE hU hV ⟨hT, hTb⟩
end Go.Proofs.YtooddbhlanjfbaaGreatDoor
