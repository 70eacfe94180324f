/- DijkstraKeeps, walked, over the barrier's contracts; at this seat's numbers. -/
import Derived.Test.YtdgkgcfnddmofaaGreatDoorDjF
import Derived.Test.YtdgkgcfnddmofaaGreatDoorDjM
import Derived.Test.YtdgkgcfnddmofaaGreatDoorMrC
import Derived.Test.YtdgkgcfnddmofaaGreatDoorArgsF
import Derived.Maps.OwnIn
import Derived.Deep.RegionHeld3
namespace Go.Proofs.YtdgkgcfnddmofaaGreatDoor
open Go Go.RowKit Go.Shelf Go.MuLone Go.RwLone
set_option linter.unusedSimpArgs false
set_option linter.unusedVariables false
attribute [local go_sem] Oper.semAt_some

set_option maxRecDepth 100000 in
set_option maxHeartbeats 16000000 in
theorem dkeeps_true (a0 : Option Addr) (zs : List Int) (cf : Nat) (e0 : Option Addr) (ne ce : Nat) (Q : Nat → Nat → Int) (a1 : Option Addr) (n1 c1 : Nat) (Q1 : Nat → Nat → Int) (w : World)
    (hF : BytesW w a0 zs) (hE : EdgesW w e0 ne Q) (hP : FoursW w a1 n1 Q1) (hT : Tabs w) :
    Calls Tryz.prog 4 #[.agg #[.slice a0 zs.length cf, .slice e0 ne ce], .slice a1 n1 c1] w fun e w' => e = .returned (.bool true) ∧ Below w.heap.size w w' := by
  have HA := Lib.hid (And.intro hF (And.intro hE hP))
  clear hF hE hP
  obtain ⟨M, hM6⟩ : ∃ M : Nat, 12 ≤ M := ⟨12, Nat.le_refl _⟩
  refine calls_of_wp_marks Tryz.func4 rfl M ?_
  simp only [Tryz.ntmps4, List.size_toArray, List.length_cons, List.length_nil, Nat.reduceAdd, Nat.reduceSub, Array.replicate_succ, Array.replicate_zero, List.push_toArray, List.append_toArray, List.nil_append, List.cons_append]
  gi_wp2_with fail
  refine ⟨trivial, fun h => (by cases h), ?_⟩
  have hs1 : (w.alloc (.cells #[.slice a0 zs.length cf, .slice e0 ne ce] 25)).heap.size = w.heap.size + 1 := by simp
  have hG0 := (Blk.new w #[.slice a0 zs.length cf, .slice e0 ne ce] 25).alloc (.cells #[.bool false] 4)
  have hR0 := Blk.new (w.alloc (.cells #[.slice a0 zs.length cf, .slice e0 ne ce] 25)) #[.bool false] 4
  have hBb := ((Below.refl w.heap.size w).alloc (Nat.le_refl _) (.cells #[.slice a0 zs.length cf, .slice e0 ne ce] 25)).alloc (by simp) (.cells #[.bool false] 4)
  have hTb := hT.below hBb
  have hs2 : ((w.alloc (.cells #[.slice a0 zs.length cf, .slice e0 ne ce] 25)).alloc (.cells #[.bool false] 4)).heap.size = w.heap.size + 2 := by simp
  rw [hs1] at hR0
  generalize (w.alloc (.cells #[.slice a0 zs.length cf, .slice e0 ne ce] 25)).alloc (.cells #[.bool false] 4) = W0 at *
  refine (callsIn_wide.2 (djfit_true W0 hTb)).mono ?_
  rintro e w1 ⟨rfl, hB1⟩
  have hG1 := hG0.turn (Turn.ofBelow hB1) (by omega)
  have hR1 := hR0.turn (Turn.ofBelow hB1) (by omega)
  have hB01 := hBb.trans (hB1.mono (by omega))
  have hz1 := hB1.size
  have g0 := hG1.cell 0
  have g1 := hG1.cell 1
  simp only [List.getElem?_toArray, List.getElem?_cons_zero, List.getElem?_cons_succ] at g0 g1
  obtain ⟨q, hq⟩ : ∃ q, (decide (zs.length ≤ 40) && decide (ne ≤ 120)) = q := ⟨_, rfl⟩
  have cS := small_any a0 zs.length cf e0 ne ce w1 q hq
  have HW1 := Lib.hid (And.intro hG1 (And.intro hR1 (And.intro hB01 (And.intro (hTb.below hB1) (show w.heap.size + 2 ≤ w1.heap.size by omega)))))
  clear hB1 hG0 hR0 hTb hG1 hR1 hT hB01 hBb hs1 hs2 hz1
  gi_wp2_with fail
  refine ⟨trivial, fun h => (by cases h), ?_⟩
  refine (callsIn_wide.2 cS).mono ?_
  rintro e w2 ⟨rfl, hB2⟩
  have hz2 := hB2.size
  have hB02 := HW1.out.2.2.1.trans (hB2.mono HW1.out.2.2.1.size)
  have hR2 := HW1.out.2.1.turn (Turn.ofBelow hB2) (by have := HW1.out.2.2.2.2; omega)
  clear cS g0 g1
  by_cases hsm : zs.length ≤ 40 ∧ ne ≤ 120 ∧ n1 ≤ 60
  case neg =>
    have hRc : w2.cell? ⟨w.heap.size + 1, 0, none⟩ = some (.bool false) := hR2.cell 0
    have hZc : w2.frozen? ⟨w.heap.size + 1, 0, none⟩ = false := hR2.free 0
    have hc := World.cell?_setCell_same w2 ⟨w.heap.size + 1, 0, none⟩ (.bool true) hRc
    have hfin2 := hB02.setCell (p := ⟨w.heap.size + 1, 0, none⟩) (by show w.heap.size ≤ w.heap.size + 1; omega) (.bool true)
    have HF := Lib.hid (And.intro hc hfin2)
    clear hB2 hB02 hc hfin2
    cases q with
    | false =>
      clear hsm hq
      gi_wp2_with fail
      refine ⟨.bool true, ?_, rfl, HF.out.2⟩
      simp [results, Tryz.f4, go_sem, HF.out.1]
    | true =>
      have h20 : 60 < (n1 : Int) := by
        have h1 : zs.length ≤ 40 := by simpa using (Bool.and_eq_true_iff.1 hq).1
        have h2 : ne ≤ 120 := by simpa using (Bool.and_eq_true_iff.1 hq).2
        have : ¬ n1 ≤ 60 := fun h3 => hsm ⟨h1, h2, h3⟩
        omega
      clear hsm hq
      gi_wp2_with fail
      refine ⟨.bool true, ?_, rfl, HF.out.2⟩
      simp [results, Tryz.f4, go_sem, HF.out.1]
  case pos =>
  obtain ⟨h40, h120, hn60⟩ := hsm
  have hqt : q = true := by rw [← hq, decide_eq_true h40, decide_eq_true h120]; rfl
  subst hqt
  have hn60I : ¬ 60 < (n1 : Int) := by omega
  have hG2 := HW1.out.1.turn (Turn.ofBelow hB2) (by have := HW1.out.2.2.2.2; omega)
  have hT2 := HW1.out.2.2.2.1.below hB2
  have cM := made_any a0 zs cf e0 ne ce Q w2 h40 h120 (HA.out.1.under hB02 (Nat.le_refl _)) (HA.out.2.1.under hB02 (Nat.le_refl _)) hT2.c
  have HTB := Lib.hid hT2.b
  have g0 := hG2.cell 0
  have g1 := hG2.cell 1
  simp only [List.getElem?_toArray, List.getElem?_cons_zero, List.getElem?_cons_succ] at g0 g1
  have HW2 := Lib.hid (And.intro hB02 (And.intro hR2 (show w.heap.size + 2 ≤ w2.heap.size by have := HW1.out.2.2.2.2; omega)))
  have H40 := Lib.hid (And.intro h40 hn60)
  clear hG2 hT2 hR2 hB02 hB2 HW1 hq h40 h120 hn60 hz2
  gi_wp2_with fail
  refine ⟨trivial, fun h => (by cases h), ?_⟩
  refine (callsIn_wide.2 cM).mono ?_
  rintro e w3 hMP
  obtain ⟨X0, s0, obs0, vl, mb, n, f, rfl, hMO⟩ := hMP.ok HTB.out
  obtain ⟨L, hL⟩ : ∃ L, L = obs0.length := ⟨_, rfl⟩
  have hLI : (L : Int) ≤ 40 := by have := hMO.len; have := H40.out.1; omega
  have hl6 := hMO.go.row.lenRun 3
  rw [refsI_length, ← hL] at hl6
  by_cases hn0 : L = 0
  · have hLz : ((L : Int) == 0) = true := by simp; omega
    have hfin := HW2.out.1.trans (hMO.go.ar.below.mono HW2.out.1.size)
    have hR7 := HW2.out.2.1.turn (Turn.ofBelow hMO.go.ar.below) (by have := HW2.out.2.1.lt; omega)
    have hZc : w3.frozen? ⟨w.heap.size + 1, 0, none⟩ = false := hR7.free 0
    have hRc : w3.cell? ⟨w.heap.size + 1, 0, none⟩ = some (.bool false) := hR7.cell 0
    have hc := World.cell?_setCell_same w3 ⟨w.heap.size + 1, 0, none⟩ (.bool true) hRc
    have hfin2 := hfin.setCell (p := ⟨w.heap.size + 1, 0, none⟩) (by show w.heap.size ≤ w.heap.size + 1; omega) (.bool true)
    have HF := Lib.hid (And.intro hc hfin2)
    clear hn0 hfin hR7 hc hfin2 hMO hMP cM
    gi_wp2_with fail
    refine ⟨.bool true, ?_, rfl, HF.out.2⟩
    simp [results, Tryz.f4, go_sem, HF.out.1]
  have hLz : ((L : Int) == 0) = false := by simp; omega
  have hL0 : 0 < L := by omega
  have cN := gm_new (E := fun _ => False) hMO.go hMO.P 3 (fun _ h => h.elim) (by omega) hMO.tab hMO.tab.lt
  obtain ⟨R, hR⟩ : ∃ R, refsI obs0 = R := ⟨_, rfl⟩
  obtain ⟨xa, hxa⟩ : ∃ xa, X0.a = xa := ⟨_, rfl⟩
  have hRL : R.length = L := by rw [← hR, refsI_length, hL]
  have HR := Lib.hid (And.intro hR (And.intro hRL (And.intro (hR ▸ hMO.bd) (And.intro hMO.cl hxa))))
  clear hMO hMP cM g0 g1 hL hR hRL hn0
  rw [hxa] at cN ⊢
  clear hxa
  gi_wp2_with fail
  refine ⟨trivial, fun h => (by cases h), ?_⟩
  refine (callsIn_wide.2 cN).mono ?_
  rintro e w4 ⟨T, rfl, hGm, hB4⟩
  obtain ⟨tm, htm⟩ : ∃ tm, T.m = tm := ⟨_, rfl⟩
  rw [htm]
  have hBa := (Below.refl w4.heap.size w4).alloc (Nat.le_refl _) (.cells #[.pointer (some ⟨tm, 0, none⟩)] 33)
  have hbx := Blk.new w4 #[.pointer (some ⟨tm, 0, none⟩)] 33
  have hGa : GmIn w2.heap.size mb n X0 s0 obs0 vl f (ptsAt obs0) (fun k => k = w4.heap.size) T Col.white w2 (w4.alloc (.cells #[.pointer (some ⟨tm, 0, none⟩)] 33)) := hGm.watch hBa fun k e => .inr ⟨Nat.le_of_eq (show w4.heap.size = k from e.symm), by have e2 : k = w4.heap.size := e; simp; omega⟩
  have hbrr := BrIn.made (t := 73) hGa htm
  have hsa : (w4.alloc (.cells #[.pointer (some ⟨tm, 0, none⟩)] 33)).heap.size = w4.heap.size + 1 := by simp
  rw [hsa] at hbrr
  have hmcc := hbx.cell 0
  simp only [List.getElem?_toArray, List.getElem?_cons_zero] at hmcc
  have cD := dj_new tm (w4.alloc (.cells #[.pointer (some ⟨tm, 0, none⟩)] 33))
  rw [hsa] at cD
  have hdk : DkA 73 w2.heap.size mb n w4.heap.size tm (w4.heap.size + 1) xa R vl f (ptsAt obs0) (EM w4.heap.size []) w2 X0 s0 obs0 T Col.white ((w4.alloc (.cells #[.pointer (some ⟨tm, 0, none⟩)] 33)).alloc (.cells (BrCells tm) 73)) :=
    ⟨⟨hbrr.gm.reE (fun k e => (by
      have e2 : k = w4.heap.size ∨ k = w4.heap.size + 1 := by rcases e with (e | e) | e; exact .inl e; exact e.elim; exact .inr e
      exact ⟨fun e3 => (hbrr.gm.own k e3).2.2 e2, hbrr.gm.ext k e2⟩)), hbrr.at_, hbrr.tm⟩, .inl rfl, hbx.alloc _, fun k e e2 => (by
      have h1 := hGm.go.lt k (.inl e2)
      rcases e with (e | e) | e
      · omega
      · exact e.elim
      · omega), HR.out.2.2.2.2, HR.out.1, HR.out.2.2.2.1⟩
  have HD := Lib.hid hdk
  clear hGm htm hB4 cN hBa hbx hGa hbrr hsa hdk
  gi_wp2_with fail
  refine ⟨trivial, fun h => (by cases h), ?_⟩
  refine (callsIn_wide.2 cD).mono ?_
  rintro e w' ⟨rfl, rfl⟩
  have hdk := HD.out
  clear cD HD hmcc
  generalize (w4.alloc (.cells #[.pointer (some ⟨tm, 0, none⟩)] 33)).alloc (.cells (BrCells tm) 73) = w5 at *
  generalize w4.heap.size + 1 = bt at *
  generalize w4.heap.size = mc at *
  obtain ⟨adj0, hadj⟩ : ∃ adj0, ptsAt obs0 = adj0 := ⟨_, rfl⟩
  rw [hadj] at hdk
  have hclo : Clo (ptsAt obs0) Col.white := clo_white
  obtain ⟨x0, hx0⟩ : ∃ x0, R[0]? = some x0 := ⟨_, List.getElem?_eq_getElem (by have := HR.out.2.1; omega)⟩
  have hx0R : x0 ∈ R := List.mem_of_getElem? hx0
  have hx0b := HR.out.2.2.1 x0 hx0R
  have hD := hdk.ask (Below.refl _ w5).drew
  rcases hD.br.gm.go.row.is with ⟨_, e⟩ | ⟨g, cap, cur, hv, hg, hlc, hcm, hcs, hcell⟩
  · have := congrArg List.length e; rw [hD.re, HR.out.2.1] at this; simp at this; omega
  rw [hD.re, HR.out.2.1] at hv
  subst hv
  have hca := row_cellB (by have := hD.br.gm.go.row; rw [hD.re] at this; exact this) hx0
  have hmcD := hD.cell
  have cSh := hD.br.gm.shade x0 (by rw [hD.re]; exact hx0R) hx0b.1 hx0b.2
  rw [hD.br.tm] at cSh
  have HD := Lib.hid hD
  have HX0 := Lib.hid hx0
  have hL0I : (0 : Int) < (L : Int) := by omega
  clear hg hlc hcm hcs hcell hD hx0R hx0b hdk hadj hx0
  gi_wp2_with fail
  refine wpIn_wide.2 ?_
  go_region_held3 (fun W' => W'.cell? ⟨mc, 0, none⟩ = some (.pointer (some ⟨tm, 0, none⟩)) ∧ W'.cell? ⟨g, 0, none⟩ = some (.int .i64 x0)) (first | exact hS9 | exact ⟨hmcD, hca⟩)
    (first
      | (go_at_call 10; refine cSh.mono ?_; rintro e w6 ⟨rfl, T6, hm6, hG6, hk6⟩; have hd6 := HD.out.went hm6 hG6 hk6; have hS9 : w6.cell? ⟨mc, 0, none⟩ = some (.pointer (some ⟨tm, 0, none⟩)) ∧ w6.cell? ⟨g, 0, none⟩ = some (.int .i64 x0) := ⟨hd6.cell, row_cellB (by have := hd6.br.gm.go.row; rw [hd6.re] at this; exact this) HX0.out⟩))
  all_goals
    have hclo6 : Clo (ptsAt obs0) (Col.white.shade x0) := hclo.shade x0
    generalize Col.white.shade x0 = c6 at *
    clear cSh hmcD hca hS9 hG6 hk6 hm6 hclo HD
    gi_wp2_with fail
    refine wpIn_loop_grow (fun T u => spl (spl T u 11 10) u 51 90) (fun u ds W => ∃ (i hi : Nat) (X : ArB) (s : ArS) (obs : List Ob) (T : MkB) (c : Col), i ≤ n1 ∧ u 51 = .int .i64 (i : Int) ∧ DkA 73 w2.heap.size mb n mc tm bt xa R (.slice (some ⟨g, 0, none⟩) L cap) f adj0 (EM mc ds) w2 X s obs T c W ∧ Clo (ptsAt obs) c ∧ hi ≤ W.heap.size ∧ Marks w2.heap.size hi ds W) (fun u => n1 - (intOf (u 51)).toNat) rfl ⟨0, 0, X0, s0, obs0, T6, c6, Nat.zero_le _, rfl, hd6, hclo6, by omega, trivial⟩ ?_
    clear hd6 hclo6
    rintro u ds W ⟨i, hi, X, s, obs, T, c, hil, hu, hdk, hclo, hhi, hMk⟩
    simp only [spl, List.take_succ_cons, List.take_zero, List.drop_succ_cons, List.drop_zero, List.cons_append, List.nil_append, List.range'_succ, List.range'_zero, List.map_cons, List.map_nil, Nat.reduceAdd, hu]
    have hi0 : (0 : Int) ≤ (i : Int) := by omega
    have hol : obs.length = L := by rw [← refsI_length, hdk.re]; exact HR.out.2.1
    by_cases hlt : i < n1
    case neg =>
      have hi1 : ¬ (i : Int) < (n1 : Int) := by omega
      have hbel := hdk.br.gm.below
      have hfin := HW2.out.1.trans (hbel.mono HW2.out.1.size)
      have hR7 := HW2.out.2.1.turn (Turn.ofBelow hbel) (by have := HW2.out.2.1.lt; omega)
      have hZc : W.frozen? ⟨w.heap.size + 1, 0, none⟩ = false := hR7.free 0
      have hRc : W.cell? ⟨w.heap.size + 1, 0, none⟩ = some (.bool false) := hR7.cell 0
      have hc := World.cell?_setCell_same W ⟨w.heap.size + 1, 0, none⟩ (.bool true) hRc
      have hfin2 := hfin.setCell (p := ⟨w.heap.size + 1, 0, none⟩) (by show w.heap.size ≤ w.heap.size + 1; omega) (.bool true)
      have HF := Lib.hid (And.intro hc hfin2)
      have hs9 : (W.setCell ⟨w.heap.size + 1, 0, none⟩ (.bool true)).heap.size = W.heap.size := by simp
      have hlt2 := HW2.out.2.1.lt
      have hz9 := hdk.br.gm.size
      have hM9 : Marks w2.heap.size hi ds (W.setCell ⟨w.heap.size + 1, 0, none⟩ (.bool true)) := hMk.keep fun q h0 _ h2 => (Below.heap_setCell _ _ _ _ (fun e => by have e2 : q = w.heap.size + 1 := e; omega)).trans h2
      have HH := Lib.hid (And.intro HF.out.1 (And.intro HF.out.2 (And.intro hM9 hs9)))
      clear hfin hR7 hc hfin2 hM9 hs9 HF hdk hclo hMk hbel
      gi_wp2_with fail
      obtain ⟨hR9, hBF, hM9, hs9⟩ := HH.out
      generalize W.setCell ⟨w.heap.size + 1, 0, none⟩ (.bool true) = V9 at *
      refine leavesP_marks hM9 (by omega) fun w' hb _ hcs => ?_
      have hRF := hcs ⟨w.heap.size + 1, 0, none⟩ _ (by show w.heap.size + 1 < _; omega) hR9
      refine ⟨.bool true, ?_, rfl, hBF.trans (hb.mono (by omega))⟩
      simp [results, Tryz.f4, go_sem, hRF]
    case pos =>
    have hi1 : (i : Int) < (n1 : Int) := by omega
    have hB06 := HW2.out.1.trans (hdk.br.gm.below.mono HW2.out.1.size)
    obtain ⟨bk, off, rfl, hbk, hcs⟩ := HA.out.2.2 i hlt
    have hd0 := (hB06.cell (p := ⟨bk, off + i * 4, none⟩) hbk).trans (hcs 0 (by decide)).1
    have hd1 := (hB06.cell (p := ⟨bk, off + i * 4 + 1, none⟩) hbk).trans (hcs 1 (by decide)).1
    have hd2 := (hB06.cell (p := ⟨bk, off + i * 4 + 2, none⟩) hbk).trans (hcs 2 (by decide)).1
    have hd3 := (hB06.cell (p := ⟨bk, off + i * 4 + 3, none⟩) hbk).trans (hcs 3 (by decide)).1
    obtain ⟨qa, hqa, hqa6⟩ := u8_natW (hcs 0 (by decide)).2
    obtain ⟨qb, hqb, hqb6⟩ := u8_natW (hcs 1 (by decide)).2
    obtain ⟨qc, hqc, hqc6⟩ := u8_natW (hcs 2 (by decide)).2
    obtain ⟨qd, hqd, hqd6⟩ := u8_natW (hcs 3 (by decide)).2
    rw [hqa] at hd0
    rw [hqb] at hd1
    rw [hqc] at hd2
    rw [hqd] at hd3
    have b1 := (Below.refl W.heap.size W).alloc (Nat.le_refl _) (.cells #[.int .u8 (qa : Int), .int .u8 (qb : Int), .int .u8 (qc : Int), .int .u8 (qd : Int)] 48)
    have h1a := hdk.ask b1
    have hE0 := Blk.new W #[.int .u8 (qa : Int), .int .u8 (qb : Int), .int .u8 (qc : Int), .int .u8 (qd : Int)] 48
    have hx0 := hE0.cell 0
    have hx1 := hE0.cell 1
    simp only [List.getElem?_toArray, List.getElem?_cons_zero, List.getElem?_cons_succ] at hx0 hx1
    have HS := Lib.hid (And.intro h1a (And.intro hE0 (And.intro hclo (And.intro hMk (And.intro hil hhi)))))
    have HOL := Lib.hid hol
    clear hqa hqb hqc hqd hcs hbk hB06 b1 hdk hMk hclo hhi hil
    have hn0 : 0 < L := hL0
    obtain ⟨ia, hia⟩ : ∃ ia, ia = qa % L := ⟨_, rfl⟩
    obtain ⟨ib, hib⟩ : ∃ ib, ib = qb % L := ⟨_, rfl⟩
    have hip : 0 < L := by omega
    have hta : (qa : Int).tmod (L : Int) = (ia : Int) := by rw [Int.tmod_eq_emod_of_nonneg (by omega), hia]; omega
    have htb : (qb : Int).tmod (L : Int) = (ib : Int) := by rw [Int.tmod_eq_emod_of_nonneg (by omega), hib]; omega
    have hla : ia < L := by rw [hia]; exact Nat.mod_lt _ hip
    have hlb : ib < L := by rw [hib]; exact Nat.mod_lt _ hip
    have hin : ¬ (L : Int) = 0 := by omega
    have hinb : ((L : Int) == 0) = false := by simp; omega
    have hlaI : (ia : Int) < (L : Int) := by omega
    have hlbI : (ib : Int) < (L : Int) := by omega
    have hla0 : (0 : Int) ≤ (ia : Int) := by omega
    have hlb0 : (0 : Int) ≤ (ib : Int) := by omega
    have hwa : IntKind.i64.wrap (qa : Int) = (qa : Int) := by simp [IntKind.wrap, IntKind.bits, IntKind.signed]; omega
    have hwb : IntKind.i64.wrap (qb : Int) = (qb : Int) := by simp [IntKind.wrap, IntKind.bits, IntKind.signed]; omega
    obtain ⟨x, hx⟩ : ∃ x, obs[ia]? = some x := ⟨_, List.getElem?_eq_getElem (by have := HOL.out; omega)⟩
    obtain ⟨y, hy⟩ : ∃ y, obs[ib]? = some y := ⟨_, List.getElem?_eq_getElem (by have := HOL.out; omega)⟩
    have hca := row_cellB h1a.br.gm.go.row (refsI_at hx)
    have hcb := row_cellB h1a.br.gm.go.row (refsI_at hy)
    have hxR : (x.r : Int) ∈ refsI obs := List.mem_map.2 ⟨x, List.mem_of_getElem? hx, rfl⟩
    have hyR : (y.r : Int) ∈ refsI obs := List.mem_map.2 ⟨y, List.mem_of_getElem? hy, rfl⟩
    have HY := Lib.hid (And.intro hx (And.intro hy (And.intro hxR hyR)))
    clear hn0 hia hib hx hy hxR hyR
    clear h1a hE0 hol
    gi_wp2_with fail
    refine wpIn_wide.2 ?_
    go_quiet (fail)
    have b2 := below_drewG (W.alloc (.cells #[.int .u8 (qa : Int), .int .u8 (qb : Int), .int .u8 (qc : Int), .int .u8 (qd : Int)] 48)) nq
    have h2 := HS.out.1.ask b2
    have hE2 := HS.out.2.1.drewN nq
    have hsz2 : W.heap.size ≤ ((W.alloc (.cells #[.int .u8 (qa : Int), .int .u8 (qb : Int), .int .u8 (qc : Int), .int .u8 (qd : Int)] 48)).drewN nq).heap.size := by have := b2.size; simp at this ⊢ <;> omega
    have hMk2 : Marks w2.heap.size hi ds ((W.alloc (.cells #[.int .u8 (qa : Int), .int .u8 (qb : Int), .int .u8 (qc : Int), .int .u8 (qd : Int)] 48)).drewN nq) := HS.out.2.2.2.1.keep fun k _ hk h => ((((Below.refl W.heap.size W).alloc (Nat.le_refl _) _).trans (b2.mono (by simp))).block k (by have := HS.out.2.2.2.2.2; omega)).trans h
    generalize ((W.alloc (.cells #[.int .u8 (qa : Int), .int .u8 (qb : Int), .int .u8 (qc : Int), .int .u8 (qd : Int)] 48)).drewN nq) = V1 at *
    have cF := ceFieldsOk h2.br.gm.go.ar (h2.br.gm.go.ob.at_ ia x HY.out.1)
    rw [h2.xa] at cF
    have H2 := Lib.hid (And.intro h2 (And.intro hE2 (And.intro hMk2 hsz2)))
    clear h2 hE2 hMk2 hx0 hx1 hd0 hd1 hd2 hd3 hca hcb hta htb hwa hwb hla0 hlb0 hlaI hlbI hin hinb b2 hsz2
    gi_wp2_with fail
    refine ⟨trivial, fun h => (by cases h), ?_⟩
    refine (callsIn_wide.2 cF).mono ?_
    rintro e V2 ⟨rfl, hB2⟩
    have hz2 := hB2.size
    have h3 := H2.out.1.ask hB2
    have hE3 := H2.out.2.1.turn (Turn.ofBelow hB2) (by have := H2.out.2.1.lt; omega)
    have hx3 := hE3.cell 3
    have hx2 := hE3.cell 2
    simp only [List.getElem?_toArray, List.getElem?_cons_zero, List.getElem?_cons_succ] at hx2 hx3
    have hmc := h3.cell
    have hMk3 : Marks w2.heap.size hi ds V2 := H2.out.2.2.1.keep fun k _ hk h => (hB2.block k (by have := HS.out.2.2.2.2.2; have := H2.out.2.2.2; omega)).trans h
    have H3 := Lib.hid (And.intro h3 (And.intro hE3 (And.intro hMk3 (show W.heap.size ≤ V2.heap.size by have := H2.out.2.2.2; omega))))
    clear cF hB2 hz2 h3 hE3 hMk3
    obtain ⟨m3, hm3⟩ : ∃ m3, bits .and .u8 (qd : Int) 3 = m3 := ⟨_, rfl⟩
    obtain ⟨K, hK⟩ : ∃ K : Nat, K = qc % 4 := ⟨_, rfl⟩
    have hKt : (qc : Int).tmod 4 = (K : Int) := by rw [Int.tmod_eq_emod_of_nonneg (by omega), hK]; omega
    have hKw : IntKind.i64.wrap (K : Int) = (K : Int) := by simp [IntKind.wrap, IntKind.bits, IntKind.signed]; omega
    clear hK
    obtain ⟨bq, hbq⟩ : ∃ bq, (m3 == 0) = bq := ⟨_, rfl⟩
    cases bq with
    | true =>
      have cT := H3.out.1.br.gm.trace H3.out.1.cl (K : Int)
      rw [H3.out.1.br.tm] at cT
      gi_wp2_with fail
      refine ⟨trivial, fun h => (by cases h), ?_⟩
      refine (callsIn_wide.2 cT).mono ?_
      rintro e V6 ⟨kk, T7, c7, l7, rfl, _, hm7, hG7, hk7, hsc7, _, _⟩
      have hd7 := H3.out.1.went hm7 hG7 hk7
      have hMk7 : Marks w2.heap.size hi ds V6 := H3.out.2.2.1.keepE fun k e => hk7 k (.inl (.inr e))
      have hclo7 : Clo (ptsAt obs) c7 := HS.out.2.2.1.scans hsc7
      have hil := HS.out.2.2.2.2.1
      clear cT hm7 hG7 hk7 hsc7 H2 H3 HS hx2 hx3 hmc hKt hKw
      gi_wp2_with fail
      generalize V6 = W7 at *
      as_aux_lemma =>
        have hol7 : obs.length = L := by rw [← refsI_length, hd7.re]; exact HR.out.2.1
        have hMhi := hMk7.inside
        have hhi7 : ∀ k, DsHas ds k → k < W7.heap.size := fun k e => hd7.br.gm.ext k (.inl (.inr e))
        have hz27 := hd7.br.gm.size
        obtain ⟨hi7, hhi7b, hMk7b⟩ : ∃ hi7, hi7 ≤ W7.heap.size ∧ Marks w2.heap.size hi7 ds W7 := hMk7.top
        have HD7 := Lib.hid (And.intro hd7 (And.intro hclo7 hol7))
        clear hd7 hclo7 hol7
        refine wpIn_loop_grow (fun T u => spl (spl T u 19 2) u 122 18) (fun u ds' W => ∃ k hi' : Nat, k ≤ L ∧ u 122 = .int .i64 (k : Int) ∧ Below W7.heap.size W7 W ∧ hi' ≤ W.heap.size ∧ Marks w2.heap.size hi' ds' W ∧ ∀ j, DsHas ds' j → DsHas ds j ∨ W7.heap.size ≤ j) (fun u => L - (intOf (u 122)).toNat) rfl ⟨0, hi7, Nat.zero_le _, rfl, Below.refl _ W7, hhi7b, hMk7b, fun j e => .inl e⟩ ?_
        rintro u' ds' W ⟨k, hi', hkl, hu', hBW, hhi', hMk', hds'⟩
        simp only [spl, List.take_succ_cons, List.take_zero, List.drop_succ_cons, List.drop_zero, List.cons_append, List.nil_append, List.range'_succ, List.range'_zero, List.map_cons, List.map_nil, Nat.reduceAdd, hu']
        have hk0 : (0 : Int) ≤ (k : Int) := by omega
        have hwz := hBW.size
        have hWd : DkA 73 w2.heap.size mb n mc tm bt xa R (.slice (some ⟨g, 0, none⟩) L cap) f adj0 (EM mc ds') w2 X s obs T7 c7 W := HD7.out.1.watch hBW (fun j e => by
          rcases e with e | e
          · exact .inl (.inl e)
          · rcases hds' j e with e2 | e2
            · exact .inl (.inr e2)
            · exact .inr ⟨e2, by have := (hMk'.inside j e).2; omega⟩) (.inl rfl)
        have HMK := Lib.hid (And.intro hMk' hds')
        clear hMk' hds'
        by_cases hlt7 : k < L
        case neg =>
          have hk1 : ¬ (k : Int) < (L : Int) := by omega
          have HE := Lib.hid (show ∃ i' : Nat, i' ≤ n1 ∧ Value.int .i64 ((i : Int) + 1) = .int .i64 (i' : Int) ∧ ∃ (hi : Nat) (X : ArB) (s : ArS) (obs : List Ob) (T : MkB) (c : Col), DkA 73 w2.heap.size mb n mc tm bt xa R (.slice (some ⟨g, 0, none⟩) L cap) f adj0 (EM mc ds') w2 X s obs T c W ∧ Clo (ptsAt obs) c ∧ hi ≤ W.heap.size ∧ Marks w2.heap.size hi ds' W from
            ⟨i + 1, hlt, rfl, hi', X, s, obs, T7, c7, hWd, HD7.out.2.1, hhi', HMK.out.1⟩)
          have HMS := Lib.hid (show n1 - (intOf (Value.int .i64 ((i : Int) + 1))).toNat < n1 - (intOf (Value.int .i64 (i : Int))).toNat by simp [intOf]; omega)
          clear hWd
          gi_wp2_with fail
          exact ⟨by (repeat' apply And.intro) <;> rfl, HE.out, HMS.out⟩
        case pos =>
        have hltI : (k : Int) < (L : Int) := by omega
        obtain ⟨z, hz⟩ : ∃ z, obs[k]? = some z := ⟨_, List.getElem?_eq_getElem (by have := HD7.out.2.2; omega)⟩
        have hzR : R[k]? = some (z.r : Int) := by rw [← hWd.re]; exact refsI_at hz
        have hca := row_cellB (by have := hWd.br.gm.go.row; rw [hWd.re] at this; exact this) hzR
        have hO := hWd.br.gm.go.ob.at_ k z hz
        have hk6 := hO.k6 hWd.br.gm.go.ar.at_.fits
        have hrd : Reads s (z.r : Int) z.k z.F := hO.reads hWd.br.gm.go.ar.at_.fits
        have hB6 : Below W.heap.size W (((W.alloc (.cells #[.int .i64 (z.r : Int)] 36)).alloc (.cells #[.pointer (some ⟨xa, 0, none⟩)] 28)).alloc (.cells #[.int .i64 (z.r : Int)] 36)) := (((Below.refl _ W).alloc (Nat.le_refl _) _).alloc (by simp) _).alloc (by simp; omega) _
        have o6 : Blk (((W.alloc (.cells #[.int .i64 (z.r : Int)] 36)).alloc (.cells #[.pointer (some ⟨xa, 0, none⟩)] 28)).alloc (.cells #[.int .i64 (z.r : Int)] 36)) W.heap.size #[.int .i64 (z.r : Int)] 36 := ((Blk.new W #[.int .i64 (z.r : Int)] 36).alloc _).alloc _
        have b0 : (((W.alloc (.cells #[.int .i64 (z.r : Int)] 36)).alloc (.cells #[.pointer (some ⟨xa, 0, none⟩)] 28)).alloc (.cells #[.int .i64 (z.r : Int)] 36)).cell? ⟨W.heap.size + 1, 0, none⟩ = some (.pointer (some ⟨xa, 0, none⟩)) := by
          have := ((Blk.new (W.alloc (.cells #[.int .i64 (z.r : Int)] 36)) #[.pointer (some ⟨xa, 0, none⟩)] 28).alloc (.cells #[.int .i64 (z.r : Int)] 36)).cell 0
          simpa using this
        have b1 : (((W.alloc (.cells #[.int .i64 (z.r : Int)] 36)).alloc (.cells #[.pointer (some ⟨xa, 0, none⟩)] 28)).alloc (.cells #[.int .i64 (z.r : Int)] 36)).cell? ⟨W.heap.size + 1 + 1, 0, none⟩ = some (.int .i64 (z.r : Int)) := by
          have := (Blk.new ((W.alloc (.cells #[.int .i64 (z.r : Int)] 36)).alloc (.cells #[.pointer (some ⟨xa, 0, none⟩)] 28)) #[.int .i64 (z.r : Int)] 36).cell 0
          simpa using this
        have s6' : (((W.alloc (.cells #[.int .i64 (z.r : Int)] 36)).alloc (.cells #[.pointer (some ⟨xa, 0, none⟩)] 28)).alloc (.cells #[.int .i64 (z.r : Int)] 36)).heap.size = W.heap.size + 3 := by simp
        have o0 := (Blk.new W #[.int .i64 (z.r : Int)] 36).cell 0
        simp only [List.getElem?_toArray, List.getElem?_cons_zero] at o0
        have cPt := ptsfn_any xa (z.r : Int) (W.alloc (.cells #[.int .i64 (z.r : Int)] 36))
        have hW6d := hWd.ask hB6
        have hXlt6 := hW6d.br.gm.go.ar.at_.lt
        have hzm : z ∈ obs := List.mem_of_getElem? hz
        have hPz : ptsAt obs (z.r : Int) = pts z := ptsAt_mem hWd.br.gm.go.ob hzm
        have HX := Lib.hid (And.intro hW6d s6')
        have HP := Lib.hid (And.intro hzm hPz)
        clear hWd hz hzR hO s6' hW6d hzm hPz
        gi_wp2_with fail
        refine ⟨trivial, fun h => (by cases h), ?_⟩
        refine (callsIn_wide.2 cPt).mono ?_
        rintro e w' ⟨rfl, rfl⟩
        clear cPt o0 hca
        gi_wp2_with fail
        obtain ⟨hW6d, s6'⟩ := HX.out
        generalize ((W.alloc (.cells #[.int .i64 (z.r : Int)] 36)).alloc (.cells #[.pointer (some ⟨xa, 0, none⟩)] 28)).alloc (.cells #[.int .i64 (z.r : Int)] 36) = W6 at *
        have htb6 := hW6d.br.gm.go.ar.tabAt
        have htl6 := htb6.lt
        have hA6 := hW6d.br.gm.go.ar.at_
        have hxa6 := hW6d.xa
        clear HX
        have HS6 := Lib.hid (And.intro s6' hW6d)
        generalize W.heap.size = x1 at *
        clear s6' hW6d
        refine wpIn_rangeO rfl (by omega) (gf := 44) (lb := #[.pointer (some ⟨x1 + 1, 0, none⟩), .pointer (some ⟨x1 + 1 + 1, 0, none⟩)]) rfl trivial (enters_of Tryz.func44 (by kernel_rfl) rfl)
          (SeqO.ofK (pta_stops (M - 1) (x1 + 1) z.k (z.r : Int) z.F hrd W6 hA6 htb6 (by rw [hxa6]; exact b0) b1)) KpPt.trans
          (fun V l o hl => KpPt.putObj (n0 := W6.heap.size) hXlt6 (by have := HS6.out.1; omega) (by omega) V l o hl) (Below.refl _ _) (fun _ => rfl)
          (fun st V => Below W6.heap.size W6 V) (fun _ _ _ => False)
          (fun st V V' row hs hg hr => (ownFrom_below (β := Unit) (Nat.le_refl _) (Nat.le_refl _)) () V V' row hs hg hr) (fun _ _ _ _ _ hs _ _ => hs) (Below.refl _ _) ?a1L2 ?assignL2 ?bodyL2 ?doneL2 ?stopL2
        case assignL2 =>
          intro l0 y' W' K' hK'
          unfold ptaArgs
          gi_wp2
          exact hK'
        case stopL2 =>
          rintro D c' pre O V hD _ h
          exact h.elim
        case bodyL2 =>
          rintro l0 pre O y' V hBV hpl
          have hV := HS6.out.2.ask hBV
          have hmc := hV.cell
          have hob := o6.turn (Turn.ofBelow hBV) (by have := HS6.out.1; omega)
          have hoc := hob.cell 0
          simp only [List.getElem?_toArray, List.getElem?_cons_zero] at hoc
          have hsV := hBV.size
          have fin : ∀ V', Below V.heap.size V V' → ∃ O', Owned W6.heap.size O O' V V' ∧ KpPt X (x1 + 1) V V' ∧ Below W6.heap.size W6 V' := fun V' hB => ⟨O, ⟨hB.size, fun k hk hkl _ => hB.block k hkl, fun k e => .inl e⟩, KpPt.ofBelow (n0 := W6.heap.size) (hB.mono hsV) hXlt6 (by have := HS6.out.1; omega) (by omega), hBV.trans (hB.mono hsV)⟩
          obtain ⟨bz, hbz⟩ : ∃ bz, c7.sc (z.r : Int) = bz := ⟨_, rfl⟩
          have cM1 := hV.br.gm.at_.scanned (z.r : Int)
          rw [hV.br.tm, hbz] at cM1
          have HF := Lib.hid fin
          have HV := Lib.hid hV
          have HBQ := Lib.hid hbz
          clear fin hV hbz hBV
          cases bz
          · gi_wp2_with fail
            refine ⟨trivial, fun h => (by cases h), ?_⟩
            refine ((callsIn_wide.2 cM1).inRound l0).mono ?_
            rintro e V1 ⟨rfl, hB1⟩
            have H1 := Lib.hid hB1
            clear cM1 hB1
            gi_wp2_with fail
            refine ⟨trivial, ?_⟩
            gi_wp2_with fail
            exact HF.out _ H1.out
          · have hzp : z.F y'.1.val ∈ pts z := by
              unfold pts elems
              exact List.mem_map.2 ⟨y'.1.val, List.mem_filter.2 ⟨List.mem_range.2 y'.2.1, y'.2.2⟩, rfl⟩
            have hmz : c7.ma (z.F y'.1.val) = true := by
              have h1 := HD7.out.2.1.clo (z.r : Int) HBQ.out (z.F y'.1.val)
              rw [HP.out.2] at h1
              exact h1 hzp
            have HMZ := Lib.hid hmz
            clear hzp hmz
            gi_wp2_with fail
            refine ⟨trivial, fun h => (by cases h), ?_⟩
            refine ((callsIn_wide.2 cM1).inRound l0).mono ?_
            rintro e V1 ⟨rfl, hB1⟩
            have hV1 := HV.out.ask hB1
            have hmc1 := hV1.cell
            have cM2 := hV1.br.gm.at_.marked (z.F y'.1.val)
            rw [hV1.br.tm, HMZ.out] at cM2
            have H1 := Lib.hid hB1
            clear cM1 hV1 hB1
            gi_wp2_with fail
            refine ⟨trivial, fun h => (by cases h), ?_⟩
            refine ((callsIn_wide.2 cM2).inRound l0).mono ?_
            rintro e V2 ⟨rfl, hB2⟩
            have H2 := Lib.hid (below_step H1.out hB2)
            clear cM2 hB2
            gi_wp2_with fail
            exact HF.out _ H2.out
        case doneL2 =>
          rintro D xs O V hD hxs hBV hDf
          have hDV := (Array.getElem?_eq_some_iff.mp hDf).1
          have hB7V : Below W7.heap.size W7 V := hBW.trans ((hB6.trans (hBV.mono (by have := HS6.out.1; omega))).mono hwz)
          have hMV : Marks w2.heap.size hi' ds' V := HMK.out.1.keep fun q _ q2 q3 => ((hB6.trans (hBV.mono (by have := HS6.out.1; omega))).block q (by omega)).trans q3
          have hMD := (hMV.mono (show hi' ≤ D by have := HS6.out.1; omega)).push (by have := HS6.out.1; omega) (Nat.lt_succ_self D) hDf
          have HE := Lib.hid (show ∃ k' hi'' : Nat, k' ≤ L ∧ Value.int .i64 ((k : Int) + 1) = .int .i64 (k' : Int) ∧ Below W7.heap.size W7 V ∧ hi'' ≤ V.heap.size ∧ Marks w2.heap.size hi'' ({ target := .collected D, args := #[] } :: ds') V ∧ ∀ j, DsHas ({ target := .collected D, args := #[] } :: ds') j → DsHas ds j ∨ W7.heap.size ≤ j from
            ⟨k + 1, D + 1, hlt7, rfl, hB7V, hDV, hMD, fun j e => by
              rcases e with e | e
              · have e2 : D = j := by injection e
                exact .inr (by have := HS6.out.1; omega)
              · exact HMK.out.2 j e⟩)
          have HMS := Lib.hid (show L - (intOf (Value.int .i64 ((k : Int) + 1))).toNat < L - (intOf (Value.int .i64 (k : Int))).toNat by simp [intOf]; omega)
          clear hB7V hMV hMD hDf hxs
          gi_wp2_with fail
          exact ⟨_, rfl, rfl, HE.out, HMS.out⟩
    | false =>
      by_cases hk0 : x.k = 0
      · have hkb : ((x.k : Int) == 0) = true := by rw [hk0]; rfl
        clear hk0
        have cT := H3.out.1.br.gm.trace H3.out.1.cl (K : Int)
        rw [H3.out.1.br.tm] at cT
        gi_wp2_with fail
        refine ⟨trivial, fun h => (by cases h), ?_⟩
        refine (callsIn_wide.2 cT).mono ?_
        rintro e V6 ⟨kk, T7, c7, l7, rfl, _, hm7, hG7, hk7, hsc7, _, _⟩
        have hd7 := H3.out.1.went hm7 hG7 hk7
        have hMk7 : Marks w2.heap.size hi ds V6 := H3.out.2.2.1.keepE fun k e => hk7 k (.inl (.inr e))
        have hclo7 : Clo (ptsAt obs) c7 := HS.out.2.2.1.scans hsc7
        have hil := HS.out.2.2.2.2.1
        clear cT hm7 hG7 hk7 hsc7 H2 H3 HS hx2 hx3 hmc hKt hKw
        gi_wp2_with fail
        generalize V6 = W7 at *
        as_aux_lemma =>
          have hol7 : obs.length = L := by rw [← refsI_length, hd7.re]; exact HR.out.2.1
          have hMhi := hMk7.inside
          have hhi7 : ∀ k, DsHas ds k → k < W7.heap.size := fun k e => hd7.br.gm.ext k (.inl (.inr e))
          have hz27 := hd7.br.gm.size
          obtain ⟨hi7, hhi7b, hMk7b⟩ : ∃ hi7, hi7 ≤ W7.heap.size ∧ Marks w2.heap.size hi7 ds W7 := hMk7.top
          have HD7 := Lib.hid (And.intro hd7 (And.intro hclo7 hol7))
          clear hd7 hclo7 hol7
          refine wpIn_loop_grow (fun T u => spl (spl T u 19 2) u 122 18) (fun u ds' W => ∃ k hi' : Nat, k ≤ L ∧ u 122 = .int .i64 (k : Int) ∧ Below W7.heap.size W7 W ∧ hi' ≤ W.heap.size ∧ Marks w2.heap.size hi' ds' W ∧ ∀ j, DsHas ds' j → DsHas ds j ∨ W7.heap.size ≤ j) (fun u => L - (intOf (u 122)).toNat) rfl ⟨0, hi7, Nat.zero_le _, rfl, Below.refl _ W7, hhi7b, hMk7b, fun j e => .inl e⟩ ?_
          rintro u' ds' W ⟨k, hi', hkl, hu', hBW, hhi', hMk', hds'⟩
          simp only [spl, List.take_succ_cons, List.take_zero, List.drop_succ_cons, List.drop_zero, List.cons_append, List.nil_append, List.range'_succ, List.range'_zero, List.map_cons, List.map_nil, Nat.reduceAdd, hu']
          have hk0 : (0 : Int) ≤ (k : Int) := by omega
          have hwz := hBW.size
          have hWd : DkA 73 w2.heap.size mb n mc tm bt xa R (.slice (some ⟨g, 0, none⟩) L cap) f adj0 (EM mc ds') w2 X s obs T7 c7 W := HD7.out.1.watch hBW (fun j e => by
            rcases e with e | e
            · exact .inl (.inl e)
            · rcases hds' j e with e2 | e2
              · exact .inl (.inr e2)
              · exact .inr ⟨e2, by have := (hMk'.inside j e).2; omega⟩) (.inl rfl)
          have HMK := Lib.hid (And.intro hMk' hds')
          clear hMk' hds'
          by_cases hlt7 : k < L
          case neg =>
            have hk1 : ¬ (k : Int) < (L : Int) := by omega
            have HE := Lib.hid (show ∃ i' : Nat, i' ≤ n1 ∧ Value.int .i64 ((i : Int) + 1) = .int .i64 (i' : Int) ∧ ∃ (hi : Nat) (X : ArB) (s : ArS) (obs : List Ob) (T : MkB) (c : Col), DkA 73 w2.heap.size mb n mc tm bt xa R (.slice (some ⟨g, 0, none⟩) L cap) f adj0 (EM mc ds') w2 X s obs T c W ∧ Clo (ptsAt obs) c ∧ hi ≤ W.heap.size ∧ Marks w2.heap.size hi ds' W from
              ⟨i + 1, hlt, rfl, hi', X, s, obs, T7, c7, hWd, HD7.out.2.1, hhi', HMK.out.1⟩)
            have HMS := Lib.hid (show n1 - (intOf (Value.int .i64 ((i : Int) + 1))).toNat < n1 - (intOf (Value.int .i64 (i : Int))).toNat by simp [intOf]; omega)
            clear hWd
            gi_wp2_with fail
            exact ⟨by (repeat' apply And.intro) <;> rfl, HE.out, HMS.out⟩
          case pos =>
          have hltI : (k : Int) < (L : Int) := by omega
          obtain ⟨z, hz⟩ : ∃ z, obs[k]? = some z := ⟨_, List.getElem?_eq_getElem (by have := HD7.out.2.2; omega)⟩
          have hzR : R[k]? = some (z.r : Int) := by rw [← hWd.re]; exact refsI_at hz
          have hca := row_cellB (by have := hWd.br.gm.go.row; rw [hWd.re] at this; exact this) hzR
          have hO := hWd.br.gm.go.ob.at_ k z hz
          have hk6 := hO.k6 hWd.br.gm.go.ar.at_.fits
          have hrd : Reads s (z.r : Int) z.k z.F := hO.reads hWd.br.gm.go.ar.at_.fits
          have hB6 : Below W.heap.size W (((W.alloc (.cells #[.int .i64 (z.r : Int)] 36)).alloc (.cells #[.pointer (some ⟨xa, 0, none⟩)] 28)).alloc (.cells #[.int .i64 (z.r : Int)] 36)) := (((Below.refl _ W).alloc (Nat.le_refl _) _).alloc (by simp) _).alloc (by simp; omega) _
          have o6 : Blk (((W.alloc (.cells #[.int .i64 (z.r : Int)] 36)).alloc (.cells #[.pointer (some ⟨xa, 0, none⟩)] 28)).alloc (.cells #[.int .i64 (z.r : Int)] 36)) W.heap.size #[.int .i64 (z.r : Int)] 36 := ((Blk.new W #[.int .i64 (z.r : Int)] 36).alloc _).alloc _
          have b0 : (((W.alloc (.cells #[.int .i64 (z.r : Int)] 36)).alloc (.cells #[.pointer (some ⟨xa, 0, none⟩)] 28)).alloc (.cells #[.int .i64 (z.r : Int)] 36)).cell? ⟨W.heap.size + 1, 0, none⟩ = some (.pointer (some ⟨xa, 0, none⟩)) := by
            have := ((Blk.new (W.alloc (.cells #[.int .i64 (z.r : Int)] 36)) #[.pointer (some ⟨xa, 0, none⟩)] 28).alloc (.cells #[.int .i64 (z.r : Int)] 36)).cell 0
            simpa using this
          have b1 : (((W.alloc (.cells #[.int .i64 (z.r : Int)] 36)).alloc (.cells #[.pointer (some ⟨xa, 0, none⟩)] 28)).alloc (.cells #[.int .i64 (z.r : Int)] 36)).cell? ⟨W.heap.size + 1 + 1, 0, none⟩ = some (.int .i64 (z.r : Int)) := by
            have := (Blk.new ((W.alloc (.cells #[.int .i64 (z.r : Int)] 36)).alloc (.cells #[.pointer (some ⟨xa, 0, none⟩)] 28)) #[.int .i64 (z.r : Int)] 36).cell 0
            simpa using this
          have s6' : (((W.alloc (.cells #[.int .i64 (z.r : Int)] 36)).alloc (.cells #[.pointer (some ⟨xa, 0, none⟩)] 28)).alloc (.cells #[.int .i64 (z.r : Int)] 36)).heap.size = W.heap.size + 3 := by simp
          have o0 := (Blk.new W #[.int .i64 (z.r : Int)] 36).cell 0
          simp only [List.getElem?_toArray, List.getElem?_cons_zero] at o0
          have cPt := ptsfn_any xa (z.r : Int) (W.alloc (.cells #[.int .i64 (z.r : Int)] 36))
          have hW6d := hWd.ask hB6
          have hXlt6 := hW6d.br.gm.go.ar.at_.lt
          have hzm : z ∈ obs := List.mem_of_getElem? hz
          have hPz : ptsAt obs (z.r : Int) = pts z := ptsAt_mem hWd.br.gm.go.ob hzm
          have HX := Lib.hid (And.intro hW6d s6')
          have HP := Lib.hid (And.intro hzm hPz)
          clear hWd hz hzR hO s6' hW6d hzm hPz
          gi_wp2_with fail
          refine ⟨trivial, fun h => (by cases h), ?_⟩
          refine (callsIn_wide.2 cPt).mono ?_
          rintro e w' ⟨rfl, rfl⟩
          clear cPt o0 hca
          gi_wp2_with fail
          obtain ⟨hW6d, s6'⟩ := HX.out
          generalize ((W.alloc (.cells #[.int .i64 (z.r : Int)] 36)).alloc (.cells #[.pointer (some ⟨xa, 0, none⟩)] 28)).alloc (.cells #[.int .i64 (z.r : Int)] 36) = W6 at *
          have htb6 := hW6d.br.gm.go.ar.tabAt
          have htl6 := htb6.lt
          have hA6 := hW6d.br.gm.go.ar.at_
          have hxa6 := hW6d.xa
          clear HX
          have HS6 := Lib.hid (And.intro s6' hW6d)
          generalize W.heap.size = x1 at *
          clear s6' hW6d
          refine wpIn_rangeO rfl (by omega) (gf := 44) (lb := #[.pointer (some ⟨x1 + 1, 0, none⟩), .pointer (some ⟨x1 + 1 + 1, 0, none⟩)]) rfl trivial (enters_of Tryz.func44 (by kernel_rfl) rfl)
            (SeqO.ofK (pta_stops (M - 1) (x1 + 1) z.k (z.r : Int) z.F hrd W6 hA6 htb6 (by rw [hxa6]; exact b0) b1)) KpPt.trans
            (fun V l o hl => KpPt.putObj (n0 := W6.heap.size) hXlt6 (by have := HS6.out.1; omega) (by omega) V l o hl) (Below.refl _ _) (fun _ => rfl)
            (fun st V => Below W6.heap.size W6 V) (fun _ _ _ => False)
            (fun st V V' row hs hg hr => (ownFrom_below (β := Unit) (Nat.le_refl _) (Nat.le_refl _)) () V V' row hs hg hr) (fun _ _ _ _ _ hs _ _ => hs) (Below.refl _ _) ?a1L3 ?assignL3 ?bodyL3 ?doneL3 ?stopL3
          case assignL3 =>
            intro l0 y' W' K' hK'
            unfold ptaArgs
            gi_wp2
            exact hK'
          case stopL3 =>
            rintro D c' pre O V hD _ h
            exact h.elim
          case bodyL3 =>
            rintro l0 pre O y' V hBV hpl
            have hV := HS6.out.2.ask hBV
            have hmc := hV.cell
            have hob := o6.turn (Turn.ofBelow hBV) (by have := HS6.out.1; omega)
            have hoc := hob.cell 0
            simp only [List.getElem?_toArray, List.getElem?_cons_zero] at hoc
            have hsV := hBV.size
            have fin : ∀ V', Below V.heap.size V V' → ∃ O', Owned W6.heap.size O O' V V' ∧ KpPt X (x1 + 1) V V' ∧ Below W6.heap.size W6 V' := fun V' hB => ⟨O, ⟨hB.size, fun k hk hkl _ => hB.block k hkl, fun k e => .inl e⟩, KpPt.ofBelow (n0 := W6.heap.size) (hB.mono hsV) hXlt6 (by have := HS6.out.1; omega) (by omega), hBV.trans (hB.mono hsV)⟩
            obtain ⟨bz, hbz⟩ : ∃ bz, c7.sc (z.r : Int) = bz := ⟨_, rfl⟩
            have cM1 := hV.br.gm.at_.scanned (z.r : Int)
            rw [hV.br.tm, hbz] at cM1
            have HF := Lib.hid fin
            have HV := Lib.hid hV
            have HBQ := Lib.hid hbz
            clear fin hV hbz hBV
            cases bz
            · gi_wp2_with fail
              refine ⟨trivial, fun h => (by cases h), ?_⟩
              refine ((callsIn_wide.2 cM1).inRound l0).mono ?_
              rintro e V1 ⟨rfl, hB1⟩
              have H1 := Lib.hid hB1
              clear cM1 hB1
              gi_wp2_with fail
              refine ⟨trivial, ?_⟩
              gi_wp2_with fail
              exact HF.out _ H1.out
            · have hzp : z.F y'.1.val ∈ pts z := by
                unfold pts elems
                exact List.mem_map.2 ⟨y'.1.val, List.mem_filter.2 ⟨List.mem_range.2 y'.2.1, y'.2.2⟩, rfl⟩
              have hmz : c7.ma (z.F y'.1.val) = true := by
                have h1 := HD7.out.2.1.clo (z.r : Int) HBQ.out (z.F y'.1.val)
                rw [HP.out.2] at h1
                exact h1 hzp
              have HMZ := Lib.hid hmz
              clear hzp hmz
              gi_wp2_with fail
              refine ⟨trivial, fun h => (by cases h), ?_⟩
              refine ((callsIn_wide.2 cM1).inRound l0).mono ?_
              rintro e V1 ⟨rfl, hB1⟩
              have hV1 := HV.out.ask hB1
              have hmc1 := hV1.cell
              have cM2 := hV1.br.gm.at_.marked (z.F y'.1.val)
              rw [hV1.br.tm, HMZ.out] at cM2
              have H1 := Lib.hid hB1
              clear cM1 hV1 hB1
              gi_wp2_with fail
              refine ⟨trivial, fun h => (by cases h), ?_⟩
              refine ((callsIn_wide.2 cM2).inRound l0).mono ?_
              rintro e V2 ⟨rfl, hB2⟩
              have H2 := Lib.hid (below_step H1.out hB2)
              clear cM2 hB2
              gi_wp2_with fail
              exact HF.out _ H2.out
          case doneL3 =>
            rintro D xs O V hD hxs hBV hDf
            have hDV := (Array.getElem?_eq_some_iff.mp hDf).1
            have hB7V : Below W7.heap.size W7 V := hBW.trans ((hB6.trans (hBV.mono (by have := HS6.out.1; omega))).mono hwz)
            have hMV : Marks w2.heap.size hi' ds' V := HMK.out.1.keep fun q _ q2 q3 => ((hB6.trans (hBV.mono (by have := HS6.out.1; omega))).block q (by omega)).trans q3
            have hMD := (hMV.mono (show hi' ≤ D by have := HS6.out.1; omega)).push (by have := HS6.out.1; omega) (Nat.lt_succ_self D) hDf
            have HE := Lib.hid (show ∃ k' hi'' : Nat, k' ≤ L ∧ Value.int .i64 ((k : Int) + 1) = .int .i64 (k' : Int) ∧ Below W7.heap.size W7 V ∧ hi'' ≤ V.heap.size ∧ Marks w2.heap.size hi'' ({ target := .collected D, args := #[] } :: ds') V ∧ ∀ j, DsHas ({ target := .collected D, args := #[] } :: ds') j → DsHas ds j ∨ W7.heap.size ≤ j from
              ⟨k + 1, D + 1, hlt7, rfl, hB7V, hDV, hMD, fun j e => by
                rcases e with e | e
                · have e2 : D = j := by injection e
                  exact .inr (by have := HS6.out.1; omega)
                · exact HMK.out.2 j e⟩)
            have HMS := Lib.hid (show L - (intOf (Value.int .i64 ((k : Int) + 1))).toNat < L - (intOf (Value.int .i64 (k : Int))).toNat by simp [intOf]; omega)
            clear hB7V hMV hMD hDf hxs
            gi_wp2_with fail
            exact ⟨_, rfl, rfl, HE.out, HMS.out⟩
      · have hkb : ((x.k : Int) == 0) = false := by simp; omega
        have hkp : 0 < x.k := by omega
        obtain ⟨jf, hjf⟩ : ∃ jf, jf = qc % x.k := ⟨_, rfl⟩
        have htc : (qc : Int).tmod (x.k : Int) = (jf : Int) := by rw [Int.tmod_eq_emod_of_nonneg (by omega), hjf]; omega
        have hljf : jf < x.k := by rw [hjf]; exact Nat.mod_lt _ hkp
        have hkn : ¬ (x.k : Int) = 0 := by omega
        have hwc : IntKind.i64.wrap (qc : Int) = (qc : Int) := by simp [IntKind.wrap, IntKind.bits, IntKind.signed]; omega
        obtain ⟨old, hold⟩ : ∃ old, x.F jf = old := ⟨_, rfl⟩
        have cFd := ceFieldOk H3.out.1.br.gm.go.ar (H3.out.1.br.gm.go.ob.at_ ia x HY.out.1) jf hljf old hold
        rw [H3.out.1.xa] at cFd
        have HJ := Lib.hid hljf
        clear hk0 hjf hkp hljf hold hKt hKw hmc
        gi_wp2_with fail
        refine ⟨trivial, fun h => (by cases h), ?_⟩
        refine (callsIn_wide.2 cFd).mono ?_
        rintro e V3 ⟨rfl, hB3⟩
        have hz3 := hB3.size
        have h4 := H3.out.1.ask hB3
        have hMk4 : Marks w2.heap.size hi ds V3 := H3.out.2.2.1.keep fun k _ hk h => (hB3.block k (by have := HS.out.2.2.2.2.2; have := H3.out.2.2.2; omega)).trans h
        have cP := dj_pre bt (x.r : Int) old V3
        have cS := h4.set HY.out.1 (List.mem_of_getElem? HY.out.2.1) HJ.out
        have H4 := Lib.hid (And.intro h4 (And.intro hMk4 (show W.heap.size ≤ V3.heap.size by have := H3.out.2.2.2; omega)))
        clear cFd hB3 hz3 h4 hMk4 hx2 hx3 htc hkn hwc hkb
        gi_wp2_with fail
        refine ⟨trivial, fun h => (by cases h), ?_⟩
        refine (callsIn_wide.2 cP).mono ?_
        rintro e w' ⟨rfl, rfl⟩
        clear cP
        gi_wp2_with fail
        refine ⟨trivial, fun h => (by cases h), ?_⟩
        refine (callsIn_wide.2 cS).mono ?_
        rintro e V4 ⟨rfl, X5, s5, h5, hk5, hp5, hq5⟩
        have hmc := h5.cell
        have cSc := h5.br.gm.at_.scanned (x.r : Int)
        rw [h5.br.tm] at cSc
        have hMk5 : Marks w2.heap.size hi ds V4 := H4.out.2.1.keepE fun k e => hk5 k (.inr e)
        have H5 := Lib.hid (And.intro h5 (And.intro hMk5 (And.intro hp5 hq5)))
        generalize hobs : obs.set ia { x with F := Go.Proofs.YtdgkgcfnddmofaaGreatDoor.upd x.F jf (y.r : Int) } = obs5 at *
        clear cS h5 hk5 hp5 hq5 hMk5 hobs
        gi_wp2_with fail
        refine ⟨trivial, fun h => (by cases h), ?_⟩
        refine (callsIn_wide.2 cSc).mono ?_
        rintro e V5 ⟨rfl, hB5⟩
        have h6 := H5.out.1.ask hB5
        have hMk6 : Marks w2.heap.size hi ds V5 := H5.out.2.1.keepE fun k e => hB5.block k (H5.out.1.br.gm.ext k (.inl (.inr e)))
        have hyR5 : (y.r : Int) ∈ refsI obs5 := by
          rw [h6.re, ← H2.out.1.re]; exact HY.out.2.2.2
        have cQ := dj_post h6.br (x.r : Int) old (y.r : Int) (c.sc (x.r : Int)) false (.inl hyR5) (by rw [h6.re]; exact HR.out.2.2.1)
        have H6 := Lib.hid (And.intro h6 hMk6)
        clear cSc hB5 h6 hMk6 hyR5 hmc
        gi_wp2_with fail
        refine ⟨trivial, fun h => (by cases h), ?_⟩
        refine (callsIn_wide.2 cQ).mono ?_
        rintro e V6 ⟨rfl, T6b, hb6, hk6⟩
        have hd7 := H6.out.1.told hb6 hk6
        have hMk7 : Marks w2.heap.size hi ds V6 := H6.out.2.keepE fun k e => hk6 k (.inr e)
        have hclo7 : Clo (ptsAt obs5) (c.shadeZ (y.r : Int)) := HS.out.2.2.1.write H5.out.2.2.1 H5.out.2.2.2 (fun u hu => ptsAt_zero _ u hu)
        have hil := HS.out.2.2.2.2.1
        clear cQ hb6 hk6 H2 H3 H4 H5 H6 HS
        gi_wp2_with fail
        generalize c.shadeZ (y.r : Int) = c7 at *
        generalize T6b = T7 at *
        generalize V6 = W7 at *
        as_aux_lemma =>
          have hol7 : obs5.length = L := by rw [← refsI_length, hd7.re]; exact HR.out.2.1
          have hMhi := hMk7.inside
          have hhi7 : ∀ k, DsHas ds k → k < W7.heap.size := fun k e => hd7.br.gm.ext k (.inl (.inr e))
          have hz27 := hd7.br.gm.size
          obtain ⟨hi7, hhi7b, hMk7b⟩ : ∃ hi7, hi7 ≤ W7.heap.size ∧ Marks w2.heap.size hi7 ds W7 := hMk7.top
          have HD7 := Lib.hid (And.intro hd7 (And.intro hclo7 hol7))
          clear hd7 hclo7 hol7
          refine wpIn_loop_grow (fun T u => spl (spl T u 19 2) u 122 18) (fun u ds' W => ∃ k hi' : Nat, k ≤ L ∧ u 122 = .int .i64 (k : Int) ∧ Below W7.heap.size W7 W ∧ hi' ≤ W.heap.size ∧ Marks w2.heap.size hi' ds' W ∧ ∀ j, DsHas ds' j → DsHas ds j ∨ W7.heap.size ≤ j) (fun u => L - (intOf (u 122)).toNat) rfl ⟨0, hi7, Nat.zero_le _, rfl, Below.refl _ W7, hhi7b, hMk7b, fun j e => .inl e⟩ ?_
          rintro u' ds' W ⟨k, hi', hkl, hu', hBW, hhi', hMk', hds'⟩
          simp only [spl, List.take_succ_cons, List.take_zero, List.drop_succ_cons, List.drop_zero, List.cons_append, List.nil_append, List.range'_succ, List.range'_zero, List.map_cons, List.map_nil, Nat.reduceAdd, hu']
          have hk0 : (0 : Int) ≤ (k : Int) := by omega
          have hwz := hBW.size
          have hWd : DkA 73 w2.heap.size mb n mc tm bt xa R (.slice (some ⟨g, 0, none⟩) L cap) f adj0 (EM mc ds') w2 X5 s5 obs5 T7 c7 W := HD7.out.1.watch hBW (fun j e => by
            rcases e with e | e
            · exact .inl (.inl e)
            · rcases hds' j e with e2 | e2
              · exact .inl (.inr e2)
              · exact .inr ⟨e2, by have := (hMk'.inside j e).2; omega⟩) (.inl rfl)
          have HMK := Lib.hid (And.intro hMk' hds')
          clear hMk' hds'
          by_cases hlt7 : k < L
          case neg =>
            have hk1 : ¬ (k : Int) < (L : Int) := by omega
            have HE := Lib.hid (show ∃ i' : Nat, i' ≤ n1 ∧ Value.int .i64 ((i : Int) + 1) = .int .i64 (i' : Int) ∧ ∃ (hi : Nat) (X : ArB) (s : ArS) (obs : List Ob) (T : MkB) (c : Col), DkA 73 w2.heap.size mb n mc tm bt xa R (.slice (some ⟨g, 0, none⟩) L cap) f adj0 (EM mc ds') w2 X s obs T c W ∧ Clo (ptsAt obs) c ∧ hi ≤ W.heap.size ∧ Marks w2.heap.size hi ds' W from
              ⟨i + 1, hlt, rfl, hi', X5, s5, obs5, T7, c7, hWd, HD7.out.2.1, hhi', HMK.out.1⟩)
            have HMS := Lib.hid (show n1 - (intOf (Value.int .i64 ((i : Int) + 1))).toNat < n1 - (intOf (Value.int .i64 (i : Int))).toNat by simp [intOf]; omega)
            clear hWd
            gi_wp2_with fail
            exact ⟨by (repeat' apply And.intro) <;> rfl, HE.out, HMS.out⟩
          case pos =>
          have hltI : (k : Int) < (L : Int) := by omega
          obtain ⟨z, hz⟩ : ∃ z, obs5[k]? = some z := ⟨_, List.getElem?_eq_getElem (by have := HD7.out.2.2; omega)⟩
          have hzR : R[k]? = some (z.r : Int) := by rw [← hWd.re]; exact refsI_at hz
          have hca := row_cellB (by have := hWd.br.gm.go.row; rw [hWd.re] at this; exact this) hzR
          have hO := hWd.br.gm.go.ob.at_ k z hz
          have hk6 := hO.k6 hWd.br.gm.go.ar.at_.fits
          have hrd : Reads s5 (z.r : Int) z.k z.F := hO.reads hWd.br.gm.go.ar.at_.fits
          have hB6 : Below W.heap.size W (((W.alloc (.cells #[.int .i64 (z.r : Int)] 36)).alloc (.cells #[.pointer (some ⟨xa, 0, none⟩)] 28)).alloc (.cells #[.int .i64 (z.r : Int)] 36)) := (((Below.refl _ W).alloc (Nat.le_refl _) _).alloc (by simp) _).alloc (by simp; omega) _
          have o6 : Blk (((W.alloc (.cells #[.int .i64 (z.r : Int)] 36)).alloc (.cells #[.pointer (some ⟨xa, 0, none⟩)] 28)).alloc (.cells #[.int .i64 (z.r : Int)] 36)) W.heap.size #[.int .i64 (z.r : Int)] 36 := ((Blk.new W #[.int .i64 (z.r : Int)] 36).alloc _).alloc _
          have b0 : (((W.alloc (.cells #[.int .i64 (z.r : Int)] 36)).alloc (.cells #[.pointer (some ⟨xa, 0, none⟩)] 28)).alloc (.cells #[.int .i64 (z.r : Int)] 36)).cell? ⟨W.heap.size + 1, 0, none⟩ = some (.pointer (some ⟨xa, 0, none⟩)) := by
            have := ((Blk.new (W.alloc (.cells #[.int .i64 (z.r : Int)] 36)) #[.pointer (some ⟨xa, 0, none⟩)] 28).alloc (.cells #[.int .i64 (z.r : Int)] 36)).cell 0
            simpa using this
          have b1 : (((W.alloc (.cells #[.int .i64 (z.r : Int)] 36)).alloc (.cells #[.pointer (some ⟨xa, 0, none⟩)] 28)).alloc (.cells #[.int .i64 (z.r : Int)] 36)).cell? ⟨W.heap.size + 1 + 1, 0, none⟩ = some (.int .i64 (z.r : Int)) := by
            have := (Blk.new ((W.alloc (.cells #[.int .i64 (z.r : Int)] 36)).alloc (.cells #[.pointer (some ⟨xa, 0, none⟩)] 28)) #[.int .i64 (z.r : Int)] 36).cell 0
            simpa using this
          have s6' : (((W.alloc (.cells #[.int .i64 (z.r : Int)] 36)).alloc (.cells #[.pointer (some ⟨xa, 0, none⟩)] 28)).alloc (.cells #[.int .i64 (z.r : Int)] 36)).heap.size = W.heap.size + 3 := by simp
          have o0 := (Blk.new W #[.int .i64 (z.r : Int)] 36).cell 0
          simp only [List.getElem?_toArray, List.getElem?_cons_zero] at o0
          have cPt := ptsfn_any xa (z.r : Int) (W.alloc (.cells #[.int .i64 (z.r : Int)] 36))
          have hW6d := hWd.ask hB6
          have hXlt6 := hW6d.br.gm.go.ar.at_.lt
          have hzm : z ∈ obs5 := List.mem_of_getElem? hz
          have hPz : ptsAt obs5 (z.r : Int) = pts z := ptsAt_mem hWd.br.gm.go.ob hzm
          have HX := Lib.hid (And.intro hW6d s6')
          have HP := Lib.hid (And.intro hzm hPz)
          clear hWd hz hzR hO s6' hW6d hzm hPz
          gi_wp2_with fail
          refine ⟨trivial, fun h => (by cases h), ?_⟩
          refine (callsIn_wide.2 cPt).mono ?_
          rintro e w' ⟨rfl, rfl⟩
          clear cPt o0 hca
          gi_wp2_with fail
          obtain ⟨hW6d, s6'⟩ := HX.out
          generalize ((W.alloc (.cells #[.int .i64 (z.r : Int)] 36)).alloc (.cells #[.pointer (some ⟨xa, 0, none⟩)] 28)).alloc (.cells #[.int .i64 (z.r : Int)] 36) = W6 at *
          have htb6 := hW6d.br.gm.go.ar.tabAt
          have htl6 := htb6.lt
          have hA6 := hW6d.br.gm.go.ar.at_
          have hxa6 := hW6d.xa
          clear HX
          have HS6 := Lib.hid (And.intro s6' hW6d)
          generalize W.heap.size = x1 at *
          clear s6' hW6d
          refine wpIn_rangeO rfl (by omega) (gf := 44) (lb := #[.pointer (some ⟨x1 + 1, 0, none⟩), .pointer (some ⟨x1 + 1 + 1, 0, none⟩)]) rfl trivial (enters_of Tryz.func44 (by kernel_rfl) rfl)
            (SeqO.ofK (pta_stops (M - 1) (x1 + 1) z.k (z.r : Int) z.F hrd W6 hA6 htb6 (by rw [hxa6]; exact b0) b1)) KpPt.trans
            (fun V l o hl => KpPt.putObj (n0 := W6.heap.size) hXlt6 (by have := HS6.out.1; omega) (by omega) V l o hl) (Below.refl _ _) (fun _ => rfl)
            (fun st V => Below W6.heap.size W6 V) (fun _ _ _ => False)
            (fun st V V' row hs hg hr => (ownFrom_below (β := Unit) (Nat.le_refl _) (Nat.le_refl _)) () V V' row hs hg hr) (fun _ _ _ _ _ hs _ _ => hs) (Below.refl _ _) ?a1L1 ?assignL1 ?bodyL1 ?doneL1 ?stopL1
          case assignL1 =>
            intro l0 y' W' K' hK'
            unfold ptaArgs
            gi_wp2
            exact hK'
          case stopL1 =>
            rintro D c' pre O V hD _ h
            exact h.elim
          case bodyL1 =>
            rintro l0 pre O y' V hBV hpl
            have hV := HS6.out.2.ask hBV
            have hmc := hV.cell
            have hob := o6.turn (Turn.ofBelow hBV) (by have := HS6.out.1; omega)
            have hoc := hob.cell 0
            simp only [List.getElem?_toArray, List.getElem?_cons_zero] at hoc
            have hsV := hBV.size
            have fin : ∀ V', Below V.heap.size V V' → ∃ O', Owned W6.heap.size O O' V V' ∧ KpPt X5 (x1 + 1) V V' ∧ Below W6.heap.size W6 V' := fun V' hB => ⟨O, ⟨hB.size, fun k hk hkl _ => hB.block k hkl, fun k e => .inl e⟩, KpPt.ofBelow (n0 := W6.heap.size) (hB.mono hsV) hXlt6 (by have := HS6.out.1; omega) (by omega), hBV.trans (hB.mono hsV)⟩
            obtain ⟨bz, hbz⟩ : ∃ bz, c7.sc (z.r : Int) = bz := ⟨_, rfl⟩
            have cM1 := hV.br.gm.at_.scanned (z.r : Int)
            rw [hV.br.tm, hbz] at cM1
            have HF := Lib.hid fin
            have HV := Lib.hid hV
            have HBQ := Lib.hid hbz
            clear fin hV hbz hBV
            cases bz
            · gi_wp2_with fail
              refine ⟨trivial, fun h => (by cases h), ?_⟩
              refine ((callsIn_wide.2 cM1).inRound l0).mono ?_
              rintro e V1 ⟨rfl, hB1⟩
              have H1 := Lib.hid hB1
              clear cM1 hB1
              gi_wp2_with fail
              refine ⟨trivial, ?_⟩
              gi_wp2_with fail
              exact HF.out _ H1.out
            · have hzp : z.F y'.1.val ∈ pts z := by
                unfold pts elems
                exact List.mem_map.2 ⟨y'.1.val, List.mem_filter.2 ⟨List.mem_range.2 y'.2.1, y'.2.2⟩, rfl⟩
              have hmz : c7.ma (z.F y'.1.val) = true := by
                have h1 := HD7.out.2.1.clo (z.r : Int) HBQ.out (z.F y'.1.val)
                rw [HP.out.2] at h1
                exact h1 hzp
              have HMZ := Lib.hid hmz
              clear hzp hmz
              gi_wp2_with fail
              refine ⟨trivial, fun h => (by cases h), ?_⟩
              refine ((callsIn_wide.2 cM1).inRound l0).mono ?_
              rintro e V1 ⟨rfl, hB1⟩
              have hV1 := HV.out.ask hB1
              have hmc1 := hV1.cell
              have cM2 := hV1.br.gm.at_.marked (z.F y'.1.val)
              rw [hV1.br.tm, HMZ.out] at cM2
              have H1 := Lib.hid hB1
              clear cM1 hV1 hB1
              gi_wp2_with fail
              refine ⟨trivial, fun h => (by cases h), ?_⟩
              refine ((callsIn_wide.2 cM2).inRound l0).mono ?_
              rintro e V2 ⟨rfl, hB2⟩
              have H2 := Lib.hid (below_step H1.out hB2)
              clear cM2 hB2
              gi_wp2_with fail
              exact HF.out _ H2.out
          case doneL1 =>
            rintro D xs O V hD hxs hBV hDf
            have hDV := (Array.getElem?_eq_some_iff.mp hDf).1
            have hB7V : Below W7.heap.size W7 V := hBW.trans ((hB6.trans (hBV.mono (by have := HS6.out.1; omega))).mono hwz)
            have hMV : Marks w2.heap.size hi' ds' V := HMK.out.1.keep fun q _ q2 q3 => ((hB6.trans (hBV.mono (by have := HS6.out.1; omega))).block q (by omega)).trans q3
            have hMD := (hMV.mono (show hi' ≤ D by have := HS6.out.1; omega)).push (by have := HS6.out.1; omega) (Nat.lt_succ_self D) hDf
            have HE := Lib.hid (show ∃ k' hi'' : Nat, k' ≤ L ∧ Value.int .i64 ((k : Int) + 1) = .int .i64 (k' : Int) ∧ Below W7.heap.size W7 V ∧ hi'' ≤ V.heap.size ∧ Marks w2.heap.size hi'' ({ target := .collected D, args := #[] } :: ds') V ∧ ∀ j, DsHas ({ target := .collected D, args := #[] } :: ds') j → DsHas ds j ∨ W7.heap.size ≤ j from
              ⟨k + 1, D + 1, hlt7, rfl, hB7V, hDV, hMD, fun j e => by
                rcases e with e | e
                · have e2 : D = j := by injection e
                  exact .inr (by have := HS6.out.1; omega)
                · exact HMK.out.2 j e⟩)
            have HMS := Lib.hid (show L - (intOf (Value.int .i64 ((k : Int) + 1))).toNat < L - (intOf (Value.int .i64 (k : Int))).toNat by simp [intOf]; omega)
            clear hB7V hMV hMD hDf hxs
            gi_wp2_with fail
            exact ⟨_, rfl, rfl, HE.out, HMS.out⟩
/-- As the frame asks it. -/
theorem dkeeps_frame (a0 : Option Addr) (zs : List Int) (cf : Nat) (e0 : Option Addr) (ne ce : Nat) (Q : Nat → Nat → Int) (a1 : Option Addr) (n1 c1 : Nat) (Q1 : Nat → Nat → Int) (w : World) (hl : n1 ≤ 9223372036854775807)
    (hF : BytesW w a0 zs) (hE : EdgesW w e0 ne Q) (hP : FoursW w a1 n1 Q1) (hTb : TabAt w) (hT : TableAt w) :
    Calls Tryz.prog 4 #[.agg #[.slice a0 zs.length cf, .slice e0 ne ce], .slice a1 n1 c1] w fun e w' => e = .returned (.bool true) ∧ Below w.heap.size w w' := dkeeps_true a0 zs cf e0 ne ce Q a1 n1 c1 Q1 w hF hE hP ⟨hT, hTb⟩
end Go.Proofs.YtdgkgcfnddmofaaGreatDoor
