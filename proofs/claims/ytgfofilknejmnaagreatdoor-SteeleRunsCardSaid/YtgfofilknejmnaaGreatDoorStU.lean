/- SteeleRuns, walked, over the barrier's contracts; at this seat's numbers. -/
import Derived.Test.YtgfofilknejmnaaGreatDoorStM
namespace Go.Proofs.YtgfofilknejmnaaGreatDoor
open Go Go.RowKit Go.Shelf Go.MuLone Go.RwLone
set_option linter.unusedSimpArgs false
set_option linter.unusedVariables false
attribute [local go_sem] Oper.semAt_some

def SrA (B mb n tm : Nat) (X : ArB) (s : ArS) (obs : List Ob) (vl : Value) (f : Int → Value) (wb : World) (v44 : Value) (wr : World) : Prop :=
  ∃ (i : Nat) (T : MkB) (c : Col), i ≤ obs.length ∧ v44 = .int .i64 (i : Int) ∧ T.m = tm ∧ GmIn B mb n X s obs vl f (ptsAt obs) (fun _ => False) T c wb wr
/-- What was marked, and scanned. -/
def wasOf (c : Col) (obs : List Ob) (i : Nat) : List (Bool × Bool) := ((refsI obs).take i).map fun x => (c.ma x, c.sc x)
theorem wasOf_length {c : Col} {obs : List Ob} {i : Nat} (hi : i ≤ obs.length) : (wasOf c obs i).length = i := by unfold wasOf; rw [List.length_map, List.length_take, refsI_length]; omega
theorem wasOf_next {c : Col} {obs : List Ob} {i : Nat} {x : Ob} (hx : obs[i]? = some x) : wasOf c obs i ++ [(c.ma (x.r : Int), c.sc (x.r : Int))] = wasOf c obs (i + 1) := by
  unfold wasOf
  rw [take_nextR (refsI_at hx), List.map_append]; rfl
def SrB (B mb n : Nat) (X : ArB) (s : ArS) (obs : List Ob) (vl : Value) (f : Int → Value) (T : MkB) (c : Col) (Z : StB) (pm : Nat) (wb : World) (v15 v74 : Value) (wr : World) : Prop :=
  ∃ (i : Nat) (v : Value), i ≤ obs.length ∧ v = v15 ∧ v74 = .int .i64 (i : Int) ∧ Srn B mb n X s obs vl f T c Z (fun _ => false) (fun _ => false) pm 0 v (wasOf c obs i) wb wr
def SrC (us : List Int) (B mb n zt : Nat) (X : ArB) (s : ArS) (obs : List Ob) (vl : Value) (f : Int → Value) (T : MkB) (c : Col) (pm : Nat) (v15 : Value) (wb : World) (v91 : Value) (wr : World) : Prop :=
  ∃ (i cnt : Nat) (Z : StB) (D : Nat → Bool), i ≤ us.length ∧ cnt ≤ i ∧ v91 = .int .i64 (i : Int) ∧ Z.t = zt ∧ Srn B mb n X s obs vl f T c Z D D pm cnt v15 (wasOf c obs obs.length) wb wr
theorem wasOf_at {c : Col} {obs : List Ob} {i : Nat} {x : Ob} (hx : obs[i]? = some x) : (wasOf c obs obs.length)[i]? = some (c.ma (x.r : Int), c.sc (x.r : Int)) := by
  unfold wasOf
  rw [← refsI_length obs, List.take_length, List.getElem?_map, refsI_at hx]; rfl
theorem brow_cell {w : World} {g m cap i : Nat} {L : List (Bool × Bool)} {p : Bool × Bool} (h : BolRow w (.slice (some ⟨g, 0, none⟩) m cap) L) (hi : L[i]? = some p) : w.cell? ⟨g, i * 2, none⟩ = some (.bool p.1) ∧ w.cell? ⟨g, i * 2 + 1, none⟩ = some (.bool p.2) := by
  rcases h.is with ⟨e, _⟩ | ⟨g', cap', cur, e, _, _, _, _, hc⟩
  · cases e
  · cases e
    exact hc i p hi
theorem shade_or (q : Nat) (h : q < 256) : (((q : Int).tmod 3 == 1) = true ∧ ((q : Int).tmod 3 == 2) = false) ∨ (((q : Int).tmod 3 == 1) = false ∧ ((q : Int).tmod 3 == 2) = true) ∨ (((q : Int).tmod 3 == 1) = false ∧ ((q : Int).tmod 3 == 2) = false) := by
  rw [Int.tmod_eq_emod_of_nonneg (by omega)]
  simp only [beq_iff_eq, beq_eq_false_iff_ne]
  omega
set_option maxRecDepth 100000 in
set_option maxHeartbeats 16000000 in
theorem sruns_true (a0 : Option Addr) (zs : List Int) (cf : Nat) (e0 : Option Addr) (ne ce : Nat) (Q : Nat → Nat → Int) (a1 : Option Addr) (us : List Int) (cu : Nat) (a2 : Option Addr) (ws : List Int) (cw : Nat) (w : World) (hul : us.length ≤ 9223372036854775807)
    (hF : BytesW w a0 zs) (hE : EdgesW w e0 ne Q) (hU : BytesW w a1 us) (hV : BytesW w a2 ws) (hT : Tabs w) :
    Calls Tryz.prog 3 #[.agg #[.slice a0 zs.length cf, .slice e0 ne ce], .slice a1 us.length cu, .slice a2 ws.length cw] w fun e w' => e = .returned (.bool true) ∧ Below w.heap.size w w' := by
  have HA := Lib.hid (And.intro hF (And.intro hE (And.intro hU hV)))
  clear hF hE hU hV
  go_enter Tryz.func3, Tryz.ntmps3
  go_wp2_with fail
  have hG := Blk.new w #[.slice a0 zs.length cf, .slice e0 ne ce] 25
  have hB0 := (Below.refl w.heap.size w).alloc (Nat.le_refl _) (.cells #[.slice a0 zs.length cf, .slice e0 ne ce] 25)
  have hT0 := hT.below hB0
  generalize w.alloc (.cells #[.slice a0 zs.length cf, .slice e0 ne ce] 25) = W0 at *
  refine (stfit_true W0 hT0).mono ?_
  rintro e w1 ⟨rfl, hB1⟩
  have hG1 := hG.turn (Turn.ofBelow hB1) (fun e => Nat.lt_irrefl _ (Nat.lt_of_lt_of_le hG.lt e))
  have hB01 := hB0.trans (hB1.mono hB0.size)
  have g0 := hG1.cell 0
  have g1 := hG1.cell 1
  simp only [List.getElem?_toArray, List.getElem?_cons_zero, List.getElem?_cons_succ] at g0 g1
  obtain ⟨q, hq⟩ : ∃ q, (decide (zs.length ≤ 40) && decide (ne ≤ 120)) = q := ⟨_, rfl⟩
  have cS := small_any a0 zs.length cf e0 ne ce w1 q hq
  have HW1 := Lib.hid (And.intro hG1 (And.intro hB01 (hT.below hB01)))
  clear hB0 hB1 hG hT0 hG1 hT hB01
  go_wp2_with fail
  refine cS.mono ?_
  rintro e w2 ⟨rfl, hB2⟩
  have hB02 := HW1.out.2.1.trans (hB2.mono HW1.out.2.1.size)
  clear cS g0 g1
  by_cases hsm : zs.length ≤ 40 ∧ ne ≤ 120 ∧ ws.length ≤ 40
  case neg =>
    cases q with
    | false =>
      clear hsm hq
      go_wp2_with fail
      go_ret
      exact ⟨rfl, hB02⟩
    | true =>
      have h40 : 40 < (ws.length : Int) := by
        have h1 : zs.length ≤ 40 := by simpa using (Bool.and_eq_true_iff.1 hq).1
        have h2 : ne ≤ 120 := by simpa using (Bool.and_eq_true_iff.1 hq).2
        have : ¬ (ws.length ≤ 40) := fun h3 => hsm ⟨h1, h2, h3⟩
        omega
      clear hsm hq
      go_wp2_with fail
      go_ret
      exact ⟨rfl, hB02⟩
  case pos =>
  obtain ⟨h40, h120, hw40⟩ := hsm
  have hqt : q = true := by rw [← hq, decide_eq_true h40, decide_eq_true h120]; rfl
  subst hqt
  have h40I : ¬ 40 < (ws.length : Int) := by omega
  have hG2 := HW1.out.1.turn (Turn.ofBelow hB2) (fun e => Nat.lt_irrefl _ (Nat.lt_of_lt_of_le HW1.out.1.lt e))
  have hT2 := HW1.out.2.2.below hB2
  have cM := made_any a0 zs cf e0 ne ce Q w2 h40 h120 (HA.out.1.under hB02 (Nat.le_refl _)) (HA.out.2.1.under hB02 (Nat.le_refl _)) hT2.c
  have HTB := Lib.hid hT2.b
  have g0 := hG2.cell 0
  have g1 := hG2.cell 1
  simp only [List.getElem?_toArray, List.getElem?_cons_zero, List.getElem?_cons_succ] at g0 g1
  have HW2 := Lib.hid hB02
  have H40 := Lib.hid (And.intro h40 hw40)
  clear hG2 hT2 hB02 hB2 HW1 hq h40 h120 hw40
  go_wp2_with fail
  refine cM.mono ?_
  rintro e w3 hMP
  obtain ⟨X, s, obs, vl, mb, n, f, rfl, hMO⟩ := hMP.ok HTB.out
  obtain ⟨L, hol⟩ : ∃ L, obs.length = L := ⟨_, rfl⟩
  have hL40 : L ≤ 40 := by have := hMO.len; have := H40.out.1; omega
  have hl6 := hMO.go.row.lenRun 3
  rw [refsI_length, hol] at hl6
  have cN := gm_new (E := fun _ => False) hMO.go hMO.P 64 (fun _ h => h.elim) (by omega) hMO.tab hMO.tab.lt
  have HO := Lib.hid (And.intro hMO hol)
  clear hMO hMP cM g0 g1 hol
  go_wp2_with fail
  refine cN.mono ?_
  rintro e w4 ⟨T, rfl, hGm, hB4⟩
  obtain ⟨tm, htm⟩ : ∃ tm, T.m = tm := ⟨_, rfl⟩
  rw [htm]
  have h0 : SrA w2.heap.size mb n tm X s obs vl f w2 (.int .i64 0) w4 := ⟨0, T, Col.white, Nat.zero_le _, rfl, htm, hGm⟩
  clear hGm hB4 cN htm
  go_wp2_with fail
  clear hl6
  go_loopw [44] (fun v44 wr => SrA w2.heap.size mb n tm X s obs vl f w2 v44 wr) (fun v44 _ => L - (intOf v44).toNat)
  case atStart => exact h0
  case round =>
  clear h0
  obtain ⟨i, T, c, hi, rfl, htm, hGm⟩ := hrel
  have hi0 : (0 : Int) ≤ (i : Int) := by omega
  have hiL : i ≤ L := by have := HO.out.2; omega
  by_cases hlt : i < L
  · have hi1 : (i : Int) < (L : Int) := by omega
    obtain ⟨x, hx⟩ : ∃ x, obs[i]? = some x := ⟨_, List.getElem?_eq_getElem (by have := HO.out.2; omega)⟩
    rcases hGm.go.row.is with ⟨_, e⟩ | ⟨g, cap, cur, hv, hg, hlc, hcm, hcs, hcell⟩
    · have := congrArg List.length e; rw [refsI_length, HO.out.2] at this; simp at this; omega
    rw [refsI_length, HO.out.2] at hv
    have hca := hcell i (by rw [refsI_length, HO.out.2]; exact hlt)
    rw [(List.getElem?_eq_some_iff.1 (refsI_at hx)).2] at hca
    have hxR : (x.r : Int) ∈ refsI obs := List.mem_map.2 ⟨x, List.mem_of_getElem? hx, rfl⟩
    have hxb := HO.out.1.bd _ hxR
    have hBw := HW2.out.trans (hGm.below.mono HW2.out.size)
    have cSh := hGm.shade (x.r : Int) hxR hxb.1 hxb.2
    have cBl := hGm.blacken (x.r : Int) hxR hxb.1 hxb.2
    rw [htm] at cSh cBl
    have HG := Lib.hid (And.intro hGm htm)
    subst hv
    clear hx hg hlc hcm hcs hcell hxR hxb hGm htm
    by_cases hiu : i < us.length
    · obtain ⟨bk, off, rfl, hbk, hcU, hwf⟩ := HA.out.2.2.1 i hiu
      have hd := (hBw.cell (p := ⟨bk, off + i, none⟩) hbk).trans hcU
      obtain ⟨v, hv⟩ : ∃ v, us.getD i 0 = v := ⟨_, rfl⟩
      rw [hv] at hd hwf
      obtain ⟨q, rfl, hq⟩ := u8_natW hwf
      have hiuI : (i : Int) < (us.length : Int) := by omega
      have hm3 := shade_or q hq
      obtain ⟨m, hm⟩ : ∃ m, (q : Int).tmod 3 = m := ⟨_, rfl⟩
      rw [hm] at hm3
      clear hv hcU hbk hBw hiu hwf
      rcases hm3 with ⟨e1, e2⟩ | ⟨e1, e2⟩ | ⟨e1, e2⟩
      · obtain rfl : m = 1 := by simpa using e1
        clear e1 e2 cBl
        go_wp2_with fail
        refine cSh.mono ?_
        rintro e w5 ⟨rfl, T', hm', hG', _⟩
        have HG2 := Lib.hid (And.intro hm' hG')
        clear cSh hm' hG' hca hd hm
        go_wp2_with fail
        go_roundw
        case rel => exact ⟨i + 1, T', _, by have := HO.out.2; omega, by go_num, HG2.out.1, HG2.out.2⟩
        case measure => simp [intOf]; omega
      · obtain rfl : m = 2 := by simpa using e2
        clear e1 e2 cSh
        go_wp2_with fail
        refine cBl.mono ?_
        rintro e w5 ⟨rfl, T', hm', hG', _⟩
        have HG2 := Lib.hid (And.intro hm' hG')
        clear cBl hm' hG' hca hd hm
        go_wp2_with fail
        go_roundw
        case rel => exact ⟨i + 1, T', _, by have := HO.out.2; omega, by go_num, HG2.out.1, HG2.out.2⟩
        case measure => simp [intOf]; omega
      · clear cSh cBl
        go_wp2_with fail
        go_roundw
        case rel => exact ⟨i + 1, T, _, by have := HO.out.2; omega, by go_num, HG.out.2, HG.out.1⟩
        case measure => simp [intOf]; omega
    · have hiuI : ¬ (i : Int) < (us.length : Int) := by omega
      clear hiu hBw cSh cBl
      go_wp2_with fail
      go_roundw
      case rel => exact ⟨i + 1, T, _, by have := HO.out.2; omega, by go_num, HG.out.2, HG.out.1⟩
      case measure => simp [intOf]; omega
  have hi1 : ¬ (i : Int) < (L : Int) := by omega
  obtain rfl : L = i := by omega
  have cS := st_new hGm
  rw [htm] at cS
  have hl8 := hGm.go.row.lenRun 3
  rw [refsI_length, HO.out.2] at hl8
  have hmm := @run_makeMap Tryz.prog
  clear hGm
  go_wp2_with fail
  refine cS.mono ?_
  rintro e w5 ⟨Z, rfl, hZ, hB5⟩
  obtain ⟨zt, hzt⟩ : ∃ zt, Z.t = zt := ⟨_, rfl⟩
  rw [hzt]
  have h6 := Srn.start hZ
  clear cS hB5 hZ
  go_wp2_with fail
  generalize w5.alloc (.map #[] 0) = w6 at *
  generalize w5.heap.size = pm at *
  have h0 : SrB w2.heap.size mb n X s obs vl f T c Z pm w2 (.slice none 0 0) (.int .i64 0) w6 := ⟨0, _, Nat.zero_le _, rfl, rfl, h6⟩
  have HT := Lib.hid (And.intro htm hzt)
  clear h6 hl8 hmm htm hzt
  go_loopw [15, 74] (fun v15 v74 wr => SrB w2.heap.size mb n X s obs vl f T c Z pm w2 v15 v74 wr) (fun _ v74 _ => L - (intOf v74).toNat)
  case atStart => exact h0
  case round =>
  clear h0
  obtain ⟨k, v15, hk, rfl, rfl, hS⟩ := hrel
  have hk0 : (0 : Int) ≤ (k : Int) := by omega
  have hkL : k ≤ L := by have := HO.out.2; omega
  by_cases hlt2 : k < L
  · have hk1 : (k : Int) < (L : Int) := by omega
    obtain ⟨x, hx⟩ : ∃ x, obs[k]? = some x := ⟨_, List.getElem?_eq_getElem (by have := HO.out.2; omega)⟩
    rcases hS.st.gm.go.row.is with ⟨_, e⟩ | ⟨g, cap, cur, hv, hg, hlc, hcm, hcs, hcell⟩
    · have := congrArg List.length e; rw [refsI_length, HO.out.2] at this; simp at this; omega
    rw [refsI_length, HO.out.2] at hv
    have hca := hcell k (by rw [refsI_length, HO.out.2]; exact hlt2)
    rw [(List.getElem?_eq_some_iff.1 (refsI_at hx)).2] at hca
    have cMa := hS.st.gm.at_.marked (x.r : Int)
    rw [HT.out.1] at cMa
    have HX := Lib.hid hx
    have HS := Lib.hid hS
    subst hv
    clear hx hg hlc hcm hcs hcell hS
    go_wp2_with fail
    refine cMa.mono ?_
    rintro e V1 ⟨rfl, hB1⟩
    have hS1 := HS.out.ask hB1
    have cSc := hS1.st.gm.at_.scanned (x.r : Int)
    rw [HT.out.1] at cSc
    have HS1 := Lib.hid hS1
    clear cMa hB1 hS1 hca
    obtain ⟨ba, hba⟩ : ∃ ba, c.ma (x.r : Int) = ba := ⟨_, rfl⟩
    rw [hba]
    obtain ⟨bc, hbc⟩ : ∃ bc, c.sc (x.r : Int) = bc := ⟨_, rfl⟩
    rw [hbc] at cSc
    have HBC := Lib.hid (And.intro hba hbc)
    clear hba hbc
    go_wp2_with fail
    refine cSc.mono ?_
    rintro e V2 ⟨rfl, hB2⟩
    have hS2 := HS1.out.ask hB2
    have hS3 := hS2.ask ((Below.refl _ V2).alloc (Nat.le_refl _) (.cells #[.bool ba, .bool bc] 41))
    have HS3 := Lib.hid hS3
    have hrow := hS3.row
    have hlw : (wasOf c obs k).length ≤ 100000 := by rw [wasOf_length hk]; omega
    clear cSc hB2 hS2 hS3
    go_wp2_with (at_builtin; refine wpList_pushB rfl _ _ rfl hrow hlw V2.heap.size 1 (ba, bc) (Blk.new V2 _ _) rfl rfl ?_; intro g6 n6 c6 w7 hR6 hT6 hN6; have H6 := Lib.hid (And.intro hR6 (And.intro hT6 hN6)); clear hR6 hT6 hN6 hrow)
    go_roundw
    case rel =>
      have h9 := HS3.out.push H6.out.1 H6.out.2.1 H6.out.2.2
      rw [← HBC.out.1, ← HBC.out.2, wasOf_next HX.out] at h9
      exact ⟨k + 1, _, by have := HO.out.2; omega, rfl, by go_num, h9⟩
    case measure => simp [intOf]; omega
  have hk1 : ¬ (k : Int) < (L : Int) := by omega
  obtain rfl : L = k := by omega
  have hwas : wasOf c obs L = wasOf c obs obs.length := by rw [HO.out.2]
  rw [hwas] at hS
  have h0 : SrC ws w2.heap.size mb n zt X s obs vl f T c pm v15 w2 (.int .i64 0) wr := ⟨0, 0, Z, _, Nat.zero_le _, Nat.le_refl _, rfl, HT.out.2, hS⟩
  clear hwas hS
  go_wp2_with fail
  go_loopw [91] (fun v91 wr => SrC ws w2.heap.size mb n zt X s obs vl f T c pm v15 w2 v91 wr) (fun v91 _ => ws.length - (intOf v91).toNat)
  case atStart => exact h0
  case round =>
  clear h0
  obtain ⟨j, cnt, Z, D, hj, hcj, rfl, hzt, hS⟩ := hrel
  have hj0 : (0 : Int) ≤ (j : Int) := by omega
  have hw40 := H40.out.2
  by_cases hlt3 : j < ws.length
  · have hj1 : (j : Int) < (ws.length : Int) := by omega
    obtain ⟨bk, off, rfl, hbk, hcV, hwf⟩ := HA.out.2.2.2 j hlt3
    have hBw := HW2.out.trans (hS.st.gm.below.mono HW2.out.size)
    have hd := (hBw.cell (p := ⟨bk, off + j, none⟩) hbk).trans hcV
    obtain ⟨v, hv⟩ : ∃ v, ws.getD j 0 = v := ⟨_, rfl⟩
    rw [hv] at hd hwf
    obtain ⟨q, rfl, hq⟩ := u8_natW hwf
    obtain ⟨z, hz⟩ : ∃ z, bits .and .u8 (q : Int) 15 = z := ⟨_, rfl⟩
    obtain ⟨b15, hb15⟩ : ∃ b15, (z == 15) = b15 := ⟨_, rfl⟩
    have cPr := hS.st.pre 0 0
    rw [hzt] at cPr
    have hl8 := hS.st.gm.go.row.lenRun 3
    rw [refsI_length, HO.out.2] at hl8
    have HS := Lib.hid (And.intro hS hzt)
    clear hv hcV hbk hBw hwf hS hzt
    go_wp2_with fail
    refine cPr.mono ?_
    rintro e V1 ⟨rfl, rfl⟩
    clear cPr hd
    by_cases hLz : L = 0
    · have hzb : ((L : Int) == 0) = true := by simp; omega
      have cP := HS.out.1.st.post 0 0 0 false false
      rw [HS.out.2] at cP
      clear hLz hz
      go_wp2_with fail
      refine cP.mono ?_
      rintro e V2 ⟨rfl, Z2, hz2, h2, hk2⟩
      rw [dirtyS_none (by omega)] at h2
      have H2 := Lib.hid (And.intro (HS.out.1.went h2 hk2) hz2)
      clear cP hz2 h2 hk2
      go_wp2_with fail
      go_roundw
      case rel => exact ⟨j + 1, cnt, Z2, D, hlt3, by omega, by go_num, H2.out.2, H2.out.1⟩
      case measure => simp [intOf]; omega
    have hzb : ((L : Int) == 0) = false := by simp; omega
    cases b15 with
    | true =>
      have cP := HS.out.1.st.post 0 0 0 false false
      rw [HS.out.2] at cP
      go_wp2_with fail
      refine cP.mono ?_
      rintro e V2 ⟨rfl, Z2, hz2, h2, hk2⟩
      rw [dirtyS_none (by omega)] at h2
      have H2 := Lib.hid (And.intro (HS.out.1.went h2 hk2) hz2)
      clear cP hz2 h2 hk2
      go_wp2_with fail
      go_roundw
      case rel => exact ⟨j + 1, cnt, Z2, D, hlt3, by omega, by go_num, H2.out.2, H2.out.1⟩
      case measure => simp [intOf]; omega
    | false =>
      have hip : 0 < L := by omega
      obtain ⟨ia, hia⟩ : ∃ ia, ia = q % L := ⟨_, rfl⟩
      have hta : (q : Int).tmod (L : Int) = (ia : Int) := by rw [Int.tmod_eq_emod_of_nonneg (by omega), hia]; omega
      have hla : ia < L := by rw [hia]; exact Nat.mod_lt _ hip
      have hin : ¬ (L : Int) = 0 := by omega
      have hlaI : (ia : Int) < (L : Int) := by omega
      have hla0 : (0 : Int) ≤ (ia : Int) := by omega
      have hwa : IntKind.i64.wrap (q : Int) = (q : Int) := by simp [IntKind.wrap, IntKind.bits, IntKind.signed]; omega
      obtain ⟨y, hy⟩ : ∃ y, obs[ia]? = some y := ⟨_, List.getElem?_eq_getElem (by have := HO.out.2; omega)⟩
      rcases HS.out.1.st.gm.go.row.is with ⟨_, e⟩ | ⟨g, cap, cur, hv, hg, hlc, hcm, hcs, hcell⟩
      · have := congrArg List.length e; rw [refsI_length, HO.out.2] at this; simp at this; omega
      rw [refsI_length, HO.out.2] at hv
      have hca := hcell ia (by rw [refsI_length, HO.out.2]; exact hla)
      rw [(List.getElem?_eq_some_iff.1 (refsI_at hy)).2] at hca
      have hyR : (y.r : Int) ∈ refsI obs := List.mem_map.2 ⟨y, List.mem_of_getElem? hy, rfl⟩
      have hyb := HO.out.1.bd _ hyR
      have hP := HO.out.1.P
      have cPr := HS.out.1.st.pre (y.r : Int) (y.r : Int)
      rw [HS.out.2] at cPr
      obtain ⟨z1, hz1⟩ : ∃ z1, bits .and .u8 (q : Int) 1 = z1 := ⟨_, rfl⟩
      obtain ⟨b1, hb1⟩ : ∃ b1, (z1 == 1) = b1 := ⟨_, rfl⟩
      have cP := HS.out.1.st.post (y.r : Int) 0 0 b1 false
      rw [HS.out.2] at cP
      have hdp : dirtyS s.P D (y.r : Int) = putS s.P D ((pg y.r : Nat) : Int) ∧ may s.P ((pg y.r : Nat) : Int) = true := by
        have := dirtyS_put (P := s.P) (S := D) (r := (y.r : Int)) (by rw [hP]; omega)
        rw [Int.toNat_natCast] at this
        exact this
      have hwp : (Lit.int .i64 ((pg y.r : Nat) : Int)).wf = true := by
        have : pg y.r = (y.r - 1) / 32 := rfl
        simp [Lit.wf, IntKind.min, IntKind.max, IntKind.signed, IntKind.bits]; omega
      have HY := Lib.hid (And.intro hyb (And.intro hP (And.intro hdp hwp)))
      subst hv
      clear hia hy hg hlc hcm hcs hcell hyR hyb hP hdp hwp hLz
      go_wp2_with fail
      refine cPr.mono ?_
      rintro e V1 ⟨rfl, rfl⟩
      clear cPr hta hla hin hlaI hla0 hwa hca hl8
      go_wp2_with fail
      refine cP.mono ?_
      rintro e V2 ⟨rfl, Z2, hz2, h2, hk2⟩
      have h3 := HS.out.1.went h2 hk2
      rw [HY.out.2.2.1.1] at h3
      have cPg := page_yes h3.st.gm.go.ar.at_.toArMem y.r (by have := HY.out.1; omega) (by have := HY.out.1; have := HY.out.2.1; omega)
      obtain ⟨V3, hrun, h4⟩ := h3.store (m := s.P) (by have := HY.out.2.1; omega) (by omega) ((pg y.r : Nat) : Int) HY.out.2.2.2 HY.out.2.2.1.2
      have H4 := Lib.hid (And.intro h4 hz2)
      clear cP hz2 h2 hk2 h3 h4
      go_wp2_with fail
      refine cPg.mono ?_
      rintro e V4 ⟨rfl, rfl⟩
      clear cPg
      go_wp2_with fail
      go_roundw
      case rel => exact ⟨j + 1, cnt + 1, Z2, _, hlt3, by omega, by go_num, H4.out.2, H4.out.1⟩
      case measure => simp [intOf]; omega
  have hj1 : ¬ (j : Int) < (ws.length : Int) := by omega
  obtain rfl : ws.length = j := by omega
  have hDn : ((card D : Int) != (card D : Int)) = false := by simp
  have hlen := hS.map.len 3
  have cD := hS.st.dirty (card D) rfl
  rw [hzt] at cD
  have HS := Lib.hid (And.intro hS hzt)
  clear hS hzt hlen
  go_wp2_with fail
  refine cD.mono ?_
  rintro e w7 ⟨rfl, hB7⟩
  have hS7 := HS.out.1.ask hB7
  have hlen := hS7.map.len 3
  have cR := hS7.st.remark
  rw [HS.out.2] at cR
  have HS7 := Lib.hid hS7
  generalize hcd : card D = cd at *
  clear cD hB7 hS7 hcd
  go_wp2_with fail
  refine cR.mono ?_
  rintro e w8 ⟨rfl, T8, Z8, hm8, hz8, h8, hk8⟩
  have HS8 := Lib.hid (And.intro (HS7.out.went h8 hk8) (And.intro (hm8.trans HT.out.1) hz8))
  have hl8 := h8.gm.go.row.lenRun 3
  rw [refsI_length, HO.out.2] at hl8
  clear cR hm8 hz8 h8 hk8 hlen hDn
  go_wp2_with fail
  clear hl8
  go_loopw [141] (fun v141 W => ∃ k : Nat, k ≤ L ∧ v141 = .int .i64 (k : Int) ∧ Below w8.heap.size w8 W) (fun v141 _ => L - (intOf v141).toNat)
  case atStart => exact ⟨0, Nat.zero_le _, rfl, Below.refl _ _⟩
  case round =>
  obtain ⟨k, hk, rfl, hBW⟩ := hrel
  have hW := HS8.out.1.ask hBW
  have hk0 : (0 : Int) ≤ (k : Int) := by omega
  by_cases hlt4 : k < L
  · have hk1 : (k : Int) < (L : Int) := by omega
    obtain ⟨x, hx⟩ : ∃ x, obs[k]? = some x := ⟨_, List.getElem?_eq_getElem (by have := HO.out.2; omega)⟩
    rcases hW.st.gm.go.row.is with ⟨_, e⟩ | ⟨g, cap, cur, hv, hg, hlc, hcm, hcs, hcell⟩
    · have := congrArg List.length e; rw [refsI_length, HO.out.2] at this; simp at this; omega
    rw [refsI_length, HO.out.2] at hv
    have hca := hcell k (by rw [refsI_length, HO.out.2]; exact hlt4)
    rw [(List.getElem?_eq_some_iff.1 (refsI_at hx)).2] at hca
    have hat := wasOf_at (c := c) hx
    rcases hW.row.is with ⟨_, e⟩ | ⟨g2, cap2, cur2, hv2, hg2, hlc2, hcm2, hcs2, hcell2⟩
    · rw [e] at hat; simp at hat
    rw [wasOf_length (Nat.le_refl _), HO.out.2] at hv2
    have hxR : (x.r : Int) ∈ refsI obs := List.mem_map.2 ⟨x, List.mem_of_getElem? hx, rfl⟩
    have hxb := HO.out.1.bd _ hxR
    have hP := HO.out.1.P
    have hwp : (Lit.int .i64 ((pg x.r : Nat) : Int)).wf = true := by
      have : pg x.r = (x.r - 1) / 32 := rfl
      simp [Lit.wf, IntKind.min, IntKind.max, IntKind.signed, IntKind.bits]; omega
    have hlk := hW.map.look ((pg x.r : Nat) : Int) hwp
    have hin : inS D ((pg x.r : Nat) : Int) = D (pg x.r) := by unfold inS; simp
    have cPg := page_yes hW.st.gm.go.ar.at_.toArMem x.r (by omega) (by omega)
    subst hv hv2
    have hD := hW.ask (Below.refl _ wr).drew
    have cMa := hD.st.gm.at_.marked (x.r : Int)
    obtain ⟨ba, hba⟩ : ∃ ba, c.ma (x.r : Int) = ba := ⟨_, rfl⟩
    obtain ⟨bc, hbc⟩ : ∃ bc, c.sc (x.r : Int) = bc := ⟨_, rfl⟩
    obtain ⟨bd, hbd⟩ : ∃ bd, D (pg x.r) = bd := ⟨_, rfl⟩
    rw [show (c.rem D).ma (x.r : Int) = ba from hba, HS8.out.2.1] at cMa
    have hsx : (c.rem D).sc (x.r : Int) = (bc && !bd) := by
      show (c.sc (x.r : Int) && !remD D (x.r : Int)) = _
      unfold remD
      rw [hbc, decide_eq_true hxb.1, Bool.true_and, Int.toNat_natCast, hbd]
    rw [hba, hbc] at hat
    obtain ⟨hc0, hc1⟩ := hcell2 k _ hat
    have hc0D := (brow_cell hD.row hat).1
    rw [hbd] at hin
    have HAT := Lib.hid (And.intro hat hsx)
    have HD := Lib.hid hD
    have HBW := Lib.hid hBW
    clear hx hg hlc hcm hcs hcell hg2 hlc2 hcm2 hcs2 hcell2 hxR hxb hP hwp hba hbc hbd hat hsx hW hD hBW
    cases bc with
    | true =>
      cases bd with
      | true =>
        have hone := oneAt_yes hin
        rw [hone] at hlk
        clear hone hin
        go_wp2_with fail
        refine cPg.mono ?_
        rintro e V0 ⟨rfl, rfl⟩
        clear cPg
        cases ba with
        | true =>
          have cSq : ∀ V1, Below _ _ V1 → Calls Tryz.prog 14 #[.pointer (some ⟨tm, 0, none⟩), .int .i64 (x.r : Int)] V1 fun e w' => e = .returned (.bool false) ∧ Below V1.heap.size V1 w' := fun V1 hB => by
            have := (HD.out.ask hB).st.gm.at_.scanned (x.r : Int)
            rw [HAT.out.2, HS8.out.2.1] at this
            exact this
          have hCq : ∀ V1, Below _ _ V1 → V1.cell? ⟨g2, k * 2, none⟩ = some (.bool true) := fun V1 hB => (brow_cell (HD.out.ask hB).row HAT.out.1).1
          have hVW : ∀ V1, Below _ _ V1 → Below w8.heap.size w8 V1 := fun V1 hB => HBW.out.trans ((((Below.refl _ wr).drew).trans hB).mono HBW.out.size)
          go_wp2_with fail
          go_region_held3 (fun W' => W'.cell? ⟨g2, k * 2, none⟩ = some (.bool true))
            (first | exact hS2c | exact hS1c | exact hc0D)
            (first
              | (go_at_call 14; refine cSc.mono ?_; rintro e V2 ⟨rfl, hB2⟩; have hB3 := below_step hB1 hB2; have hS2c := hCq _ hB3)
              | (go_at_call 13; refine cMa.mono ?_; rintro e V1 ⟨rfl, hB1⟩; have hS1c := hCq _ hB1; have cSc := cSq _ hB1))
          all_goals
            have HB3 := Lib.hid (hVW _ hB3)
            clear cSc hB1 hB2 hB3 hS1c hS2c hCq cSq hVW
            go_wp2_with fail
            go_roundw
            case rel => exact ⟨k + 1, by omega, by go_num, HB3.out⟩
            case measure => simp [intOf]; omega
        | false =>
          have cSq : ∀ V1, Below _ _ V1 → Calls Tryz.prog 14 #[.pointer (some ⟨tm, 0, none⟩), .int .i64 (x.r : Int)] V1 fun e w' => e = .returned (.bool false) ∧ Below V1.heap.size V1 w' := fun V1 hB => by
            have := (HD.out.ask hB).st.gm.at_.scanned (x.r : Int)
            rw [HAT.out.2, HS8.out.2.1] at this
            exact this
          have hCq : ∀ V1, Below _ _ V1 → V1.cell? ⟨g2, k * 2, none⟩ = some (.bool false) := fun V1 hB => (brow_cell (HD.out.ask hB).row HAT.out.1).1
          have hVW : ∀ V1, Below _ _ V1 → Below w8.heap.size w8 V1 := fun V1 hB => HBW.out.trans ((((Below.refl _ wr).drew).trans hB).mono HBW.out.size)
          go_wp2_with fail
          go_region_held3 (fun W' => W'.cell? ⟨g2, k * 2, none⟩ = some (.bool false))
            (first | exact hS2c | exact hS1c | exact hc0D)
            (first
              | (go_at_call 14; refine cSc.mono ?_; rintro e V2 ⟨rfl, hB2⟩; have hB3 := below_step hB1 hB2; have hS2c := hCq _ hB3)
              | (go_at_call 13; refine cMa.mono ?_; rintro e V1 ⟨rfl, hB1⟩; have hS1c := hCq _ hB1; have cSc := cSq _ hB1))
          all_goals
            have HB3 := Lib.hid (hVW _ hB3)
            clear cSc hB1 hB2 hB3 hS1c hS2c hCq cSq hVW
            go_wp2_with fail
            go_roundw
            case rel => exact ⟨k + 1, by omega, by go_num, HB3.out⟩
            case measure => simp [intOf]; omega
      | false =>
        have hone := oneAt_no hin
        rw [hone] at hlk
        clear hone hin
        go_wp2_with fail
        refine cPg.mono ?_
        rintro e V0 ⟨rfl, rfl⟩
        clear cPg
        cases ba with
        | true =>
          have cSq : ∀ V1, Below _ _ V1 → Calls Tryz.prog 14 #[.pointer (some ⟨tm, 0, none⟩), .int .i64 (x.r : Int)] V1 fun e w' => e = .returned (.bool true) ∧ Below V1.heap.size V1 w' := fun V1 hB => by
            have := (HD.out.ask hB).st.gm.at_.scanned (x.r : Int)
            rw [HAT.out.2, HS8.out.2.1] at this
            exact this
          have hCq : ∀ V1, Below _ _ V1 → V1.cell? ⟨g2, k * 2, none⟩ = some (.bool true) := fun V1 hB => (brow_cell (HD.out.ask hB).row HAT.out.1).1
          have hVW : ∀ V1, Below _ _ V1 → Below w8.heap.size w8 V1 := fun V1 hB => HBW.out.trans ((((Below.refl _ wr).drew).trans hB).mono HBW.out.size)
          go_wp2_with fail
          go_region_held3 (fun W' => W'.cell? ⟨g2, k * 2, none⟩ = some (.bool true))
            (first | exact hS2c | exact hS1c | exact hc0D)
            (first
              | (go_at_call 14; refine cSc.mono ?_; rintro e V2 ⟨rfl, hB2⟩; have hB3 := below_step hB1 hB2; have hS2c := hCq _ hB3)
              | (go_at_call 13; refine cMa.mono ?_; rintro e V1 ⟨rfl, hB1⟩; have hS1c := hCq _ hB1; have cSc := cSq _ hB1))
          all_goals
            have HB3 := Lib.hid (hVW _ hB3)
            clear cSc hB1 hB2 hB3 hS1c hS2c hCq cSq hVW
            go_wp2_with fail
            go_roundw
            case rel => exact ⟨k + 1, by omega, by go_num, HB3.out⟩
            case measure => simp [intOf]; omega
        | false =>
          have cSq : ∀ V1, Below _ _ V1 → Calls Tryz.prog 14 #[.pointer (some ⟨tm, 0, none⟩), .int .i64 (x.r : Int)] V1 fun e w' => e = .returned (.bool true) ∧ Below V1.heap.size V1 w' := fun V1 hB => by
            have := (HD.out.ask hB).st.gm.at_.scanned (x.r : Int)
            rw [HAT.out.2, HS8.out.2.1] at this
            exact this
          have hCq : ∀ V1, Below _ _ V1 → V1.cell? ⟨g2, k * 2, none⟩ = some (.bool false) := fun V1 hB => (brow_cell (HD.out.ask hB).row HAT.out.1).1
          have hVW : ∀ V1, Below _ _ V1 → Below w8.heap.size w8 V1 := fun V1 hB => HBW.out.trans ((((Below.refl _ wr).drew).trans hB).mono HBW.out.size)
          go_wp2_with fail
          go_region_held3 (fun W' => W'.cell? ⟨g2, k * 2, none⟩ = some (.bool false))
            (first | exact hS2c | exact hS1c | exact hc0D)
            (first
              | (go_at_call 14; refine cSc.mono ?_; rintro e V2 ⟨rfl, hB2⟩; have hB3 := below_step hB1 hB2; have hS2c := hCq _ hB3)
              | (go_at_call 13; refine cMa.mono ?_; rintro e V1 ⟨rfl, hB1⟩; have hS1c := hCq _ hB1; have cSc := cSq _ hB1))
          all_goals
            have HB3 := Lib.hid (hVW _ hB3)
            clear cSc hB1 hB2 hB3 hS1c hS2c hCq cSq hVW
            go_wp2_with fail
            go_roundw
            case rel => exact ⟨k + 1, by omega, by go_num, HB3.out⟩
            case measure => simp [intOf]; omega
    | false =>
      clear hlk hin cPg
      cases ba with
      | true =>
        have cSq : ∀ V1, Below _ _ V1 → Calls Tryz.prog 14 #[.pointer (some ⟨tm, 0, none⟩), .int .i64 (x.r : Int)] V1 fun e w' => e = .returned (.bool false) ∧ Below V1.heap.size V1 w' := fun V1 hB => by
          have := (HD.out.ask hB).st.gm.at_.scanned (x.r : Int)
          rw [HAT.out.2, HS8.out.2.1] at this
          exact this
        have hCq : ∀ V1, Below _ _ V1 → V1.cell? ⟨g2, k * 2, none⟩ = some (.bool true) := fun V1 hB => (brow_cell (HD.out.ask hB).row HAT.out.1).1
        have hVW : ∀ V1, Below _ _ V1 → Below w8.heap.size w8 V1 := fun V1 hB => HBW.out.trans ((((Below.refl _ wr).drew).trans hB).mono HBW.out.size)
        go_wp2_with fail
        go_region_held3 (fun W' => W'.cell? ⟨g2, k * 2, none⟩ = some (.bool true))
          (first | exact hS2c | exact hS1c | exact hc0D)
          (first
            | (go_at_call 14; refine cSc.mono ?_; rintro e V2 ⟨rfl, hB2⟩; have hB3 := below_step hB1 hB2; have hS2c := hCq _ hB3)
            | (go_at_call 13; refine cMa.mono ?_; rintro e V1 ⟨rfl, hB1⟩; have hS1c := hCq _ hB1; have cSc := cSq _ hB1))
        all_goals
          have HB3 := Lib.hid (hVW _ hB3)
          clear cSc hB1 hB2 hB3 hS1c hS2c hCq cSq hVW
          go_wp2_with fail
          go_roundw
          case rel => exact ⟨k + 1, by omega, by go_num, HB3.out⟩
          case measure => simp [intOf]; omega
      | false =>
        have cSq : ∀ V1, Below _ _ V1 → Calls Tryz.prog 14 #[.pointer (some ⟨tm, 0, none⟩), .int .i64 (x.r : Int)] V1 fun e w' => e = .returned (.bool false) ∧ Below V1.heap.size V1 w' := fun V1 hB => by
          have := (HD.out.ask hB).st.gm.at_.scanned (x.r : Int)
          rw [HAT.out.2, HS8.out.2.1] at this
          exact this
        have hCq : ∀ V1, Below _ _ V1 → V1.cell? ⟨g2, k * 2, none⟩ = some (.bool false) := fun V1 hB => (brow_cell (HD.out.ask hB).row HAT.out.1).1
        have hVW : ∀ V1, Below _ _ V1 → Below w8.heap.size w8 V1 := fun V1 hB => HBW.out.trans ((((Below.refl _ wr).drew).trans hB).mono HBW.out.size)
        go_wp2_with fail
        go_region_held3 (fun W' => W'.cell? ⟨g2, k * 2, none⟩ = some (.bool false))
          (first | exact hS2c | exact hS1c | exact hc0D)
          (first
            | (go_at_call 14; refine cSc.mono ?_; rintro e V2 ⟨rfl, hB2⟩; have hB3 := below_step hB1 hB2; have hS2c := hCq _ hB3)
            | (go_at_call 13; refine cMa.mono ?_; rintro e V1 ⟨rfl, hB1⟩; have hS1c := hCq _ hB1; have cSc := cSq _ hB1))
        all_goals
          have HB3 := Lib.hid (hVW _ hB3)
          clear cSc hB1 hB2 hB3 hS1c hS2c hCq cSq hVW
          go_wp2_with fail
          go_roundw
          case rel => exact ⟨k + 1, by omega, by go_num, HB3.out⟩
          case measure => simp [intOf]; omega
  have hk1 : ¬ (k : Int) < (L : Int) := by omega
  obtain rfl : L = k := by omega
  have cD := hW.st.dirty 0 card_none0
  rw [HS8.out.2.2] at cD
  have HW := Lib.hid hW
  clear hW hBW
  go_wp2_with fail
  refine cD.mono ?_
  rintro e V1 ⟨rfl, hB1⟩
  have hW1 := HW.out.ask hB1
  have hl8 := hW1.st.gm.go.row.lenRun 3
  rw [refsI_length, HO.out.2] at hl8
  have HW1 := Lib.hid hW1
  clear cD hB1 hW1
  by_cases hLz : L = 0
  · have hzb : ¬ (0 : Int) < (L : Int) := by omega
    have cD := HW1.out.st.dirty 0 card_none0
    rw [HS8.out.2.2] at cD
    clear hLz
    go_wp2_with fail
    refine cD.mono ?_
    rintro e V2 ⟨rfl, hB2⟩
    have HB := Lib.hid (HW2.out.trans ((HW1.out.ask hB2).st.gm.below.mono HW2.out.size))
    clear cD hB2
    go_wp2_with fail
    go_ret
    exact ⟨rfl, HB.out⟩
  have hzb : (0 : Int) < (L : Int) := by omega
  have hip : 0 < L := by omega
  obtain ⟨y, hy⟩ : ∃ y, obs[0]? = some y := ⟨_, List.getElem?_eq_getElem (by have := HO.out.2; omega)⟩
  rcases HW1.out.st.gm.go.row.is with ⟨_, e⟩ | ⟨g, cap, cur, hv, hg, hlc, hcm, hcs, hcell⟩
  · have := congrArg List.length e; rw [refsI_length, HO.out.2] at this; simp at this; omega
  rw [refsI_length, HO.out.2] at hv
  have hca := hcell 0 (by rw [refsI_length, HO.out.2]; exact hip)
  rw [(List.getElem?_eq_some_iff.1 (refsI_at hy)).2] at hca
  have cP := HW1.out.st.post (y.r : Int) 0 0 false false
  rw [HS8.out.2.2] at cP
  subst hv
  clear hy hg hlc hcm hcs hcell hLz
  go_wp2_with fail
  refine cP.mono ?_
  rintro e V2 ⟨rfl, Z9, hz9, h9, _⟩
  have cX := h9.reset
  rw [hz9] at cX
  clear cP hca hl8
  go_wp2_with fail
  refine cX.mono ?_
  rintro e V3 ⟨rfl, h10, _⟩
  have cD := h10.dirty 0 card_none0
  rw [hz9] at cD
  have H10 := Lib.hid h10
  clear cX h9 h10
  go_wp2_with fail
  refine cD.mono ?_
  rintro e V4 ⟨rfl, hB4⟩
  have HB := Lib.hid (HW2.out.trans ((H10.out.ask hB4).gm.below.mono HW2.out.size))
  clear cD hB4
  go_wp2_with fail
  go_ret
  exact ⟨rfl, HB.out⟩
/-- As the frame asks it. -/
theorem sruns_frame (a0 : Option Addr) (zs : List Int) (cf : Nat) (e0 : Option Addr) (ne ce : Nat) (Q : Nat → Nat → Int) (a1 : Option Addr) (us : List Int) (cu : Nat) (a2 : Option Addr) (vs : List Int) (cv : Nat) (w : World) (hl : us.length ≤ 9223372036854775807) (_ : vs.length ≤ 9223372036854775807)
    (hF : BytesW w a0 zs) (hE : EdgesW w e0 ne Q) (hU : BytesW w a1 us) (hV : BytesW w a2 vs) (hTb : TabAt w) (hT : TableAt w) :
    Calls Tryz.prog 3 #[.agg #[.slice a0 zs.length cf, .slice e0 ne ce], .slice a1 us.length cu, .slice a2 vs.length cv] w fun e w' => e = .returned (.bool true) ∧ Below w.heap.size w w' :=
  sruns_true a0 zs cf e0 ne ce Q a1 us cu a2 vs cv w hl hF hE hU hV ⟨hT, hTb⟩
end Go.Proofs.YtgfofilknejmnaaGreatDoor
