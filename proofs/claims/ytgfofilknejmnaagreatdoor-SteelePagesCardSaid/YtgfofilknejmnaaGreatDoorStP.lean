/- SteelePages, walked, over the barrier's contracts; at this seat's numbers. -/
import Derived.Test.YtgfofilknejmnaaGreatDoorStF
namespace Go.Proofs.YtgfofilknejmnaaGreatDoor
open Go Go.RowKit Go.Shelf Go.MuLone Go.RwLone
set_option linter.unusedSimpArgs false
set_option linter.unusedVariables false
attribute [local go_sem] Oper.semAt_some

def SpA (B mb n tm : Nat) (X : ArB) (s : ArS) (obs : List Ob) (vl : Value) (f : Int → Value) (wb : World) (v43 : Value) (wr : World) : Prop :=
  ∃ (i : Nat) (T : MkB) (c : Col), i ≤ obs.length ∧ v43 = .int .i64 (i : Int) ∧ T.m = tm ∧ GmIn B mb n X s obs vl f (ptsAt obs) (fun _ => False) T c wb wr ∧ Bl ((refsI obs).take i) c
set_option maxRecDepth 100000 in
set_option maxHeartbeats 16000000 in
theorem spages_true (a0 : Option Addr) (zs : List Int) (cf : Nat) (a8 : Nat) (h8 : a8 < 256) (w : World) (hF : BytesW w a0 zs) (hT : Tabs w) :
    Calls Tryz.prog 4 #[.slice a0 zs.length cf, .int .u8 (a8 : Int)] w fun e w' => e = .returned (.bool true) ∧ Below w.heap.size w w' := by
  have HA := Lib.hid hF
  clear hF
  go_enter Tryz.func4, Tryz.ntmps4
  go_wp2_with fail
  refine (stfit_true w hT).mono ?_
  rintro e w1 ⟨rfl, hB1⟩
  have hT1 := hT.below hB1
  obtain ⟨L, hL⟩ : ∃ L, L = zs.length := ⟨_, rfl⟩
  rw [← hL]
  have HL := Lib.hid hL
  clear hL hT
  by_cases hz : L = 0
  · have hzb : ((L : Int) == 0) = true := by simp; omega
    clear hz
    go_wp2_with fail
    go_ret
    exact ⟨rfl, hB1⟩
  have hzb : ((L : Int) == 0) = false := by simp; omega
  by_cases h30 : L ≤ 30
  case neg =>
    have h30I : 30 < (L : Int) := by omega
    clear hz
    go_wp2_with fail
    go_ret
    exact ⟨rfl, hB1⟩
  have h30I : ¬ 30 < (L : Int) := by omega
  have hFw := HA.out.under hB1 (Nat.le_refl _)
  have cM := made_any a0 zs cf none 0 0 (fun _ _ => 0) w1 (by have := HL.out; omega) (by omega) hFw (fun k hk => absurd hk (Nat.not_lt_zero _)) hT1.c
  rw [← HL.out] at cM
  have HT := Lib.hid hT1.b
  have hz0 : 0 < L := by omega
  clear hFw hT1 hz
  go_wp2_with fail
  refine cM.mono ?_
  rintro e w2 hMP
  obtain ⟨X, s, obs, vl, mb, n, f, rfl, hMO⟩ := hMP.ok HT.out
  have hol : obs.length = L := by rw [hMO.len, HL.out]
  have hl6 := hMO.go.row.lenRun 3
  rw [refsI_length, hol] at hl6
  have hLL : ((L : Int) != (L : Int)) = false := by simp
  have cN := gm_new (E := fun _ => False) hMO.go hMO.P 64 (fun _ h => h.elim) (by omega) hMO.tab hMO.tab.lt
  have HO := Lib.hid (And.intro hMO (And.intro hol hB1))
  clear hMO hMP cM hol hB1
  go_wp2_with fail
  refine cN.mono ?_
  rintro e w3 ⟨T, rfl, hGm, hB3⟩
  obtain ⟨tm, htm⟩ : ∃ tm, T.m = tm := ⟨_, rfl⟩
  rw [htm]
  have h0 : SpA w1.heap.size mb n tm X s obs vl f w1 (.int .i64 0) w3 := ⟨0, T, Col.white, Nat.zero_le _, rfl, htm, hGm, bl_white⟩
  clear hGm hB3 cN htm
  go_wp2_with fail
  clear hl6
  go_loopw [43] (fun v43 wr => SpA w1.heap.size mb n tm X s obs vl f w1 v43 wr) (fun v43 _ => L - (intOf v43).toNat)
  case atStart => exact h0
  case round =>
  clear h0
  obtain ⟨i, T, c, hi, rfl, htm, hGm, hbl⟩ := hrel
  have hi0 : (0 : Int) ≤ (i : Int) := by omega
  have hiL : i ≤ L := by have := HO.out.2.1; omega
  by_cases hlt : i < L
  · have hi1 : (i : Int) < (L : Int) := by omega
    obtain ⟨x, hx⟩ : ∃ x, obs[i]? = some x := ⟨_, List.getElem?_eq_getElem (by have := HO.out.2.1; omega)⟩
    rcases hGm.go.row.is with ⟨_, e⟩ | ⟨g, cap, cur, hv, hg, hlc, hcm, hcs, hcell⟩
    · have := congrArg List.length e; rw [refsI_length, HO.out.2.1] at this; simp at this; omega
    rw [refsI_length, HO.out.2.1] at hv
    have hca := hcell i (by rw [refsI_length, HO.out.2.1]; exact hlt)
    rw [(List.getElem?_eq_some_iff.1 (refsI_at hx)).2] at hca
    have hxR : (x.r : Int) ∈ refsI obs := List.mem_map.2 ⟨x, List.mem_of_getElem? hx, rfl⟩
    have hxb := HO.out.1.bd _ hxR
    have cB := hGm.blacken (x.r : Int) hxR hxb.1 hxb.2
    rw [htm] at cB
    have hbl2 : Bl ((refsI obs).take (i + 1)) (c.black (x.r : Int)) := (hbl.cons (x.r : Int)).ext fun y => by rw [take_nextR (refsI_at hx)]; simp [or_comm]
    have HB := Lib.hid hbl2
    subst hv
    clear hx hg hlc hcm hcs hcell hxR hxb hbl hbl2 hGm
    go_wp2_with fail
    refine cB.mono ?_
    rintro e w4 ⟨rfl, T', hm', hG', _⟩
    have HG := Lib.hid (And.intro hm' hG')
    clear cB hm' hG' hca
    go_wp2_with fail
    go_roundw
    case rel => exact ⟨i + 1, T', _, by have := HO.out.2.1; omega, by go_num, HG.out.1, HG.out.2, HB.out⟩
    case measure => simp [intOf]; omega
  · have hi1 : ¬ (i : Int) < (L : Int) := by omega
    obtain rfl : L = i := by omega
    have hbl2 : Bl (refsI obs) c := by
      have e : (refsI obs).take L = refsI obs := by rw [← HO.out.2.1, ← refsI_length, List.take_length]
      rw [e] at hbl; exact hbl
    have cS := st_new hGm
    rw [htm] at cS
    have HM := Lib.hid (And.intro htm hbl2)
    clear hbl hbl2 htm
    go_wp2_with fail
    refine cS.mono ?_
    rintro e w4 ⟨Z, rfl, hZ, hB4⟩
    obtain ⟨zt, hzt⟩ : ∃ zt, Z.t = zt := ⟨_, rfl⟩
    rw [hzt]
    have hip : 0 < L := hz0
    obtain ⟨ia, hia⟩ : ∃ ia, ia = a8 % L := ⟨_, rfl⟩
    have hta : (a8 : Int).tmod (L : Int) = (ia : Int) := by rw [Int.tmod_eq_emod_of_nonneg (by omega), hia]; omega
    have hla : ia < L := by rw [hia]; exact Nat.mod_lt _ hip
    have hin : ¬ (L : Int) = 0 := by omega
    have hlaI : (ia : Int) < (L : Int) := by omega
    have hla0 : (0 : Int) ≤ (ia : Int) := by omega
    have hwa : IntKind.i64.wrap (a8 : Int) = (a8 : Int) := by simp [IntKind.wrap, IntKind.bits, IntKind.signed]; omega
    obtain ⟨y, hy⟩ : ∃ y, obs[ia]? = some y := ⟨_, List.getElem?_eq_getElem (by have := HO.out.2.1; omega)⟩
    rcases hZ.gm.go.row.is with ⟨_, e⟩ | ⟨g, cap, cur, hv, hg, hlc, hcm, hcs, hcell⟩
    · have := congrArg List.length e; rw [refsI_length, HO.out.2.1] at this; simp at this; omega
    rw [refsI_length, HO.out.2.1] at hv
    have hca := hcell ia (by rw [refsI_length, HO.out.2.1]; exact hla)
    rw [(List.getElem?_eq_some_iff.1 (refsI_at hy)).2] at hca
    have hl6 := hZ.gm.go.row.lenRun 3
    rw [refsI_length, HO.out.2.1] at hl6
    have hyR : (y.r : Int) ∈ refsI obs := List.mem_map.2 ⟨y, List.mem_of_getElem? hy, rfl⟩
    have hyb := HO.out.1.bd _ hyR
    have cP := hZ.post (y.r : Int) 0 0 true false
    rw [hzt] at cP
    have HZ := Lib.hid hZ
    have HY := Lib.hid (And.intro hyb hzt)
    subst hv
    clear hia hy hg hlc hcm hcs hcell hyR hyb hZ hzt cS hB4 hGm
    go_wp2_with fail
    refine cP.mono ?_
    rintro e w5 ⟨rfl, Z5, hz5, h5, _⟩
    have hz5' : Z5.t = zt := hz5
    have cR := h5.remark
    rw [hz5'] at cR
    clear cP hta hla hin hlaI hla0 hwa hca
    go_wp2_with fail
    refine cR.mono ?_
    rintro e w6 ⟨rfl, T6, Z6, hm6, hz6, h6, _⟩
    have cR2 := h6.remark
    rw [hz6] at cR2
    clear cR
    go_wp2_with fail
    refine cR2.mono ?_
    rintro e w7 ⟨rfl, T7, Z7, hm7, hz7, h7, _⟩
    rw [Col.rem_none] at h7
    have htm7 : T7.m = tm := (hm7.trans hm6).trans HM.out.1
    have H7 := Lib.hid (And.intro h7 htm7)
    clear cR2 hz5 hz5' hm6 hz6 hm7 hz7 h5 h6 h7 htm7
    obtain ⟨R, hR⟩ : ∃ R, refsI obs = R := ⟨_, rfl⟩
    have hRL : R.length = L := by rw [← hR, refsI_length, HO.out.2.1]
    obtain ⟨c7, hc7⟩ : ∃ c7, c7 = c.rem (dirtyS s.P (fun _ => false) (y.r : Int)) := ⟨_, rfl⟩
    have hsc : ∀ x ∈ obs, c7.ma (x.r : Int) = true ∧ c7.sc (x.r : Int) = !decide (((pg x.r : Nat) : Int) = ((pg y.r : Nat) : Int)) := fun x hx => by
      have hxR : (x.r : Int) ∈ refsI obs := List.mem_map.2 ⟨x, hx, rfl⟩
      have hxb := HO.out.1.bd _ hxR
      have hyb := HY.out.1
      refine ⟨by rw [hc7]; exact (HM.out.2.ma _).2 hxR, ?_⟩
      rw [hc7]
      show (c.sc (x.r : Int) && !remD _ (x.r : Int)) = _
      rw [(HM.out.2.sc _).2 hxR, Bool.true_and]
      congr 1
      unfold remD dirtyS
      have hP := HO.out.1.P
      rw [if_pos (by omega), decide_eq_true hxb.1, Bool.true_and, Bool.false_or]
      rw [Int.toNat_natCast, Int.toNat_natCast]
      unfold pg
      rcases Nat.decEq ((x.r - 1) / 32) ((y.r - 1) / 32) with e | e
      · rw [decide_eq_false e, decide_eq_false (by omega)]
      · rw [decide_eq_true e, decide_eq_true (by omega)]
    rw [← hc7] at H7
    have HR := Lib.hid (And.intro hR (And.intro hRL hsc))
    clear hR hRL hsc hc7
    go_wp2_with fail
    clear hl6
    go_loopw [13, 71] (fun v13 v71 W => ∃ k : Nat, k ≤ L ∧ v71 = .int .i64 (k : Int) ∧ v13 = .int .i64 (cntF (fun z => !c7.sc z) R k : Int) ∧ Below w7.heap.size w7 W) (fun _ v71 _ => L - (intOf v71).toNat)
    case atStart => exact ⟨0, Nat.zero_le _, rfl, by simp [cntF], Below.refl _ _⟩
    case round =>
    obtain ⟨k, hk, rfl, rfl, hBW⟩ := hrel
    have hW := H7.out.1.ask hBW
    have hk0 : (0 : Int) ≤ (k : Int) := by omega
    have hcl := cntF_le (fun z => !c7.sc z) R k
    have hc0 : (0 : Int) ≤ (cntF (fun z => !c7.sc z) R k : Int) := by omega
    have hc40 : (cntF (fun z => !c7.sc z) R k : Int) ≤ 40 := by omega
    by_cases hlt2 : k < L
    · have hk1 : (k : Int) < (L : Int) := by omega
      obtain ⟨x, hx⟩ : ∃ x, obs[k]? = some x := ⟨_, List.getElem?_eq_getElem (by have := HO.out.2.1; omega)⟩
      rcases hW.gm.go.row.is with ⟨_, e⟩ | ⟨g2, cap2, cur2, hv2, hg2, hlc2, hcm2, hcs2, hcell2⟩
      · have := congrArg List.length e; rw [refsI_length, HO.out.2.1] at this; simp at this; omega
      have hca2 := hcell2 k (by rw [refsI_length, HO.out.2.1]; exact hlt2)
      rw [(List.getElem?_eq_some_iff.1 (refsI_at hx)).2] at hca2
      obtain ⟨hg3, _⟩ : g = g2 ∧ True := by cases hv2; exact ⟨rfl, trivial⟩
      subst hg3
      have hxm : x ∈ obs := List.mem_of_getElem? hx
      have hxR : (x.r : Int) ∈ refsI obs := List.mem_map.2 ⟨x, hxm, rfl⟩
      have hxb := HO.out.1.bd _ hxR
      have hyb := HY.out.1
      have hP := HO.out.1.P
      have cPx := page_yes hW.gm.go.ar.at_.toArMem x.r (by omega) (by omega)
      have cPy := page_yes hW.gm.go.ar.at_.toArMem y.r (by omega) (by omega)
      have hcs2' := HR.out.2.2 x hxm
      have cSc := hW.gm.at_.scanned (x.r : Int)
      have hRx : R[k]? = some (x.r : Int) := by rw [← HR.out.1]; exact refsI_at hx
      rw [H7.out.2, hcs2'.2] at cSc
      have hyes := cntF_yes (p := fun z => !c7.sc z) hRx
      have hno := cntF_no (p := fun z => !c7.sc z) hRx
      rw [hcs2'.2, Bool.not_not] at hyes hno
      generalize ((pg x.r : Nat) : Int) = px at *
      generalize hpy : ((pg y.r : Nat) : Int) = py at *
      have HW := Lib.hid hW
      have HBW := Lib.hid hBW
      have HMA := Lib.hid hcs2'.1
      clear hx hg2 hlc2 hcm2 hcs2 hcell2 hv2 hxm hxR hxb hyb hP hW hcs2' hRx hpy hBW
      generalize hcc : cntF (fun z => !c7.sc z) R k = cc at *
      by_cases he : px = py
      · subst he
        have hpe : (px == px) = true := by simp
        have HN := Lib.hid (hyes (by simp))
        simp only [decide_true, Bool.not_true] at cSc
        clear hyes hno hcc
        go_wp2_with fail
        refine cPx.mono ?_
        rintro e w' ⟨rfl, rfl⟩
        go_wp2_with fail
        refine cPy.mono ?_
        rintro e w' ⟨rfl, rfl⟩
        clear cPx cPy
        go_wp2_with fail
        refine cSc.mono ?_
        rintro e V1 ⟨rfl, hB1⟩
        have hW1 := HW.out.ask hB1
        have cMa := hW1.gm.at_.marked (x.r : Int)
        rw [H7.out.2, HMA.out] at cMa
        have HB1 := Lib.hid hB1
        clear cSc hB1 hW1 hca2
        go_wp2_with fail
        refine cMa.mono ?_
        rintro e V2 ⟨rfl, hB2⟩
        have HB2 := Lib.hid (HBW.out.trans ((below_step HB1.out hB2).mono HBW.out.size))
        clear cMa hB2
        go_wp2_with fail
        go_roundw
        case rel => exact ⟨k + 1, by omega, by go_num, by rw [HN.out] <;> go_num, HB2.out⟩
        case measure => simp [intOf]; omega
      · have hpe : (px == py) = false := by simp [he]
        have HN := Lib.hid (hno (by simp [he]))
        rw [decide_eq_false he] at cSc
        simp only [Bool.not_false] at cSc
        clear hyes hno hcc
        go_wp2_with fail
        refine cPx.mono ?_
        rintro e w' ⟨rfl, rfl⟩
        go_wp2_with fail
        refine cPy.mono ?_
        rintro e w' ⟨rfl, rfl⟩
        clear cPx cPy
        go_wp2_with fail
        refine cSc.mono ?_
        rintro e V1 ⟨rfl, hB1⟩
        have hW1 := HW.out.ask hB1
        have cMa := hW1.gm.at_.marked (x.r : Int)
        rw [H7.out.2, HMA.out] at cMa
        have HB1 := Lib.hid hB1
        clear cSc hB1 hW1 hca2
        go_wp2_with fail
        refine cMa.mono ?_
        rintro e V2 ⟨rfl, hB2⟩
        have HB2 := Lib.hid (HBW.out.trans ((below_step HB1.out hB2).mono HBW.out.size))
        clear cMa hB2
        go_wp2_with fail
        go_roundw
        case rel => exact ⟨k + 1, by omega, by go_num, by rw [HN.out] <;> go_num, HB2.out⟩
        case measure => simp [intOf]; omega
    · have hk1 : ¬ (k : Int) < (L : Int) := by omega
      obtain rfl : L = k := by omega
      have cT := hW.gm.trace HO.out.1.cl 100
      rw [H7.out.2] at cT
      have hall : ∀ z ∈ R, c7.ma z = true := fun z hz => by
        rw [← HR.out.1] at hz
        obtain ⟨x, hx, rfl⟩ := List.mem_map.1 hz
        exact (HR.out.2.2 x hx).1
      have hca := cntF_all (fun z => !c7.sc z) R
      rw [HR.out.2.1] at hca
      have HW := Lib.hid (And.intro hW (And.intro hall (And.intro hca hBW)))
      clear hW hall hca hBW
      go_wp2_with fail
      refine cT.mono ?_
      rintro e V1 ⟨kk, T8, c8, l8, rfl, hlk, hm8, hG8, _, hsc8, hkm, hkd⟩
      have hln := hsc8.len hG8.inn
      rw [hlk, HO.out.2.1] at hln
      have hdry := hkd (by omega)
      have hcount : kk = cntF (fun z => !c7.sc z) R L := by
        rw [← hlk, HW.out.2.2.1]
        exact hsc8.greys hdry (HR.out.1 ▸ HO.out.1.nd) HW.out.2.1 (fun z hz => by rw [← HR.out.1]; exact hG8.inn z hz)
      have cD := hG8.at_.drained true ⟨fun _ => hdry, fun _ => rfl⟩
      have hm9 : T8.m = tm := hm8
      rw [hm9] at cD
      rw [hcount]
      have HG := Lib.hid hG8
      generalize cntF (fun z => !c7.sc z) R L = cc at *
      have hcc : ((cc : Int) == (cc : Int)) = true := by simp
      clear cT hlk hm8 hsc8 hkm hkd hln hdry hcount hG8 hm9
      go_wp2_with fail
      refine cD.mono ?_
      rintro e V2 ⟨rfl, hB2⟩
      clear cD
      go_wp2_with fail
      go_ret
      exact ⟨rfl, HO.out.2.2.trans ((HG.out.ask hB2).below.mono HO.out.2.2.size)⟩
/-- As the frame asks it. -/
theorem spages_frame (a0 : Option Addr) (zs : List Int) (cf : Nat) (nv : Int) (hn : (Lit.int .u8 nv).wf = true) (w : World) (hl : zs.length ≤ 9223372036854775807) (hF : BytesW w a0 zs) (hTb : TabAt w) (hT : TableAt w) :
    Calls Tryz.prog 4 #[.slice a0 zs.length cf, .int .u8 nv] w fun e w' => e = .returned (.bool true) ∧ Below w.heap.size w w' := by
  obtain ⟨m, rfl, hm⟩ := u8_natW hn
  exact spages_true a0 zs cf m hm w hF ⟨hT, hTb⟩
end Go.Proofs.YtgfofilknejmnaaGreatDoor
