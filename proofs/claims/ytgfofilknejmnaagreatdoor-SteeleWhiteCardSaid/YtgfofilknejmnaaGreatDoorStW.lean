/- SteeleWhite, walked, over the barrier's contracts; at this seat's numbers. -/
import Derived.Test.YtgfofilknejmnaaGreatDoorStF
namespace Go.Proofs.YtgfofilknejmnaaGreatDoor
open Go Go.RowKit Go.Shelf Go.MuLone Go.RwLone
set_option linter.unusedSimpArgs false
set_option linter.unusedVariables false
attribute [local go_sem] Oper.semAt_some

/-- Is the object of that number to be shaded? -/
def gbW (us : List Int) (j : Nat) : Bool := decide (j < us.length) && (bits .and .u8 (us.getD j 0) 1 == 1)
/-- Just those of the first are grey, and none is black. -/
structure Wh (us R : List Int) (i : Nat) (c : Col) : Prop where
  ma : ∀ (j : Nat) (x : Int), R[j]? = some x → c.ma x = (decide (j < i) && gbW us j)
  sc : ∀ x, c.sc x = false
def cntW (us : List Int) (i : Nat) : Nat := (List.range i).countP (gbW us)
theorem cntW_yes {us : List Int} {i : Nat} (h : gbW us i = true) : cntW us (i + 1) = cntW us i + 1 := by
  unfold cntW; rw [List.range_succ, List.countP_append]; simp [h]
theorem cntW_no {us : List Int} {i : Nat} (h : gbW us i = false) : cntW us (i + 1) = cntW us i := by
  unfold cntW; rw [List.range_succ, List.countP_append]; simp [h]
theorem cntW_le (us : List Int) (i : Nat) : cntW us i ≤ i := by
  unfold cntW
  have := List.countP_le_length (p := gbW us) (l := List.range i)
  rwa [List.length_range] at this
theorem wh_white (us R : List Int) : Wh us R 0 Col.white := ⟨fun j x _ => by show false = _; simp, fun x => rfl⟩
theorem Wh.no {us R : List Int} {i : Nat} {c : Col} (h : Wh us R i c) (hg : gbW us i = false) : Wh us R (i + 1) c := ⟨fun j x hx => by
  rw [h.ma j x hx]
  by_cases e : j = i
  · rw [e, hg]; simp
  · rcases Nat.decEq j i with _ | e2
    · by_cases e3 : j < i
      · rw [decide_eq_true e3, decide_eq_true (by omega)]
      · rw [decide_eq_false e3, decide_eq_false (by omega)]
    · exact absurd e2 e, h.sc⟩
theorem Wh.yes {us R : List Int} {i : Nat} {c : Col} {x : Int} (h : Wh us R i c) (hn : R.Nodup) (hx : R[i]? = some x) (hg : gbW us i = true) : Wh us R (i + 1) (c.shade x) := ⟨fun j y hy => by
  show updI c.ma x true y = _
  by_cases e : j = i
  · subst e
    rw [hx] at hy; cases hy
    rw [updI_at, hg]; simp
  · have hne : y ≠ x := fun e2 => by
      have h1 := (List.getElem?_eq_some_iff.1 hy)
      have h2 := (List.getElem?_eq_some_iff.1 hx)
      obtain ⟨l1, e1⟩ := h1
      obtain ⟨l2, e3⟩ := h2
      rcases Nat.lt_or_gt_of_ne e with h3 | h3
      · exact List.pairwise_iff_getElem.1 hn j i l1 l2 h3 (by rw [e1, e3, e2])
      · exact List.pairwise_iff_getElem.1 hn i j l2 l1 h3 (by rw [e1, e3, e2])
    rw [updI_ne hne, h.ma j y hy]
    by_cases e3 : j < i
    · rw [decide_eq_true e3, decide_eq_true (by omega)]
    · rw [decide_eq_false e3, decide_eq_false (by omega)], h.sc⟩
theorem Wh.count {us R : List Int} {c : Col} (h : Wh us R R.length c) : (R.filter c.ma).length = cntW us R.length := by
  rw [← List.countP_eq_length_filter]
  unfold cntW
  have e : R = (List.range R.length).map fun j => R.getD j 0 := by
    apply List.ext_getElem
    · simp
    · intro j h1 h2; simp [List.getElem?_eq_getElem h1]
  conv => lhs; rw [e]
  rw [List.countP_map]
  refine List.countP_congr fun j hj => ?_
  have hj2 := List.mem_range.1 hj
  have := h.ma j (R.getD j 0) (by rw [List.getD_eq_getElem?_getD, List.getElem?_eq_getElem hj2]; rfl)
  rw [decide_eq_true hj2, Bool.true_and] at this
  show c.ma (R.getD j 0) = true ↔ _
  rw [this]
theorem Col.rem_white {c : Col} (h : ∀ x, c.sc x = false) (D : Nat → Bool) : c.rem D = c := by
  unfold Col.rem
  have : (fun x => c.sc x && !remD D x) = c.sc := by funext x; rw [h x]; rfl
  rw [this]
/-- Where nothing points anywhere, a trace scans just what is grey. -/
theorem Scans.plain {P : Int → List Int} {c c' : Col} {l : List Int} (h : Scans P c l c') (hP : ∀ x, P x = []) : c'.ma = c.ma := by
  induction h with
  | nil c => rfl
  | cons h1 h2 _ ih =>
    rw [ih]
    funext y
    show (_ || decide (y ∈ P _)) = _
    rw [hP]; simp
theorem Scans.alone {P : Int → List Int} {c c' : Col} {l R : List Int} (h : Scans P c l c') (hP : ∀ x, P x = []) (hd : c'.dry) (hn : R.Nodup) (hs : ∀ x, c.sc x = false) (hin : ∀ x, c.ma x = true → x ∈ R) : l.length = (R.filter c.ma).length := by
  have hma := h.plain hP
  obtain ⟨h1, h2, h3⟩ := h.once
  refine same_length h1 (hn.filter _) fun x => ?_
  rw [List.mem_filter]
  constructor
  · intro hx
    have := (h2 x hx).2
    rw [hma] at this
    exact ⟨hin x this, this⟩
  · rintro ⟨_, hm⟩
    rcases (h.sc_iff x).1 (hd x (by rw [hma]; exact hm)) with e | e
    · rw [hs x] at e; cases e
    · exact e
theorem ptsAt_none {obs : List Ob} (h : ∀ x ∈ obs, ∀ j, x.F j = 0) (z : Int) : ptsAt obs z = [] := by
  unfold ptsAt
  cases hf : obs.find? (fun y => decide ((y.r : Int) = z)) with
  | none => rfl
  | some y =>
    have hy := List.mem_of_find?_eq_some hf
    show pts y = []
    unfold pts elems nz
    have : (List.range y.k).filter (fun j => !decide (y.F j = 0)) = [] := List.filter_eq_nil_iff.2 fun j _ => by rw [h y hy j]; simp
    rw [this]; rfl
theorem rem_run {a L ia : Nat} (hL0 : 0 < L) (hi : (a : Int).tmod (L : Int) = (ia : Int)) (T : TypeId) (W : World) : (binOp .rem T (.int .i64 (a : Int)) (.int .i64 (L : Int))).run Tryz.prog W = .ok (.int .i64 (ia : Int)) W := by
  have h0 : ¬ L = 0 := by omega
  simp [binOp, Op.intDiv, hi, h0]
def SwA (us : List Int) (B mb n tm : Nat) (X : ArB) (s : ArS) (obs : List Ob) (vl : Value) (f : Int → Value) (wb : World) (v11 v43 : Value) (wr : World) : Prop :=
  ∃ (i : Nat) (T : MkB) (c : Col), i ≤ obs.length ∧ v43 = .int .i64 (i : Int) ∧ v11 = .int .i64 (cntW us i : Int) ∧ T.m = tm ∧ GmIn B mb n X s obs vl f (ptsAt obs) (fun _ => False) T c wb wr ∧ Wh us (refsI obs) i c
set_option maxRecDepth 100000 in
set_option maxHeartbeats 16000000 in
theorem swhite_true (a0 : Option Addr) (zs : List Int) (cf : Nat) (a1 : Option Addr) (us : List Int) (cu : Nat) (a8 : Nat) (h8 : a8 < 256) (w : World) (hul : us.length ≤ 9223372036854775807) (hF : BytesW w a0 zs) (hU : BytesW w a1 us) (hT : Tabs w) :
    Calls Tryz.prog 5 #[.slice a0 zs.length cf, .slice a1 us.length cu, .int .u8 (a8 : Int)] w fun e w' => e = .returned (.bool true) ∧ Below w.heap.size w w' := by
  have HA := Lib.hid hF
  have HU := Lib.hid hU
  clear hF hU
  go_enter Tryz.func5, Tryz.ntmps5
  go_wp2_with fail
  refine (stfit_true w hT).mono ?_
  rintro e w1 ⟨rfl, hB1⟩
  have hT1 := hT.below hB1
  obtain ⟨L, hL⟩ : ∃ L, L = zs.length := ⟨_, rfl⟩
  rw [← hL]
  have HL := Lib.hid hL
  clear hL hT
  by_cases hz : L = 0
  · have hzb : ((L : Int) == 0) = true := by simp; omega
    clear hz
    go_wp2_with fail
    go_ret
    exact ⟨rfl, hB1⟩
  have hzb : ((L : Int) == 0) = false := by simp; omega
  by_cases h30 : L ≤ 30
  case neg =>
    have h30I : 30 < (L : Int) := by omega
    clear hz
    go_wp2_with fail
    go_ret
    exact ⟨rfl, hB1⟩
  have h30I : ¬ 30 < (L : Int) := by omega
  have hFw := HA.out.under hB1 (Nat.le_refl _)
  have cM := made_any a0 zs cf none 0 0 (fun _ _ => 0) w1 (by have := HL.out; omega) (by omega) hFw (fun k hk => absurd hk (Nat.not_lt_zero _)) hT1.c
  rw [← HL.out] at cM
  have HT := Lib.hid hT1.b
  have hz0 : 0 < L := by omega
  clear hFw hT1 hz
  go_wp2_with fail
  refine cM.mono ?_
  rintro e w2 hMP
  obtain ⟨X, s, obs, vl, mb, n, f, rfl, hMO⟩ := hMP.ok HT.out
  have hol : obs.length = L := by rw [hMO.len, HL.out]
  have hl6 := hMO.go.row.lenRun 3
  rw [refsI_length, hol] at hl6
  have hLL : ((L : Int) != (L : Int)) = false := by simp
  have cN := gm_new (E := fun _ => False) hMO.go hMO.P 64 (fun _ h => h.elim) (by omega) hMO.tab hMO.tab.lt
  have HO := Lib.hid (And.intro hMO (And.intro hol hB1))
  clear hMO hMP cM hol hB1
  go_wp2_with fail
  refine cN.mono ?_
  rintro e w3 ⟨T, rfl, hGm, hB3⟩
  obtain ⟨tm, htm⟩ : ∃ tm, T.m = tm := ⟨_, rfl⟩
  rw [htm]
  have h0 : SwA us w1.heap.size mb n tm X s obs vl f w1 (.int .i64 0) (.int .i64 0) w3 := ⟨0, T, Col.white, Nat.zero_le _, rfl, by simp [cntW], htm, hGm, wh_white _ _⟩
  clear hGm hB3 cN htm
  go_wp2_with fail
  clear hl6
  go_loopw [11, 43] (fun v11 v43 wr => SwA us w1.heap.size mb n tm X s obs vl f w1 v11 v43 wr) (fun _ v43 _ => L - (intOf v43).toNat)
  case atStart => exact h0
  case round =>
  clear h0
  obtain ⟨i, T, c, hi, rfl, rfl, htm, hGm, hwh⟩ := hrel
  have hi0 : (0 : Int) ≤ (i : Int) := by omega
  have hiL : i ≤ L := by have := HO.out.2.1; omega
  have hcw := cntW_le us i
  have hc40 : (cntW us i : Int) ≤ 40 := by omega
  have hc0 : (0 : Int) ≤ (cntW us i : Int) := by omega
  by_cases hlt : i < L
  · have hi1 : (i : Int) < (L : Int) := by omega
    obtain ⟨x, hx⟩ : ∃ x, obs[i]? = some x := ⟨_, List.getElem?_eq_getElem (by have := HO.out.2.1; omega)⟩
    rcases hGm.go.row.is with ⟨_, e⟩ | ⟨g, cap, cur, hv, hg, hlc, hcm, hcs, hcell⟩
    · have := congrArg List.length e; rw [refsI_length, HO.out.2.1] at this; simp at this; omega
    rw [refsI_length, HO.out.2.1] at hv
    have hca := hcell i (by rw [refsI_length, HO.out.2.1]; exact hlt)
    rw [(List.getElem?_eq_some_iff.1 (refsI_at hx)).2] at hca
    have hxR : (x.r : Int) ∈ refsI obs := List.mem_map.2 ⟨x, List.mem_of_getElem? hx, rfl⟩
    have hxb := HO.out.1.bd _ hxR
    have hRx := refsI_at hx
    have hBw := HO.out.2.2.trans (hGm.below.mono HO.out.2.2.size)
    have cB := hGm.shade (x.r : Int) hxR hxb.1 hxb.2
    rw [htm] at cB
    have HG := Lib.hid (And.intro hGm (And.intro hwh (And.intro htm hRx)))
    have hyes := cntW_yes (us := us) (i := i)
    have hno := cntW_no (us := us) (i := i)
    subst hv
    clear hx hg hlc hcm hcs hcell hxR hxb hwh hGm htm hRx
    generalize hcc : cntW us i = cc at *
    by_cases hiu : i < us.length
    · obtain ⟨bk, off, rfl, hbk, hcU, _⟩ := HU.out i hiu
      have hd := (hBw.cell (p := ⟨bk, off + i, none⟩) hbk).trans hcU
      obtain ⟨v, hv⟩ : ∃ v, us.getD i 0 = v := ⟨_, rfl⟩
      rw [hv] at hd
      obtain ⟨z, hz⟩ : ∃ z, bits .and .u8 v 1 = z := ⟨_, rfl⟩
      obtain ⟨bq, hbq⟩ : ∃ bq, (z == 1) = bq := ⟨_, rfl⟩
      have hgb : gbW us i = bq := by unfold gbW; rw [decide_eq_true hiu, hv, hz, hbq]; rfl
      rw [hgb] at hyes hno
      have hiuI : (i : Int) < (us.length : Int) := by omega
      have HGB := Lib.hid hgb
      clear hv hcU hbk hBw hgb hiu
      cases bq with
      | true =>
        have HN := Lib.hid (hyes rfl)
        clear hyes hno hcc
        go_wp2_with fail
        refine cB.mono ?_
        rintro e w4 ⟨rfl, T', hm', hG', _⟩
        have HG2 := Lib.hid (And.intro hm' hG')
        clear cB hm' hG' hca hd
        go_wp2_with fail
        go_roundw
        case rel => exact ⟨i + 1, T', _, by have := HO.out.2.1; omega, by go_num, by rw [HN.out] <;> go_num, HG2.out.1, HG2.out.2, HG.out.2.1.yes HO.out.1.nd HG.out.2.2.2 HGB.out⟩
        case measure => simp [intOf]; omega
      | false =>
        have HN := Lib.hid (hno rfl)
        clear hyes hno hcc cB
        go_wp2_with fail
        go_roundw
        case rel => exact ⟨i + 1, T, c, by have := HO.out.2.1; omega, by go_num, by rw [HN.out] <;> go_num, HG.out.2.2.1, HG.out.1, HG.out.2.1.no HGB.out⟩
        case measure => simp [intOf]; omega
    · have hiuI : ¬ (i : Int) < (us.length : Int) := by omega
      have hgb : gbW us i = false := by unfold gbW; rw [decide_eq_false hiu]; rfl
      have HN := Lib.hid (hno hgb)
      have HGB := Lib.hid hgb
      clear hyes hno hcc hiu hgb cB hBw
      go_wp2_with fail
      go_roundw
      case rel => exact ⟨i + 1, T, c, by have := HO.out.2.1; omega, by go_num, by rw [HN.out] <;> go_num, HG.out.2.2.1, HG.out.1, HG.out.2.1.no HGB.out⟩
      case measure => simp [intOf]; omega
  · have hi1 : ¬ (i : Int) < (L : Int) := by omega
    obtain rfl : L = i := by omega
    obtain ⟨R, hR⟩ : ∃ R, refsI obs = R := ⟨_, rfl⟩
    have hRL : R.length = L := by rw [← hR, refsI_length, HO.out.2.1]
    have hnd : R.Nodup := hR ▸ HO.out.1.nd
    have hwh2 : Wh us R R.length c := by rw [hRL, ← hR]; exact hwh
    have hinn : ∀ y, c.ma y = true → y ∈ R := hR ▸ hGm.inn
    have hcnt : cntW us L = (R.filter c.ma).length := by rw [← hRL]; exact hwh2.count.symm
    have cS := st_new hGm
    rw [htm] at cS
    have HR := Lib.hid (And.intro hR (And.intro hRL (And.intro hnd (And.intro hwh2 (And.intro hinn (And.intro hcnt htm))))))
    clear hR hRL hnd hwh2 hinn hwh htm hcnt
    generalize hn0 : cntW us L = n0 at *
    have hnn : ((n0 : Int) != (n0 : Int)) = false := by simp
    have hnn2 : ((n0 : Int) == (n0 : Int)) = true := by simp
    go_wp2_with fail
    refine cS.mono ?_
    rintro e w4 ⟨Z, rfl, hZ, hB4⟩
    obtain ⟨zt, hzt⟩ : ∃ zt, Z.t = zt := ⟨_, rfl⟩
    rw [hzt]
    have cR := hZ.remark
    rw [hzt] at cR
    have HZT := Lib.hid hzt
    clear cS hB4 hGm hzt hn0
    go_wp2_with fail
    refine cR.mono ?_
    rintro e w5 ⟨rfl, T5, Z5, hm5, hz5, h5, _⟩
    rw [Col.rem_none] at h5
    have htm5 : T5.m = tm := hm5.trans HR.out.2.2.2.2.2.2
    have hcount : ∀ y, y ∈ R.filter c.ma ↔ c.ma y = true := fun y => by
      rw [List.mem_filter]
      exact ⟨fun h => h.2, fun h => ⟨HR.out.2.2.2.2.1 y h, h⟩⟩
    have cC := h5.gm.at_.count (R.filter c.ma) (HR.out.2.2.1.filter _) hcount
    rw [htm5, ← HR.out.2.2.2.2.2.1] at cC
    have H5 := Lib.hid (And.intro h5 (And.intro htm5 (And.intro hz5 hcount)))
    clear cR hm5 hz5 htm5 h5 hcount hZ
    go_wp2_with fail
    refine cC.mono ?_
    rintro e w6 ⟨rfl, hB6⟩
    have h6 := H5.out.1.ask hB6
    clear cC hB6
    have hip : 0 < L := hz0
    obtain ⟨ia, hia⟩ : ∃ ia, ia = a8 % L := ⟨_, rfl⟩
    have hta : (a8 : Int).tmod (L : Int) = (ia : Int) := by rw [Int.tmod_eq_emod_of_nonneg (by omega), hia]; omega
    have hla : ia < L := by rw [hia]; exact Nat.mod_lt _ hip
    have hin : ¬ (L : Int) = 0 := by omega
    have hlaI : (ia : Int) < (L : Int) := by omega
    have hla0 : (0 : Int) ≤ (ia : Int) := by omega
    have hL0 : (0 : Int) < (L : Int) := by omega
    have hwa : IntKind.i64.wrap (a8 : Int) = (a8 : Int) := by simp [IntKind.wrap, IntKind.bits, IntKind.signed]; omega
    have hLn : ¬ L = 0 := by omega
    obtain ⟨y, hy⟩ : ∃ y, obs[ia]? = some y := ⟨_, List.getElem?_eq_getElem (by have := HO.out.2.1; omega)⟩
    obtain ⟨y0, hy0⟩ : ∃ y0, obs[0]? = some y0 := ⟨_, List.getElem?_eq_getElem (by have := HO.out.2.1; omega)⟩
    have hD := h6.ask (Below.refl _ w6).drew
    rcases hD.gm.go.row.is with ⟨_, e⟩ | ⟨g, cap, cur, hv, hg, hlc, hcm, hcs, hcell⟩
    · have := congrArg List.length e; rw [refsI_length, HO.out.2.1] at this; simp at this; omega
    rw [refsI_length, HO.out.2.1] at hv
    have hca := hcell ia (by rw [refsI_length, HO.out.2.1]; exact hla)
    have hca0 := hcell 0 (by rw [refsI_length, HO.out.2.1]; exact hip)
    rw [(List.getElem?_eq_some_iff.1 (refsI_at hy)).2] at hca
    rw [(List.getElem?_eq_some_iff.1 (refsI_at hy0)).2] at hca0
    have hl6 := hD.gm.go.row.lenRun 3
    rw [refsI_length, HO.out.2.1] at hl6
    have cP := hD.post (y.r : Int) 0 (y0.r : Int) false false
    have hz5t : Z5.t = zt := H5.out.2.2.1
    rw [hz5t] at cP
    have HY := Lib.hid (And.intro (refsI_at hy) (refsI_at hy0))
    have HD := Lib.hid hD
    subst hv
    clear hia hy hy0 hg hlc hcm hcs hcell hD h6
    go_wp2_with fail
    go_region_held3 (fun W' => W'.cell? ⟨g, ia, none⟩ = some (.int .i64 (y.r : Int)) ∧ W'.cell? ⟨g, 0, none⟩ = some (.int .i64 (y0.r : Int))) (first | exact hS7 | exact ⟨hca, hca0⟩)
      (first
        | (go_at_call 16; refine cP.mono ?_; rintro e w7 ⟨rfl, Z7, hz7, h7, _⟩; have hS7 : w7.cell? ⟨g, ia, none⟩ = some (.int .i64 (y.r : Int)) ∧ w7.cell? ⟨g, 0, none⟩ = some (.int .i64 (y0.r : Int)) := ⟨row_cell h7.gm.go.row HY.out.1, row_cell h7.gm.go.row HY.out.2⟩))
    all_goals
      have cR2 := h7.remark
      rw [hz7] at cR2
      clear cP hta hla hin hLn hlaI hla0 hL0 hwa hca hca0 hS7
      go_wp2_with fail
      refine cR2.mono ?_
      rintro e w8 ⟨rfl, T8, Z8, hm8, hz8, h8, _⟩
      rw [Col.rem_white HR.out.2.2.2.1.sc] at h8
      have htm8 : T8.m = tm := hm8.trans H5.out.2.1
      have H8 := Lib.hid (And.intro h8 htm8)
      clear cR2 hm8 hz8 h8 htm8 hz7 h7
      go_wp2_with fail
      clear hl6
      go_loopw [92] (fun v92 W => ∃ k : Nat, k ≤ L ∧ v92 = .int .i64 (k : Int) ∧ Below w8.heap.size w8 W) (fun v92 _ => L - (intOf v92).toNat)
      case atStart => exact ⟨0, Nat.zero_le _, rfl, Below.refl _ _⟩
      case round =>
      obtain ⟨k, hk, rfl, hBW⟩ := hrel
      have hW := H8.out.1.ask hBW
      have hk0 : (0 : Int) ≤ (k : Int) := by omega
      by_cases hlt2 : k < L
      · have hk1 : (k : Int) < (L : Int) := by omega
        obtain ⟨x, hx⟩ : ∃ x, obs[k]? = some x := ⟨_, List.getElem?_eq_getElem (by have := HO.out.2.1; omega)⟩
        have hca2 := row_cell hW.gm.go.row (refsI_at hx)
        have hRx : R[k]? = some (x.r : Int) := by rw [← HR.out.1]; exact refsI_at hx
        have hmx := HR.out.2.2.2.1.ma k (x.r : Int) hRx
        rw [HR.out.2.1, decide_eq_true hlt2, Bool.true_and] at hmx
        have cMa := hW.gm.at_.marked (x.r : Int)
        rw [H8.out.2, hmx] at cMa
        have hBw := HO.out.2.2.trans (hW.gm.below.mono HO.out.2.2.size)
        have HW := Lib.hid hW
        have HBW := Lib.hid hBW
        clear hx hRx hmx hW hBW
        by_cases hku : k < us.length
        · obtain ⟨bk, off, rfl, hbk, hcU, _⟩ := HU.out k hku
          obtain ⟨v, hv⟩ : ∃ v, us.getD k 0 = v := ⟨_, rfl⟩
          obtain ⟨z, hz⟩ : ∃ z, bits .and .u8 v 1 = z := ⟨_, rfl⟩
          obtain ⟨bq, hbq⟩ : ∃ bq, (z == 1) = bq := ⟨_, rfl⟩
          have hgb : gbW us k = bq := by unfold gbW; rw [decide_eq_true hku, hv, hz, hbq]; rfl
          rw [hgb] at cMa
          have hkuI : (k : Int) < (us.length : Int) := by omega
          have HD := Lib.hid (And.intro hbk (And.intro hcU hv))
          clear hv hcU hbk hBw hgb hku
          cases bq with
          | true =>
            go_wp2_with fail
            refine cMa.mono ?_
            rintro e V1 ⟨rfl, hB1⟩
            have hW1 := HW.out.ask hB1
            have hd := ((HO.out.2.2.trans (hW1.gm.below.mono HO.out.2.2.size)).cell (p := ⟨bk, off + k, none⟩) HD.out.1).trans HD.out.2.1
            rw [HD.out.2.2] at hd
            have cSc := hW1.gm.at_.scanned (x.r : Int)
            rw [H8.out.2, HR.out.2.2.2.1.sc] at cSc
            have HB1 := Lib.hid hB1
            clear cMa hB1 hW1 hca2
            go_wp2_with fail
            refine cSc.mono ?_
            rintro e V2 ⟨rfl, hB2⟩
            have HB2 := Lib.hid (HBW.out.trans ((below_step HB1.out hB2).mono HBW.out.size))
            clear cSc hB2 hd
            go_wp2_with fail
            go_roundw
            case rel => exact ⟨k + 1, by omega, by go_num, HB2.out⟩
            case measure => simp [intOf]; omega
          | false =>
            go_wp2_with fail
            refine cMa.mono ?_
            rintro e V1 ⟨rfl, hB1⟩
            have hW1 := HW.out.ask hB1
            have hd := ((HO.out.2.2.trans (hW1.gm.below.mono HO.out.2.2.size)).cell (p := ⟨bk, off + k, none⟩) HD.out.1).trans HD.out.2.1
            rw [HD.out.2.2] at hd
            have cSc := hW1.gm.at_.scanned (x.r : Int)
            rw [H8.out.2, HR.out.2.2.2.1.sc] at cSc
            have HB1 := Lib.hid hB1
            clear cMa hB1 hW1 hca2
            go_wp2_with fail
            refine cSc.mono ?_
            rintro e V2 ⟨rfl, hB2⟩
            have HB2 := Lib.hid (HBW.out.trans ((below_step HB1.out hB2).mono HBW.out.size))
            clear cSc hB2 hd
            go_wp2_with fail
            go_roundw
            case rel => exact ⟨k + 1, by omega, by go_num, HB2.out⟩
            case measure => simp [intOf]; omega
        · have hkuI : ¬ (k : Int) < (us.length : Int) := by omega
          have hgb : gbW us k = false := by unfold gbW; rw [decide_eq_false hku]; rfl
          rw [hgb] at cMa
          clear hku hgb hBw
          go_wp2_with fail
          refine cMa.mono ?_
          rintro e V1 ⟨rfl, hB1⟩
          have hW1 := HW.out.ask hB1
          have cSc := hW1.gm.at_.scanned (x.r : Int)
          rw [H8.out.2, HR.out.2.2.2.1.sc] at cSc
          have HB1 := Lib.hid hB1
          clear cMa hB1 hW1 hca2
          go_wp2_with fail
          refine cSc.mono ?_
          rintro e V2 ⟨rfl, hB2⟩
          have HB2 := Lib.hid (HBW.out.trans ((below_step HB1.out hB2).mono HBW.out.size))
          clear cSc hB2
          go_wp2_with fail
          go_roundw
          case rel => exact ⟨k + 1, by omega, by go_num, HB2.out⟩
          case measure => simp [intOf]; omega
      · have hk1 : ¬ (k : Int) < (L : Int) := by omega
        obtain rfl : L = k := by omega
        have cC := hW.gm.at_.count (R.filter c.ma) (HR.out.2.2.1.filter _) H5.out.2.2.2
        rw [H8.out.2, ← HR.out.2.2.2.2.2.1] at cC
        have HW := Lib.hid (And.intro hW hBW)
        clear hW hBW
        go_wp2_with fail
        refine cC.mono ?_
        rintro e V1 ⟨rfl, hB1⟩
        have hW1 := HW.out.1.ask hB1
        have cT := hW1.gm.trace HO.out.1.cl 1000
        rw [H8.out.2] at cT
        clear cC hB1 hW1
        go_wp2_with fail
        refine cT.mono ?_
        rintro e V2 ⟨kk, T9, c9, l9, rfl, hlk, hm9, hG9, _, hsc9, hkm, hkd⟩
        have hln := hsc9.len hG9.inn
        rw [hlk, HO.out.2.1] at hln
        have hcount : kk = n0 := by
          rw [← hlk, HR.out.2.2.2.2.2.1]
          exact hsc9.alone (ptsAt_none (HO.out.1.zero rfl)) (hkd (by omega)) HR.out.2.2.1 HR.out.2.2.2.1.sc HR.out.2.2.2.2.1
        subst hcount
        have HG := Lib.hid hG9.below
        clear cT hlk hm9 hG9 hsc9 hkm hkd hln
        go_wp2_with fail
        go_ret
        exact ⟨rfl, HO.out.2.2.trans (HG.out.mono HO.out.2.2.size)⟩
/-- As the frame asks it. -/
theorem swhite_frame (a0 : Option Addr) (zs : List Int) (cf : Nat) (a1 : Option Addr) (us : List Int) (cu : Nat) (nv : Int) (hn : (Lit.int .u8 nv).wf = true) (w : World) (_ : zs.length ≤ 9223372036854775807) (hl : us.length ≤ 9223372036854775807) (hF : BytesW w a0 zs) (hU : BytesW w a1 us) (hTb : TabAt w) (hT : TableAt w) :
    Calls Tryz.prog 5 #[.slice a0 zs.length cf, .slice a1 us.length cu, .int .u8 nv] w fun e w' => e = .returned (.bool true) ∧ Below w.heap.size w w' := by
  obtain ⟨m, rfl, hm⟩ := u8_natW hn
  exact swhite_true a0 zs cf a1 us cu m hm w hl hF hU ⟨hT, hTb⟩
end Go.Proofs.YtgfofilknejmnaaGreatDoor
