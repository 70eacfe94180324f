/- MarkReaches, walked, over the marker's contracts; at this seat's numbers. -/
import Derived.Test.YtfcbpablponmeaaGreatDoorMrA
import Derived.Deep.RegionHeld3
namespace Go.Proofs.YtfcbpablponmeaaGreatDoor
open Go Go.RowKit Go.Shelf Go.MuLone Go.RwLone
set_option linter.unusedSimpArgs false
set_option linter.unusedVariables false
attribute [local go_sem] Oper.semAt_some

def RrA (B mb n tm : Nat) (X : ArB) (s : ArS) (obs : List Ob) (vl : Value) (f : Int → Value) (vr : Value) (roots : List Int) (wb : World) (v47 : Value) (wr : World) : Prop :=
  ∃ (i : Nat) (T : MkB) (c : Col), i ≤ roots.length ∧ v47 = .int .i64 (i : Int) ∧ T.m = tm ∧ GmIn B mb n X s obs vl f (ptsAt obs) (fun k => vr.ownBlock = some k) T c wb wr ∧ RefRow wr vr roots ∧ Tri (ptsAt obs) (roots.take i) c []
def RrB (B mb n tm rb : Nat) (X : ArB) (s : ArS) (obs : List Ob) (vl : Value) (f : Int → Value) (roots vis : List Int) (wb : World) (v16 : Value) (wr : World) : Prop :=
  ∃ (T : MkB) (c : Col) (ord : List Int), v16 = .int .i64 (ord.length : Int) ∧ T.m = tm ∧ GmIn B mb n X s obs vl f (ptsAt obs) (fun k => k = rb) T c wb wr ∧ MapIn wr rb vis.length (visF vis) (visK vis) vis.length ∧ Tri (ptsAt obs) roots c ord
def RrC (B mb n rb : Nat) (X : ArB) (s : ArS) (obs : List Ob) (vl : Value) (f : Int → Value) (vis : List Int) (T : MkB) (c : Col) (wb : World) (v86 : Value) (wr : World) : Prop :=
  ∃ i : Nat, i ≤ obs.length ∧ v86 = .int .i64 (i : Int) ∧ GmIn B mb n X s obs vl f (ptsAt obs) (fun k => k = rb) T c wb wr ∧ MapIn wr rb vis.length (visF vis) (visK vis) vis.length

set_option maxRecDepth 100000 in
set_option maxHeartbeats 16000000 in
theorem mreaches_true (a0 : Option Addr) (zs : List Int) (cf : Nat) (e0 : Option Addr) (ne ce : Nat) (Q : Nat → Nat → Int) (a1 : Option Addr) (us : List Int) (cu : Nat) (r0 r1 : Nat) (hr0 : r0 < 256) (hr1 : r1 < 256) (w : World) (_ : us.length ≤ 9223372036854775807)
    (hF : BytesW w a0 zs) (hE : EdgesW w e0 ne Q) (hU : BytesW w a1 us) (hT : Tabs w) :
    Calls Tryz.prog 3 #[.agg #[.slice a0 zs.length cf, .slice e0 ne ce], .slice a1 us.length cu, .agg #[.int .u8 (r0 : Int), .int .u8 (r1 : Int)]] w fun e w' => e = .returned (.bool true) ∧ Below w.heap.size w w' := by
  have HA := Lib.hid (And.intro hF (And.intro hE hU))
  clear hF hE hU
  go_enter Tryz.func3, Tryz.ntmps3
  go_wp2_with fail
  have hG := (Blk.new w #[.slice a0 zs.length cf, .slice e0 ne ce] 25).alloc (.cells #[.int .u8 (r0 : Int), .int .u8 (r1 : Int)] 26)
  have hR := Blk.new (w.alloc (.cells #[.slice a0 zs.length cf, .slice e0 ne ce] 25)) #[.int .u8 (r0 : Int), .int .u8 (r1 : Int)] 26
  simp only [World.size_alloc] at hR
  have hB0 := ((Below.refl w.heap.size w).alloc (Nat.le_refl _) (.cells #[.slice a0 zs.length cf, .slice e0 ne ce] 25)).alloc (by simp) (.cells #[.int .u8 (r0 : Int), .int .u8 (r1 : Int)] 26)
  have hT0 := hT.below hB0
  generalize (w.alloc (.cells #[.slice a0 zs.length cf, .slice e0 ne ce] 25)).alloc (.cells #[.int .u8 (r0 : Int), .int .u8 (r1 : Int)] 26) = W0 at *
  refine (mkfit_true W0 hT0.c hT0.b).mono ?_
  rintro e w1 ⟨rfl, hB1⟩
  have hG1 := hG.turn (Turn.ofBelow hB1) (fun e => Nat.lt_irrefl _ (Nat.lt_of_lt_of_le hG.lt e))
  have hR1 := hR.turn (Turn.ofBelow hB1) (fun e => Nat.lt_irrefl _ (Nat.lt_of_lt_of_le hR.lt e))
  have hB01 := hB0.trans (hB1.mono hB0.size)
  have g0 := hG1.cell 0
  have g1 := hG1.cell 1
  simp only [List.getElem?_toArray, List.getElem?_cons_zero, List.getElem?_cons_succ] at g0 g1
  obtain ⟨q, hq⟩ : ∃ q, (decide (zs.length ≤ 40) && decide (ne ≤ 120)) = q := ⟨_, rfl⟩
  have cS := small_any a0 zs.length cf e0 ne ce w1 q hq
  have HW1 := Lib.hid (And.intro hG1 (And.intro hR1 (And.intro hB01 (hT.below hB01))))
  clear hB0 hB1 hG hR hT0 hG1 hR1 hT hB01
  go_wp2_with fail
  refine cS.mono ?_
  rintro e w2 ⟨rfl, hB2⟩
  have hB02 := HW1.out.2.2.1.trans (hB2.mono HW1.out.2.2.1.size)
  clear cS g0 g1
  by_cases hsm : zs.length ≤ 40 ∧ ne ≤ 120 ∧ us.length ≤ 20
  case neg =>
    cases q with
    | false =>
      go_wp2_with fail
      go_ret
      exact ⟨rfl, hB02⟩
    | true =>
      have h20 : 20 < (us.length : Int) := by
        have h1 : zs.length ≤ 40 := by simpa using (Bool.and_eq_true_iff.1 hq).1
        have h2 : ne ≤ 120 := by simpa using (Bool.and_eq_true_iff.1 hq).2
        have : ¬ us.length ≤ 20 := fun h3 => hsm ⟨h1, h2, h3⟩
        omega
      clear hsm hq
      go_wp2_with fail
      go_ret
      exact ⟨rfl, hB02⟩
  case pos =>
  obtain ⟨h40, h120, h20⟩ := hsm
  have hqt : q = true := by rw [← hq, decide_eq_true h40, decide_eq_true h120]; rfl
  subst hqt
  have h20I : ¬ 20 < (us.length : Int) := by omega
  have hG2 := HW1.out.1.turn (Turn.ofBelow hB2) (fun e => Nat.lt_irrefl _ (Nat.lt_of_lt_of_le HW1.out.1.lt e))
  have hR2 := HW1.out.2.1.turn (Turn.ofBelow hB2) (fun e => Nat.lt_irrefl _ (Nat.lt_of_lt_of_le HW1.out.2.1.lt e))
  have hT2 := HW1.out.2.2.2.below hB2
  have cM := made_any a0 zs cf e0 ne ce Q w2 h40 h120 (HA.out.1.under hB02 (Nat.le_refl _)) (HA.out.2.1.under hB02 (Nat.le_refl _)) hT2.c
  have HTB := Lib.hid hT2.b
  have g0 := hG2.cell 0
  have g1 := hG2.cell 1
  simp only [List.getElem?_toArray, List.getElem?_cons_zero, List.getElem?_cons_succ] at g0 g1
  have HW2 := Lib.hid (And.intro hR2 hB02)
  have HS := Lib.hid (And.intro h40 (And.intro h120 h20))
  clear hG2 hR2 hT2 hB02 hB2 HW1 hq h40 h120 h20
  go_wp2_with fail
  refine cM.mono ?_
  rintro e w3 ⟨X, s, obs, vl, mb, n, f, adj, rfl, hGo, hol, hcl, hsP, hn6, hadj, hnil⟩
  obtain rfl := adj_ptsAt hGo.ob hadj hnil
  have hR3 := HW2.out.1.turn (Turn.ofBelow hGo.ar.below) (fun e => Nat.lt_irrefl _ (Nat.lt_of_lt_of_le HW2.out.1.lt e))
  have r3 := hR3.cell 0
  simp only [List.getElem?_toArray, List.getElem?_cons_zero] at r3
  obtain ⟨m0, hm0⟩ : ∃ m0, m0 = r0 % 12 := ⟨_, rfl⟩
  have hmt : (r0 : Int).tmod 12 = (m0 : Int) := by rw [Int.tmod_eq_emod_of_nonneg (by omega)]; omega
  have hmu : IntKind.u8.wrap (m0 : Int) = (m0 : Int) := by simp [IntKind.wrap, IntKind.bits, IntKind.signed]; omega
  have hm12 : m0 < 12 := by omega
  have hbd := refs_bound hGo.ob hGo.ar.at_.fits
  have hnd := refs_nodup hGo.ob
  have hfew : ∀ x ∈ refsI obs, (ptsAt obs x).length ≤ 6 := fun x hx => by
    obtain ⟨y, hy, rfl⟩ := List.mem_map.1 hx
    rw [ptsAt_mem hGo.ob hy]; exact pts_few hGo.ob hGo.ar.at_.fits hy
  have hpin : ∀ x ∈ refsI obs, ∀ y ∈ ptsAt obs x, y = 0 ∨ y ∈ refsI obs := fun x hx y hy => by
    obtain ⟨z, hz, rfl⟩ := List.mem_map.1 hx
    rw [ptsAt_mem hGo.ob hz] at hy; exact .inr (pts_in hcl hz y hy)
  have HO := Lib.hid (And.intro hol (And.intro hcl (And.intro hbd (And.intro hnd (And.intro hfew hpin)))))
  have cN := gm_new (E := fun _ => False) hGo hsP (m0 : Int) (fun _ h => h.elim) (by omega) HTB.out HTB.out.lt
  have H3 := Lib.hid hGo
  clear hGo hol hcl hsP hn6 hadj hnil hbd hnd hfew hpin hR3 cM g0 g1 hm0
  go_wp2_with fail
  refine cN.mono ?_
  rintro e w4 ⟨T, rfl, hGm, hB4⟩
  obtain ⟨tm, htm⟩ : ∃ tm, T.m = tm := ⟨_, rfl⟩
  rw [htm]
  have hB24 := hGm.below
  have hB04 := HW2.out.2.trans (hB24.mono HW2.out.2.size)
  have cSo := some_any vl (refsI obs) a1 us cu w4 hGm.go.row (by rw [refsI_length]; have := HO.out.1; have := HS.out.1; omega) (by have := HS.out.2.2; omega) (HA.out.2.2.under hB04 (Nat.le_refl _))
  have H4 := Lib.hid (And.intro hGm htm)
  clear hGm htm hB4 hB24 hB04 cN r3 hmt hmu
  go_wp2_with fail
  refine cSo.mono ?_
  rintro e w5 ⟨vr, rfl, hvr, hB5, hnew⟩
  obtain ⟨roots, hroots⟩ : ∃ roots, roots = someL (refsI obs) us := ⟨_, rfl⟩
  rw [← hroots] at hvr
  have hrin : ∀ x ∈ roots, x ∈ refsI obs := fun x hx => someL_mem (hroots ▸ hx)
  have hrl : roots.length ≤ 20 := by rw [hroots]; have := someL_length (refsI obs) us; have := HS.out.2.2; omega
  have hG5 : GmIn w2.heap.size mb n X s obs vl f (ptsAt obs) (fun k => vr.ownBlock = some k) T Col.white w2 w5 := H4.out.1.watch hB5 fun k e => .inr ⟨hnew k e, hvr.lt e⟩
  have hlr := hvr.lenRun 3
  have h5 : RrA w2.heap.size mb n tm X s obs vl f vr roots w2 (.int .i64 ((0 : Nat) : Int)) w5 := ⟨0, T, Col.white, Nat.zero_le _, rfl, H4.out.2, hG5, hvr, good_white⟩
  have hrnew : ∀ k, vr.ownBlock = some k → w2.heap.size ≤ k := fun k e => Nat.le_trans H4.out.1.size (hnew k e)
  have HRT := Lib.hid (And.intro hrin (And.intro hrl hrnew))
  have hr20I : (roots.length : Int) ≤ 20 := by omega
  clear cSo hvr hB5 hnew hroots hrin hG5 hrnew hrl
  go_wp2_with fail
  clear hlr
  go_loopw [47] (fun v47 wr => RrA w2.heap.size mb n tm X s obs vl f vr roots w2 v47 wr) (fun v47 _ => roots.length - (intOf v47).toNat)
  case atStart => exact h5
  case round =>
    clear h5
    obtain ⟨i, T, c, hi, rfl, htm, hGm, hvr, hTri⟩ := hrel
    have hi0 : (0 : Int) ≤ (i : Int) := by omega
    by_cases hlt : i < roots.length
    · have hi1 : (i : Int) < (roots.length : Int) := by omega
      obtain ⟨x, hx⟩ : ∃ x, roots[i]? = some x := ⟨_, List.getElem?_eq_getElem hlt⟩
      rcases hvr.is with ⟨_, e⟩ | ⟨g, cap, cur, hv, hg, hlc, hcm, hcs, hcell⟩
      · rw [e] at hlt; simp at hlt
      have hca := hcell i hlt
      rw [(List.getElem?_eq_some_iff.1 hx).2] at hca
      have hxin := HRT.out.1 x (List.mem_of_getElem? hx)
      have hxb := HO.out.2.2.1 x hxin
      have cMa := hGm.at_.marked x
      rw [htm] at cMa
      have H := Lib.hid (And.intro hGm (And.intro hvr (And.intro hTri hx)))
      have HX := Lib.hid (And.intro hxin hxb)
      have HTM := Lib.hid htm
      subst hv
      clear hGm hvr hTri hx hg hlc hcm hcs hcell hxin hxb htm
      go_wp2_with fail
      refine cMa.mono ?_
      rintro e w6 ⟨rfl, hB6⟩
      have hG6 := H.out.1.ask hB6
      have hv6 := H.out.2.1.ask hB6
      have cSh := hG6.shade x HX.out.1 HX.out.2.1 HX.out.2.2
      rw [HTM.out] at cSh
      obtain ⟨b, hb⟩ : ∃ b, c.ma x = b := ⟨_, rfl⟩
      rw [hb] at cSh ⊢
      have hbb : ((!b) == b) = false := by cases b <;> rfl
      have H6 := Lib.hid hv6
      clear cMa hB6 hca hG6 hv6 hb
      go_wp2_with fail
      refine cSh.mono ?_
      rintro e w7 ⟨rfl, T', hm', hG7, hk7⟩
      have hv7 := H6.out.keepG hk7
      have H7 := Lib.hid (And.intro hG7 (And.intro hv7 hm'))
      clear cSh hG7 hk7 hv7 hm'
      cases b
      · go_wp2_with fail
        go_roundw
        case rel =>
          have hT := H.out.2.2.1.shade (x := x) (by have := HX.out.2.1; omega)
          rw [← take_nextR H.out.2.2.2] at hT
          exact ⟨i + 1, T', _, hlt, by go_num, H7.out.2.2, H7.out.1, H7.out.2.1, hT⟩
        case measure => simp [intOf]; omega
      · go_wp2_with fail
        go_roundw
        case rel =>
          have hT := H.out.2.2.1.shade (x := x) (by have := HX.out.2.1; omega)
          rw [← take_nextR H.out.2.2.2] at hT
          exact ⟨i + 1, T', _, hlt, by go_num, H7.out.2.2, H7.out.1, H7.out.2.1, hT⟩
        case measure => simp [intOf]; omega
    · have hi1 : ¬ (i : Int) < (roots.length : Int) := by omega
      obtain rfl : i = roots.length := by omega
      rw [List.take_length] at hTri
      have hd6 := HO.out.2.2.2.2.1
      have hrest : restI (ptsAt obs) [] (refsI obs) ≤ 6 * (refsI obs).length := restI_nil_le _ 6 _ hd6
      have hol40 : obs.length ≤ 40 := by have := HO.out.1; have := HS.out.1; omega
      have cRe := reach_any vr roots (refsI obs) mb n f (ptsAt obs) wr hvr hGm.go.grp HO.out.2.2.2.1 HO.out.2.2.1 (by rw [refsI_length]; omega) (fun x hx => .inr (HRT.out.1 x hx)) HO.out.2.2.2.2.2 (by rw [refsI_length] at hrest; omega) (fun x hx => by have := hd6 x hx; omega)
      have H := Lib.hid (And.intro hGm (And.intro hTri htm))
      clear hGm hvr hTri htm hd6 hrest hi hlt
      go_wp2_with fail
      refine cRe.mono ?_
      rintro e w6 ⟨rb, vis, rfl, hMap, hrb, hB6, hvn, hvin, hvis⟩
      have hG6 : GmIn w2.heap.size mb n X s obs vl f (ptsAt obs) (fun k => k = rb) T c w2 w6 := H.out.1.watch hB6 fun k e => .inr ⟨by have e2 : k = rb := e; omega, by have e2 : k = rb := e; have := hMap.lt; omega⟩
      have h6 : RrB w2.heap.size mb n tm rb X s obs vl f roots vis w2 (.int .i64 ((([] : List Int).length : Nat) : Int)) w6 := ⟨T, c, [], rfl, H.out.2.2, hG6, hMap, H.out.2.1⟩
      have HV := Lib.hid (And.intro hvn (And.intro hvin hvis))
      have hbd2 : ∀ (c : Col) (ord : List Int), Tri (ptsAt obs) roots c ord → (∀ x, c.ma x = true → x ∈ refsI obs) → ord.length ≤ obs.length := fun c ord hT hi => by
        rw [← refsI_length]
        exact nodup_sub hT.nod fun x hx => hi x (hT.sub x ((hT.ord x).2 hx))
      have HBD := Lib.hid hbd2
      have holI : (obs.length : Int) ≤ 40 := by omega
      have hll : ∀ W, (Builtin.len_ #[29] 3 #[vl]).run Tryz.prog W = .ok (.int .i64 (obs.length : Int)) W := fun W => by
        have := hG6.go.row.lenRun 3 W
        rw [refsI_length] at this; exact this
      have HLL := Lib.hid hll
      obtain ⟨m1, hm1⟩ : ∃ m1, m1 = r1 % 5 := ⟨_, rfl⟩
      have hmt1 : (r1 : Int).tmod 5 = (m1 : Int) := by rw [Int.tmod_eq_emod_of_nonneg (by omega)]; omega
      have hm15 : m1 < 5 := by omega
      have hmu1 : IntKind.u8.wrap (m1 : Int) = (m1 : Int) := by simp [IntKind.wrap, IntKind.bits, IntKind.signed]; omega
      clear cRe hMap hB6 hvn hvin hvis hG6 hbd2 hol40 hll hm1 H
      go_wp2_with fail
      go_loopw [16] (fun v16 wr => RrB w2.heap.size mb n tm rb X s obs vl f roots vis w2 v16 wr) (fun v16 _ => obs.length - (intOf v16).toNat)
      case atStart => exact h6
      case round =>
        clear h6
        obtain ⟨T, c, ord, rfl, htm, hGm, hMap, hTri⟩ := hrel
        have hol := HBD.out _ _ hTri hGm.inn
        have holI2 : (ord.length : Int) ≤ (obs.length : Int) := by omega
        have ho0 : (0 : Int) ≤ (ord.length : Int) := by omega
        by_cases hd : c.dry
        · have cD := hGm.at_.drained true ⟨fun _ => hd, fun _ => rfl⟩
          rw [htm] at cD
          have H := Lib.hid (And.intro hGm (And.intro hMap (And.intro hTri (And.intro hd htm))))
          clear hGm hMap hTri hd htm hmt1 hmu1 hm15
          go_wp2_with fail
          refine cD.mono ?_
          rintro e w7 ⟨rfl, hB7⟩
          have h7 : RrC w2.heap.size mb n rb X s obs vl f vis T c w2 (.int .i64 ((0 : Nat) : Int)) w7 := ⟨0, Nat.zero_le _, rfl, H.out.1.ask hB7, H.out.2.1.ask hB7⟩
          have hll := HLL.out
          clear cD hB7
          go_wp2_with fail
          clear hll
          go_loopw [86] (fun v86 wr => RrC w2.heap.size mb n rb X s obs vl f vis T c w2 v86 wr) (fun v86 _ => obs.length - (intOf v86).toNat)
          case atStart => exact h7
          case round =>
          clear h7
          obtain ⟨i2, hi2, rfl, hGm, hMap⟩ := hrel
          have hi20 : (0 : Int) ≤ (i2 : Int) := by omega
          by_cases hlt : i2 < obs.length
          · have hlt1 : (i2 : Int) < (obs.length : Int) := by omega
            obtain ⟨y, hy⟩ : ∃ y, obs[i2]? = some y := ⟨_, List.getElem?_eq_getElem hlt⟩
            rcases hGm.go.row.is with ⟨_, e⟩ | ⟨g, cap, cur, hv, hg, hlc, hcm, hcs, hcell⟩
            · have := congrArg List.length e; rw [refsI_length, List.length_nil] at this; omega
            rw [refsI_length] at hv
            have hca := hcell i2 (by rw [refsI_length]; exact hlt)
            rw [(List.getElem?_eq_some_iff.1 (refsI_at hy)).2] at hca
            have hyin : (y.r : Int) ∈ refsI obs := List.mem_map.2 ⟨y, List.mem_of_getElem? hy, rfl⟩
            have hyb := HO.out.2.2.1 _ hyin
            have hwf := wf_ref hyb.1 hyb.2
            have hmv : c.ma (y.r : Int) = true ↔ (y.r : Int) ∈ vis := (H.out.2.2.1.dry H.out.2.2.2.1 _).trans (HV.out.2.2 _).symm
            subst hv
            clear hg hlc hcm hcs hcell hyin hyb hy
            cases hb : c.ma (y.r : Int)
            · have hnv : ¬ (y.r : Int) ∈ vis := fun e => by have := hmv.2 e; rw [hb] at this; cases this
              have hvv : visF vis (y.r : Int) = 0 := by unfold visF; rw [if_neg hnv]
              have hsc : c.sc (y.r : Int) = false := by
                cases e : c.sc (y.r : Int) with
                | false => rfl
                | true => have := H.out.2.2.1.sub _ e; rw [hb] at this; cases this
              have HVV := Lib.hid hvv
              clear hmv hnv
              have cMa : ∀ W, GmIn w2.heap.size mb n X s obs (.slice (some ⟨g, 0, none⟩) obs.length cap) f (ptsAt obs) (fun k => k = rb) T c w2 W → Calls Tryz.prog 15 #[.pointer (some ⟨tm, 0, none⟩), .int .i64 (y.r : Int)] W fun e w' => e = .returned (.bool false) ∧ Below W.heap.size W w' := fun W h => by
                have := h.at_.marked (y.r : Int)
                rw [H.out.2.2.2.2, hb] at this; exact this
              have cSc : ∀ W, GmIn w2.heap.size mb n X s obs (.slice (some ⟨g, 0, none⟩) obs.length cap) f (ptsAt obs) (fun k => k = rb) T c w2 W → Calls Tryz.prog 20 #[.pointer (some ⟨tm, 0, none⟩), .int .i64 (y.r : Int)] W fun e w' => e = .returned (.bool false) ∧ Below W.heap.size W w' := fun W h => by
                have := h.at_.scanned (y.r : Int)
                rw [H.out.2.2.2.2, hsc] at this; exact this
              have hS0 := rr_hold hGm hMap (Below.refl _ wr).drew (y.r : Int) 0 hwf hvv
              have HM := Lib.hid hS0
              clear hb hsc hvv hGm hMap
              go_wp2_with fail
              go_region_held3 (fun W' => GmIn w2.heap.size mb n X s obs (.slice (some ⟨g, 0, none⟩) obs.length cap) f (ptsAt obs) (fun k => k = rb) T c w2 W' ∧ MapIn W' rb vis.length (visF vis) (visK vis) vis.length ∧ (Instr.lookup 38 (.map (some rb)) (.int .i64 (y.r : Int)) false).run Tryz.prog W' = .ok (.int .i64 0) W')
                (first | exact hSc | exact hSb | exact hSa | exact hS0)
                (first
                  | (go_at_call 15; first | (refine (cMa _ hSb.1).mono ?_; rintro e w' ⟨rfl, hB'⟩; have hSc := rr_hold hSb.1 hSb.2.1 hB' (y.r : Int) 0 hwf HVV.out) | (refine (cMa _ hSa.1).mono ?_; rintro e w' ⟨rfl, hB'⟩; have hSb := rr_hold hSa.1 hSa.2.1 hB' (y.r : Int) 0 hwf HVV.out) | (refine (cMa _ hS0.1).mono ?_; rintro e w' ⟨rfl, hB'⟩; have hSa := rr_hold hS0.1 hS0.2.1 hB' (y.r : Int) 0 hwf HVV.out))
                  | (go_at_call 20; first | (refine (cSc _ hSb.1).mono ?_; rintro e w' ⟨rfl, hB'⟩; have hSc := rr_hold hSb.1 hSb.2.1 hB' (y.r : Int) 0 hwf HVV.out) | (refine (cSc _ hSa.1).mono ?_; rintro e w' ⟨rfl, hB'⟩; have hSb := rr_hold hSa.1 hSa.2.1 hB' (y.r : Int) 0 hwf HVV.out) | (refine (cSc _ hS0.1).mono ?_; rintro e w' ⟨rfl, hB'⟩; have hSa := rr_hold hS0.1 hS0.2.1 hB' (y.r : Int) 0 hwf HVV.out)))
              all_goals
                go_wp2_with fail
                go_roundw
                case rel => exact ⟨i2 + 1, hlt, by go_num, hSc.1, hSc.2.1⟩
                case measure => simp [intOf]; omega
            · have hvv : visF vis (y.r : Int) = 1 := by unfold visF; rw [if_pos (hmv.1 hb)]
              have hsc : c.sc (y.r : Int) = true := H.out.2.2.2.1 _ hb
              have HVV := Lib.hid hvv
              clear hmv
              have cMa : ∀ W, GmIn w2.heap.size mb n X s obs (.slice (some ⟨g, 0, none⟩) obs.length cap) f (ptsAt obs) (fun k => k = rb) T c w2 W → Calls Tryz.prog 15 #[.pointer (some ⟨tm, 0, none⟩), .int .i64 (y.r : Int)] W fun e w' => e = .returned (.bool true) ∧ Below W.heap.size W w' := fun W h => by
                have := h.at_.marked (y.r : Int)
                rw [H.out.2.2.2.2, hb] at this; exact this
              have cSc : ∀ W, GmIn w2.heap.size mb n X s obs (.slice (some ⟨g, 0, none⟩) obs.length cap) f (ptsAt obs) (fun k => k = rb) T c w2 W → Calls Tryz.prog 20 #[.pointer (some ⟨tm, 0, none⟩), .int .i64 (y.r : Int)] W fun e w' => e = .returned (.bool true) ∧ Below W.heap.size W w' := fun W h => by
                have := h.at_.scanned (y.r : Int)
                rw [H.out.2.2.2.2, hsc] at this; exact this
              have hS0 := rr_hold hGm hMap (Below.refl _ wr).drew (y.r : Int) 1 hwf hvv
              have HM := Lib.hid hS0
              clear hb hsc hvv hGm hMap
              go_wp2_with fail
              go_region_held3 (fun W' => GmIn w2.heap.size mb n X s obs (.slice (some ⟨g, 0, none⟩) obs.length cap) f (ptsAt obs) (fun k => k = rb) T c w2 W' ∧ MapIn W' rb vis.length (visF vis) (visK vis) vis.length ∧ (Instr.lookup 38 (.map (some rb)) (.int .i64 (y.r : Int)) false).run Tryz.prog W' = .ok (.int .i64 1) W')
                (first | exact hSc | exact hSb | exact hSa | exact hS0)
                (first
                  | (go_at_call 15; first | (refine (cMa _ hSb.1).mono ?_; rintro e w' ⟨rfl, hB'⟩; have hSc := rr_hold hSb.1 hSb.2.1 hB' (y.r : Int) 1 hwf HVV.out) | (refine (cMa _ hSa.1).mono ?_; rintro e w' ⟨rfl, hB'⟩; have hSb := rr_hold hSa.1 hSa.2.1 hB' (y.r : Int) 1 hwf HVV.out) | (refine (cMa _ hS0.1).mono ?_; rintro e w' ⟨rfl, hB'⟩; have hSa := rr_hold hS0.1 hS0.2.1 hB' (y.r : Int) 1 hwf HVV.out))
                  | (go_at_call 20; first | (refine (cSc _ hSb.1).mono ?_; rintro e w' ⟨rfl, hB'⟩; have hSc := rr_hold hSb.1 hSb.2.1 hB' (y.r : Int) 1 hwf HVV.out) | (refine (cSc _ hSa.1).mono ?_; rintro e w' ⟨rfl, hB'⟩; have hSb := rr_hold hSa.1 hSa.2.1 hB' (y.r : Int) 1 hwf HVV.out) | (refine (cSc _ hS0.1).mono ?_; rintro e w' ⟨rfl, hB'⟩; have hSa := rr_hold hS0.1 hS0.2.1 hB' (y.r : Int) 1 hwf HVV.out)))
              all_goals
                go_wp2_with fail
                go_roundw
                case rel => exact ⟨i2 + 1, hlt, by go_num, hSc.1, hSc.2.1⟩
                case measure => simp [intOf]; omega
          · have hi1 : ¬ (i2 : Int) < (obs.length : Int) := by omega
            have hlen := hMap.len 3
            obtain ⟨hTri, hd, htm⟩ := H.out.2.2
            have hov : ord.length = vis.length := same_length hTri.nod HV.out.1 fun z => (hTri.ordDry hd z).trans (HV.out.2.2 z).symm
            have cC := hGm.at_.count ord hTri.nod fun z => ⟨fun e => hTri.sub z ((hTri.ord z).2 e), fun e => (hTri.ord z).1 (hd z e)⟩
            rw [htm] at cC
            rw [← hov] at hlen
            have hnn : ((ord.length : Int) == (ord.length : Int)) = true := by simp
            have HM := Lib.hid hGm
            have HD := Lib.hid hd
            have HTM := Lib.hid htm
            have HTR := Lib.hid hTri
            clear hGm hMap hTri hd hov htm H
            go_wp2_with fail
            refine cC.mono ?_
            rintro e w8 ⟨rfl, hB8⟩
            have hG8 := HM.out.ask hB8
            have cT := hG8.trace HO.out.2.1 5
            rw [HTM.out] at cT
            have hbl := HW2.out.2
            clear cC hB8 hG8 HM
            go_wp2_with fail
            refine cT.mono ?_
            rintro e w9 ⟨k, T', c', l, rfl, hlk, hm', hG9, hk9, hsc, hkm, hkd⟩
            have hl0 := (hsc.dryNil HD.out).1
            subst hl0
            have hk0 : k = 0 := hlk.symm
            subst hk0
            have hfin := hbl.trans (hG9.below.mono hbl.size)
            clear cT hm' hG9 hk9 hsc hkm hkd hlk
            go_wp2_with fail
            go_ret
            exact ⟨rfl, hfin⟩
        · have cD := hGm.at_.drained false ⟨fun h => (by cases h), fun h => absurd h hd⟩
          rw [htm] at cD
          have H := Lib.hid (And.intro hGm (And.intro hMap (And.intro hTri (And.intro hd htm))))
          clear hGm hMap hTri hd htm
          go_wp2_with fail
          refine cD.mono ?_
          rintro e w7 ⟨rfl, hB7⟩
          have hG7 := H.out.1.ask hB7
          have hM7 := H.out.2.1.ask hB7
          have hR7 := HW2.out.1.turn (Turn.ofBelow hG7.below) (fun e => Nat.lt_irrefl _ (Nat.lt_of_lt_of_le HW2.out.1.lt e))
          have r7 := hR7.cell 1
          simp only [List.getElem?_toArray, List.getElem?_cons_zero, List.getElem?_cons_succ] at r7
          have cT := hG7.trace HO.out.2.1 (1 + (m1 : Int))
          rw [H.out.2.2.2.2] at cT
          have H7 := Lib.hid hM7
          clear cD hB7 hG7 hM7 hR7
          go_wp2_with fail
          refine cT.mono ?_
          rintro e w8 ⟨k, T', c', l, rfl, hlk, hm', hG8, hk8, hsc, hkm, hkd⟩
          have hM8 := H7.out.keep (hk8 rb rfl)
          have hTri8 := H.out.2.2.1.scans ptsAt_zero hsc
          have hord8 := HBD.out _ _ hTri8 hG8.inn
          rw [List.length_append, hlk] at hord8
          have hk1 : 1 ≤ k := by
            rcases Nat.eq_zero_or_pos k with e | e
            · exfalso
              subst e
              have hl0 := List.length_eq_zero_iff.1 hlk
              subst hl0
              have hdd := hkd (by omega)
              cases hsc
              exact H.out.2.2.2.1 hdd
            · exact e
          have hkI : ¬ (k : Int) = 0 := by omega
          have hkb : ((k : Int) == 0) = false := beq_eq_false_iff_ne.2 hkI
          have hsum : ¬ (obs.length : Int) < (ord.length : Int) + (k : Int) := by omega
          have hk40 : (k : Int) ≤ 40 := by omega
          have hk0 : (0 : Int) ≤ (k : Int) := by omega
          have hll := HLL.out
          have H8 := Lib.hid (And.intro hG8 (And.intro hM8 (And.intro hTri8 (And.intro hm' (And.intro hlk hord8)))))
          clear cT r7 hlk hm' hG8 hk8 hsc hkm hkd hM8 hTri8 hord8
          go_wp2_with fail
          go_roundw
          case rel =>
            obtain ⟨hG8, hM8, hTri8, hm', hlk, _⟩ := H8.out
            exact ⟨T', c', ord ++ l, by rw [List.length_append, hlk]; simp, hm', hG8, hM8, hTri8⟩
          case measure =>
            have := H8.out.2.2.2.2.2
            simp [intOf]; omega
theorem mreaches_frame (a0 : Option Addr) (zs : List Int) (cf : Nat) (e0 : Option Addr) (ne ce : Nat) (Q : Nat → Nat → Int) (a1 : Option Addr) (us : List Int) (cu : Nat) (r0 r1 : Nat) (hr0 : r0 < 256) (hr1 : r1 < 256) (w : World) (hl : us.length ≤ 9223372036854775807)
    (hF : BytesW w a0 zs) (hE : EdgesW w e0 ne Q) (hU : BytesW w a1 us) (hTb : TabAt w) (hT : TableAt w) :
    Calls Tryz.prog 3 #[.agg #[.slice a0 zs.length cf, .slice e0 ne ce], .slice a1 us.length cu, .agg #[.int .u8 (r0 : Int), .int .u8 (r1 : Int)]] w fun e w' => e = .returned (.bool true) ∧ Below w.heap.size w w' :=
  mreaches_true a0 zs cf e0 ne ce Q a1 us cu r0 r1 hr0 hr1 w hl hF hE hU ⟨hT, hTb⟩
end Go.Proofs.YtfcbpablponmeaaGreatDoor
