/- The fit of law 16; at this seat's numbers. -/
import Derived.Test.YtooddbhlanjfbaaGreatDoorEnB
import Derived.Test.YtooddbhlanjfbaaGreatDoorEnP
import Derived.Test.YtooddbhlanjfbaaGreatDoorCfZ
import Derived.Deep.RegionHeld3
namespace Go.Proofs.YtooddbhlanjfbaaGreatDoor
open Go Go.RowKit Go.Shelf Go.MuLone Go.RwLone
set_option linter.unusedSimpArgs false
set_option linter.unusedVariables false
attribute [local go_sem] Oper.semAt_some

theorem roots_any (a : Option Addr) (n c : Nat) (w : World) : Calls Tryz.prog 21 #[.slice a n c] w fun e w' => e = .returned (.func (.func 53) #[] #[.pointer (some ⟨w.heap.size, 0, none⟩)]) ∧ w.alloc (.cells #[.slice a n c] 33) = w' := by
  have hmf : ∀ (fn : Fn) (first cap : Array Value) (w : World), (Instr.makeFunc fn first cap).run Tryz.prog w = .ok (.func fn first cap) w := fun _ _ _ _ => rfl
  go_enter Tryz.func21, Tryz.ntmps21
  go_wp2_with fail
  go_ret
  exact ⟨rfl, rfl⟩
set_option maxRecDepth 100000 in
theorem nilIface_no (tk : TypeId) (v : Value) (w : World) : (binOp .eql 40 (.iface tk v) .nilIface).run Tryz.prog w = .ok (.bool false) w := by rfl
theorem u8_and3 {i : Nat} (h : i ≤ 3) : bits .and .u8 (i : Int) 3 = (i : Int) := by
  rcases (show i = 0 ∨ i = 1 ∨ i = 2 ∨ i = 3 by omega) with rfl | rfl | rfl | rfl <;> rfl
theorem cfg_room {g : Cfg} (h : g.may = true) : ∃ room m : Nat, g.l = (room : Int) ∧ room ≤ 64 ∧ g.m = (m : Int) ∧ 1 ≤ m ∧ m ≤ 64 := by
  unfold Cfg.may at h
  simp only [Bool.and_eq_true, inB_iff] at h
  exact ⟨g.l.toNat, g.m.toNat, by omega, by omega, by omega, by omega, by omega⟩
/-- One that points nowhere. -/
theorem fin_one {e : Nat} {P : Int → List Int} {l : List Int} {x : Int} {c3 : Col} (hx : x ≠ 0) (hP : ∀ z, P z = []) (hs : Scans P (remC e (if e = 2 then Col.white.shade x else (Col.white.shade x).shades [x]) EnS.none) l c3) (hd : c3.dry) :
    l.length = 1 ∧ c3.sc x = true ∧ ∀ z, z ≠ x → c3.ma z = false := by
  have h1 : Tri P [x] (Col.white.shade x) [] := (tri_whiteP P).shade hx
  have h2 := fin_tri h1 (fun z y hy => by rw [hP z] at hy; cases hy) (R := [x]) (fun y hy => by simp at hy; rw [hy]; exact hx) hs
  rw [List.nil_append] at h2
  have hr : ∀ z, Rch (rootsE e [x] [x]) P z → z = x := fun z h => by
    induction h with
    | root h1 h2 => unfold rootsE at h1; split at h1 <;> simpa using h1
    | step h1 h2 _ _ => rw [hP] at h2; cases h2
  have hrx : Rch (rootsE e [x] [x]) P x := .root (by unfold rootsE; split <;> simp) hx
  have hl : ∀ z ∈ l, z = x := fun z hz => hr z ((h2.ordDry hd z).1 hz)
  have hxl : x ∈ l := (h2.ordDry hd x).2 hrx
  refine ⟨?_, (h2.ord x).2 hxl, fun z hz => ?_⟩
  · match l, hl, hxl, h2.nod with
    | [], _, h, _ => cases h
    | [_], _, _, _ => rfl
    | a :: b :: l, h, _, hn =>
      have e1 := h a (by simp)
      have e2 := h b (by simp)
      rw [e1, e2] at hn
      simp at hn
  · cases h : c3.ma z with
    | false => rfl
    | true => exact absurd (hr z ((h2.dry hd z).1 h)) hz
set_option maxRecDepth 100000 in
set_option maxHeartbeats 8000000 in
theorem enfit_true (w : World) (hT : Tabs w) : Calls Tryz.prog 8 #[] w fun e w' => e = .returned (.bool true) ∧ Below w.heap.size w w' := by
  have hB0 := (Below.refl w.heap.size w).alloc (Nat.le_refl _) (.cells #[.int .u8 1, .int .u8 1] 5)
  have hb := Blk.new w #[.int .u8 1, .int .u8 1] 5
  have hF : BytesW (w.alloc (.cells #[.int .u8 1, .int .u8 1] 5)) (some ⟨w.heap.size, 0, none⟩) [1, 1] := fun k hk => by
    have hk2 : k = 0 ∨ k = 1 := by simp at hk; omega
    rcases hk2 with rfl | rfl
    · exact ⟨w.heap.size, 0, rfl, by simp, hb.cell 0, by decide⟩
    · exact ⟨w.heap.size, 0, rfl, by simp, hb.cell 1, by decide⟩
  have hT1 := hT.below hB0
  have cM := made_any (some ⟨w.heap.size, 0, none⟩) [1, 1] 2 none 0 0 (fun _ _ => 0) _ (by decide) (by omega) hF (fun k hk => absurd hk (Nat.not_lt_zero _)) hT1.c
  have HT := Lib.hid (And.intro hT1.b hB0)
  clear hF hT1 hT hB0 hb
  go_enter Tryz.func8, Tryz.ntmps8
  go_wp2_with fail
  generalize w.alloc (.cells #[.int .u8 1, .int .u8 1] 5) = w1 at *
  refine cM.mono ?_
  rintro e w2 hMP
  obtain ⟨X, s, obs, vl, mb, n, f, rfl, hMO⟩ := hMP.ok HT.out.1
  have hol : obs.length = 2 := hMO.len
  obtain ⟨x, y, rfl⟩ : ∃ x y, obs = [x, y] := by
    match obs, hol with
    | [x, y], _ => exact ⟨x, y, rfl⟩
  have hlen := hMO.go.row.lenRun 3
  rw [refsI_length] at hlen
  have hl2 : ((([x, y] : List Ob).length : Nat) : Int) = 2 := rfl
  rw [hl2] at hlen
  have HO := Lib.hid hMO
  have hGo := hMO.go
  rcases hGo.row.is with ⟨_, e⟩ | ⟨g, cap, cur, hv, hg, hlc, hcm, hcs, hcell⟩
  · simp [refsI] at e
  have hv2 : vl = .slice (some ⟨g, 0, none⟩) 2 cap := hv
  subst hv2
  have hlcI : (2 : Int) ≤ (cap : Int) := by have : (refsI [x, y]).length = 2 := rfl; omega
  have hcmI : (cap : Int) ≤ 9223372036854775807 := by omega
  have hR0 : (refsI [x, y])[0]? = some (x.r : Int) := rfl
  have hR1 : (refsI [x, y])[1]? = some (y.r : Int) := rfl
  have hxR : (x.r : Int) ∈ refsI [x, y] := by simp [refsI]
  have hxb := hMO.bd _ hxR
  have hne : (y.r : Int) ≠ (x.r : Int) := fun e => by
    have := hMO.nd
    simp [refsI] at this
    omega
  have hz := hMO.zero rfl
  have hP : ∀ u, ptsAt [x, y] u = [] := fun u => by
    have h9 : ∀ z ∈ [x, y], pts z = [] := fun z hz9 => by
      unfold pts
      have : elems (nz z.F) z.k = [] := by
        apply List.eq_nil_iff_forall_not_mem.2
        intro j hj
        have h8 := (List.mem_filter.1 hj).2
        have h7 := hz z hz9 j
        unfold nz at h8; rw [h7] at h8; cases h8
      rw [this]; rfl
    by_cases e1 : (x.r : Int) = u
    · rw [← e1, ptsAt_mem hMO.go.ob (by simp)]; exact h9 x (by simp)
    · by_cases e2 : (y.r : Int) = u
      · rw [← e2, ptsAt_mem hMO.go.ob (by simp)]; exact h9 y (by simp)
      · exact ptsAt_no fun z hz => by
          simp at hz
          rcases hz with rfl | rfl
          · exact e1
          · exact e2
  have HX := Lib.hid (And.intro hxR (And.intro hxb (And.intro hne hP)))
  clear hMO hMP cM hol hl2 hv hg hlc hcm hcs hcell hxR hxb hne hz hP
  go_wp2_with fail
  clear hlen
  go_loopw [17] (fun v17 W => ∃ i : Nat, i ≤ 4 ∧ v17 = .int .i64 (i : Int) ∧ GoIn w1.heap.size mb n X s [x, y] (.slice (some ⟨g, 0, none⟩) 2 cap) f (ptsAt [x, y]) w1 W) (fun v17 _ => 4 - (intOf v17).toNat)
  case atStart => exact ⟨0, Nat.zero_le _, rfl, hGo⟩
  case round =>
  clear hGo
  obtain ⟨i, hi, rfl, h1⟩ := hrel
  have hi0 : (0 : Int) ≤ (i : Int) := by omega
  by_cases hlt : i < 4
  · have hi1 : (i : Int) < 4 := by omega
    have hi3 : i ≤ 3 := by omega
    have hwi : IntKind.u8.wrap (i : Int) = (i : Int) := by simp [IntKind.wrap, IntKind.bits, IntKind.signed]; omega
    have cN := gm_new (E := fun _ => False) h1 HO.out.P 2 (fun _ h => h.elim) (by omega) HO.out.tab HO.out.tab.lt
    clear h1
    go_wp2_with fail
    refine cN.mono ?_
    rintro e w3 ⟨T, rfl, hGm, hB3⟩
    obtain ⟨tm, htm⟩ : ∃ tm, T.m = tm := ⟨_, rfl⟩
    rw [htm]
    have cC := cfMade_any i 0 0 0 1 0 (by omega) w3
    have HG := Lib.hid (And.intro hGm htm)
    clear cN hB3 hGm htm
    go_wp2_with fail
    refine cC.mono ?_
    rintro e w4 ⟨gc, rfl, hmay, hB4, hbe⟩
    rw [u8_and3 hi3] at hbe
    obtain ⟨room, m, hgl, hr64, hgm, hm1, hm64⟩ := cfg_room hmay
    have h4 := HG.out.1.ask hB4
    have cE := en_new (e := i) (room := room) h4 HG.out.2 gc hbe.symm hi3 hgl (by omega)
    clear cC hmay hB4 hbe hgl hr64 hgm hm1 hm64 h4
    go_wp2_with fail
    refine cE.mono ?_
    rintro e w5 ⟨bt, H, rfl, h5, _⟩
    obtain ⟨q, hq⟩ : ∃ q, decide (i ≠ 2) = q := ⟨_, rfl⟩
    have cR := h5.rescans hi3 q hq
    have hM1 := enM_rescans i hi3 ⟨bt, 0, none⟩
    have hc1 := callE_rescans i hi3
    have hqI : ((i : Int) != 2) = q := by rw [← hq, Bool.eq_iff_iff]; simp; omega
    have hqe : (q == q) = true := by cases q <;> rfl
    have hqx : (!q == q) = false := by cases q <;> rfl
    have hqy : (q != q) = false := by cases q <;> rfl
    have hnil := nilIface_no
    unfold enV
    obtain ⟨tk, hTk⟩ : ∃ tk, enT i = tk := ⟨_, rfl⟩
    rw [hTk] at hM1
    obtain ⟨f1, hf1⟩ : ∃ f1, enRescans i = f1 := ⟨_, rfl⟩
    rw [hf1] at hM1 hc1 cR
    rw [hTk]
    have H5 := Lib.hid (And.intro h5 hTk)
    clear cE h5 hTk hf1 hq
    go_wp2_with fail
    refine cR.mono ?_
    rintro e w' ⟨rfl, rfl⟩
    clear cR
    have cS := H5.out.1.gm.shade (x.r : Int) HX.out.1 HX.out.2.1.1 HX.out.2.1.2
    rw [H5.out.1.tm] at cS
    have hx5 := row_cellB H5.out.1.gm.go.row hR0
    go_wp2_with fail
    refine cS.mono ?_
    rintro e w6 ⟨rfl, T6, hm6, hG6, hk6⟩
    obtain ⟨h6, _⟩ := H5.out.1.went hm6 hG6 hk6
    have cRt := roots_any (some ⟨g, 0, none⟩) 1 cap w6
    have H6 := Lib.hid h6
    clear cS hm6 hG6 hk6 h6 hx5 hqI hqe hqx hqy hM1 hc1
    go_wp2_with fail
    refine cRt.mono ?_
    rintro e w7 ⟨rfl, rfl⟩
    have h7 := H6.out.box (.cells #[.slice (some ⟨g, 0, none⟩) 1 cap] 33)
    have hrow : RefRow w6 (.slice (some ⟨g, 0, none⟩) 1 cap) [(x.r : Int)] := RefRow.less (q := [(x.r : Int)]) (y := (y.r : Int)) H6.out.gm.go.row
    have hrow7 := hrow.keepG (w' := w6.alloc (.cells #[.slice (some ⟨g, 0, none⟩) 1 cap] 33)) (fun k e => ((Below.refl _ w6).alloc (Nat.le_refl _) _).block k (hrow.lt e))
    have hbx7 : (w6.alloc (.cells #[.slice (some ⟨g, 0, none⟩) 1 cap] 33)).cell? ⟨w6.heap.size, 0, none⟩ = some (.slice (some ⟨g, 0, none⟩) 1 cap) := (Blk.new w6 _ _).cell 0
    have cF := en_finish h7 hi3 HO.out.cl (by simp) [(x.r : Int)] hrow7 hbx7 (.inr rfl) (fun k e => .inr (.inr (.inl e))) (fun z hz => by simp at hz; rw [hz]; exact HX.out.1)
    unfold enV at cF
    rw [H5.out.2] at cF
    clear cRt h7 hrow hrow7 hbx7
    go_wp2_with fail
    generalize w6.alloc (.cells #[.slice (some ⟨g, 0, none⟩) 1 cap] 33) = w8 at *
    refine cF.mono ?_
    rintro e w9 ⟨T9, H9, l, c3, rfl, hsc, hdry, h9, _⟩
    obtain ⟨hl1, hscx, hmo⟩ := fin_one (x := (x.r : Int)) (by have := HX.out.2.1; omega) HX.out.2.2.2 hsc hdry
    rw [hl1]
    have cM1 := h9.mkr.at_.scanned (x.r : Int)
    rw [h9.tm, hscx] at cM1
    have hx9 := row_cellB h9.gm.go.row hR0
    have H9' := Lib.hid (And.intro h9 hmo)
    clear cF hsc hdry h9 hmo hl1 hscx
    go_wp2_with fail
    refine cM1.mono ?_
    rintro e w10 ⟨rfl, hB10⟩
    have h10 := H9'.out.1.ask hB10
    have cM2 := h10.mkr.at_.marked (y.r : Int)
    rw [h10.tm, H9'.out.2 _ HX.out.2.2.1] at cM2
    have hy10 := row_cellB h10.gm.go.row hR1
    have H10 := Lib.hid h10
    clear cM1 hB10 h10 hx9
    go_wp2_with fail
    refine cM2.mono ?_
    rintro e w11 ⟨rfl, hB11⟩
    have H11 := Lib.hid (H10.out.ask hB11).gm.go
    clear cM2 hB11 hy10
    go_wp2_with fail
    go_roundw
    case rel => exact ⟨i + 1, hlt, by go_num, H11.out⟩
    case measure => simp [intOf]; omega
  · have hi1 : ¬ (i : Int) < 4 := by omega
    have HF := Lib.hid (HT.out.2.trans (h1.ar.below.mono HT.out.2.size))
    clear hlt h1 hi
    go_wp2_with fail
    go_ret
    exact ⟨rfl, HF.out⟩
end Go.Proofs.YtooddbhlanjfbaaGreatDoor
