/- EngineKeeps, walked; at this seat's numbers. -/
import Derived.Test.YtooddbhlanjfbaaGreatDoorEnL
import Derived.Test.YtooddbhlanjfbaaGreatDoorEnK
import Derived.Test.YtooddbhlanjfbaaGreatDoorEnO
import Derived.Test.YtooddbhlanjfbaaGreatDoorEnE
import Derived.Maps.RangeWalk
namespace Go.Proofs.YtooddbhlanjfbaaGreatDoor
open Go Go.RowKit Go.Shelf Go.MuLone Go.RwLone
set_option linter.unusedSimpArgs false
set_option linter.unusedVariables false
attribute [local go_sem] Oper.semAt_some

theorem ordL_mem {vis : List Int} {S : Nat → Bool} {N : Nat} (h : ∀ z ∈ vis, ∃ j : Nat, z = (j : Int) ∧ S j = true ∧ j < N) (z : Int) : z ∈ ordL (visF vis) (elems S N) ↔ z ∈ vis := by
  unfold ordL
  rw [List.mem_filter]
  constructor
  · rintro ⟨_, h2⟩
    have h3 : 0 < visF vis z := of_decide_eq_true h2
    unfold visF at h3
    by_cases e : z ∈ vis
    · exact e
    · rw [if_neg e] at h3; omega
  · intro hz
    obtain ⟨j, rfl, h2, h3⟩ := h z hz
    refine ⟨List.mem_map.2 ⟨j, ?_, rfl⟩, decide_eq_true ?_⟩
    · unfold elems; exact List.mem_filter.2 ⟨List.mem_range.2 h3, h2⟩
    · show 0 < visF vis (j : Int)
      unfold visF; rw [if_pos hz]; omega
theorem postS_cnt {e P : Nat} {σ : EnS} {x o y : Int} {p : Bool} {z : Int} (h : 0 < (postS e P σ x o y p).cnt z) : 0 < σ.cnt z ∨ (z = y ∧ y ≠ 0) := by
  unfold postS at h
  split at h
  · exact .inl h
  · exact .inl h
  · exact .inl h
  · have h : 0 < vyPost σ.cnt p y o z := h
    unfold vyPost at h
    split at h
    · have h2 : 0 < vyUp σ.cnt y z := by
        by_cases e : z = o
        · rw [← e] at h
          by_cases e0 : z = 0
          · rw [e0, vyDown_zero] at h; rw [e0]; exact h
          · rw [vyDown_at e0] at h
            split at h <;> omega
        · rw [vyDown_ne e] at h; exact h
      by_cases e : z = y
      · by_cases e0 : y = 0
        · rw [e0, vyUp_zero] at h2; exact .inl h2
        · exact .inr ⟨e, e0⟩
      · rw [vyUp_ne e] at h2; exact .inl h2
    · exact .inl h
theorem Kp.reach {e : Nat} {A : Int → Prop} {obs : List Ob} {c : Col} {σ : EnS} {own : List Int} (h : Kp e A obs c σ) (hA : ∀ x ∈ own, A x) {z : Int} (hz : Rch own (ptsAt obs) z) : A z := by
  induction hz with
  | root h1 _ => exact hA _ h1
  | step _ h2 _ ih => exact h.cl _ ih _ h2
theorem Closed.setV {obs : List Ob} (h : Closed obs) {i t : Nat} {x : Ob} (hx : obs[i]? = some x) {v : Int} (hv : v = 0 ∨ v ∈ refsI obs) : Closed (obs.set i { x with F := Go.Proofs.YtooddbhlanjfbaaGreatDoor.upd x.F t v }) := by
  intro z hz j hj
  have out : ∀ {u : Int}, (u = 0 ∨ ∃ y ∈ obs, u = (y.r : Int)) → u = 0 ∨ ∃ y' ∈ obs.set i { x with F := Go.Proofs.YtooddbhlanjfbaaGreatDoor.upd x.F t v }, u = (y'.r : Int) := by
    rintro u (e | ⟨y', hy', e⟩)
    · exact .inl e
    · obtain ⟨z', hz', e2⟩ := mem_set_same (y := { x with F := Go.Proofs.YtooddbhlanjfbaaGreatDoor.upd x.F t v }) hx rfl hy'
      exact .inr ⟨z', hz', by rw [e, e2]⟩
  obtain ⟨k, hk⟩ := List.mem_iff_getElem?.1 hz
  by_cases e : i = k
  · subst e
    rw [set_same hx] at hk
    cases hk
    refine out (u := Go.Proofs.YtooddbhlanjfbaaGreatDoor.upd x.F t v j) ?_
    by_cases e2 : j = t
    · have e3 : Go.Proofs.YtooddbhlanjfbaaGreatDoor.upd x.F t v j = v := by unfold Go.Proofs.YtooddbhlanjfbaaGreatDoor.upd; rw [if_pos e2]
      rw [e3]
      rcases hv with hv | hv
      · exact .inl hv
      · obtain ⟨y, hy, hv⟩ := List.mem_map.1 hv
        exact .inr ⟨y, hy, hv.symm⟩
    · have e3 : Go.Proofs.YtooddbhlanjfbaaGreatDoor.upd x.F t v j = x.F j := by unfold Go.Proofs.YtooddbhlanjfbaaGreatDoor.upd; rw [if_neg e2]
      rw [e3]; exact h x (List.mem_of_getElem? hx) j hj
  · rw [set_other e] at hk
    exact out (h z (List.mem_of_getElem? hk) j hj)
/-- Between two steps. -/
structure EkS (ee B mb n xa : Nat) (R0 : List Int) (vl : Value) (f : Int → Value) (adj : Int → List Int) (rb : Nat) (vis : List Int) (bt tm room : Nat) (w4 : World) (i : Nat) (X : ArB) (s : ArS) (obs : List Ob) (T : MkB) (c : Col) (H : Nat → Prop) (σ : EnS) (W : World) : Prop where
  xa : X.a = xa
  en : EnIn ee B mb n X s obs vl f adj (fun k => k = rb) T c H bt tm room σ w4 W
  kp : Kp ee (fun z => z ∈ vis) obs c σ
  rf : refsI obs = R0
  cl : Closed obs
  fu : Full s obs
  P : s.P = 64
  lg : σ.lg ≤ i
  ca : ∀ z, 0 < σ.cnt z → z ∈ vis
  mp : MapIn W rb vis.length (visF vis) (visK vis) vis.length
  fr : ¬ X.has rb
theorem EkS.ask {ee B mb n xa rb bt tm room i : Nat} {R0 vis : List Int} {vl : Value} {f : Int → Value} {adj : Int → List Int} {w4 W W' : World} {X : ArB} {s : ArS} {obs : List Ob} {T : MkB} {c : Col} {H : Nat → Prop} {σ : EnS} (h : EkS ee B mb n xa R0 vl f adj rb vis bt tm room w4 i X s obs T c H σ W) (hB : Below W.heap.size W W') : EkS ee B mb n xa R0 vl f adj rb vis bt tm room w4 i X s obs T c H σ W' :=
  ⟨h.xa, h.en.ask hB, h.kp, h.rf, h.cl, h.fu, h.P, h.lg, h.ca, h.mp.ask hB, h.fr⟩
theorem EkS.up {ee B mb n xa rb bt tm room i : Nat} {R0 vis : List Int} {vl : Value} {f : Int → Value} {adj : Int → List Int} {w4 W : World} {X : ArB} {s : ArS} {obs : List Ob} {T : MkB} {c : Col} {H : Nat → Prop} {σ : EnS} (h : EkS ee B mb n xa R0 vl f adj rb vis bt tm room w4 i X s obs T c H σ W) : EkS ee B mb n xa R0 vl f adj rb vis bt tm room w4 (i + 1) X s obs T c H σ W :=
  ⟨h.xa, h.en, h.kp, h.rf, h.cl, h.fu, h.P, Nat.le_succ_of_le h.lg, h.ca, h.mp, h.fr⟩
theorem Objs.word {s : ArS} {obs : List Ob} (ho : Objs s obs) (hF : Fits s) {z : Int} (hz : z ∈ refsI obs) : ∃ j : Nat, z = (j : Int) ∧ s.S j = true ∧ j < 32 * s.P + 1 := by
  obtain ⟨x, hx, rfl⟩ := List.mem_map.1 hz
  obtain ⟨i, hi⟩ := List.mem_iff_getElem?.1 hx
  have h1 := ho.at_ i x hi
  exact ⟨x.r, rfl, h1.S, by have := h1.pos hF; omega⟩
theorem refs_at {obs : List Ob} {z : Int} (hz : z ∈ refsI obs) : ∃ (i : Nat) (x : Ob), obs[i]? = some x ∧ (x.r : Int) = z := by
  obtain ⟨x, hx, rfl⟩ := List.mem_map.1 hz
  obtain ⟨i, hi⟩ := List.mem_iff_getElem?.1 hx
  exact ⟨i, x, hi, rfl⟩
set_option maxRecDepth 100000 in
set_option maxHeartbeats 16000000 in
theorem ekeeps_true (b0 b1 b2 b3 b4 b5 : Nat) (hb6 : b0 ≤ 255 ∧ b1 ≤ 255 ∧ b2 ≤ 255 ∧ b3 ≤ 255 ∧ b4 ≤ 255 ∧ b5 ≤ 255) (a0 : Option Addr) (zs : List Int) (cf : Nat) (e0 : Option Addr) (ne ce : Nat) (Q : Nat → Nat → Int) (a1 : Option Addr) (n1 c1 : Nat) (Q1 : Nat → Nat → Int) (w : World)
    (hF : BytesW w a0 zs) (hE : EdgesW w e0 ne Q) (hP : FoursW w a1 n1 Q1) (hT : Tabs w) :
    Calls Tryz.prog 3 #[.agg #[.int .u8 (b0 : Int), .int .u8 (b1 : Int), .int .u8 (b2 : Int), .int .u8 (b3 : Int), .int .u8 (b4 : Int), .int .u8 (b5 : Int)], .agg #[.slice a0 zs.length cf, .slice e0 ne ce], .slice a1 n1 c1] w fun e w' => e = .returned (.bool true) ∧ Below w.heap.size w w' := by
  have HA := Lib.hid (And.intro hF (And.intro hE hP))
  clear hF hE hP
  go_enter Tryz.func3, Tryz.ntmps3
  go_wp2_with fail
  have hX := (Blk.new w #[.int .u8 (b0 : Int), .int .u8 (b1 : Int), .int .u8 (b2 : Int), .int .u8 (b3 : Int), .int .u8 (b4 : Int), .int .u8 (b5 : Int)] 22).alloc (.cells #[.slice a0 zs.length cf, .slice e0 ne ce] 26)
  have hG := Blk.new (w.alloc (.cells #[.int .u8 (b0 : Int), .int .u8 (b1 : Int), .int .u8 (b2 : Int), .int .u8 (b3 : Int), .int .u8 (b4 : Int), .int .u8 (b5 : Int)] 22)) #[.slice a0 zs.length cf, .slice e0 ne ce] 26
  simp only [World.size_alloc] at hG
  have hB0 := ((Below.refl w.heap.size w).alloc (Nat.le_refl _) (.cells #[.int .u8 (b0 : Int), .int .u8 (b1 : Int), .int .u8 (b2 : Int), .int .u8 (b3 : Int), .int .u8 (b4 : Int), .int .u8 (b5 : Int)] 22)).alloc (by simp) (.cells #[.slice a0 zs.length cf, .slice e0 ne ce] 26)
  have hT0 := hT.below hB0
  generalize (w.alloc (.cells #[.int .u8 (b0 : Int), .int .u8 (b1 : Int), .int .u8 (b2 : Int), .int .u8 (b3 : Int), .int .u8 (b4 : Int), .int .u8 (b5 : Int)] 22)).alloc (.cells #[.slice a0 zs.length cf, .slice e0 ne ce] 26) = W0 at *
  refine (enfit_true W0 hT0).mono ?_
  rintro e w1 ⟨rfl, hB1⟩
  have hG1 := hG.turn (Turn.ofBelow hB1) (fun e => Nat.lt_irrefl _ (Nat.lt_of_lt_of_le hG.lt e))
  have hX1 := hX.turn (Turn.ofBelow hB1) (fun e => Nat.lt_irrefl _ (Nat.lt_of_lt_of_le hX.lt e))
  have hB01 := hB0.trans (hB1.mono hB0.size)
  have g0 := hG1.cell 0
  have g1 := hG1.cell 1
  simp only [List.getElem?_toArray, List.getElem?_cons_zero, List.getElem?_cons_succ] at g0 g1
  obtain ⟨q, hq⟩ : ∃ q, (decide (zs.length ≤ 40) && decide (ne ≤ 120)) = q := ⟨_, rfl⟩
  have cS := small_any a0 zs.length cf e0 ne ce w1 q hq
  have HW1 := Lib.hid (And.intro hG1 (And.intro hX1 (And.intro hB01 (hT.below hB01))))
  clear hB0 hB1 hG hX hT0 hG1 hX1 hT hB01
  go_wp2_with fail
  refine cS.mono ?_
  rintro e w2 ⟨rfl, hB2⟩
  have hB02 := HW1.out.2.2.1.trans (hB2.mono HW1.out.2.2.1.size)
  clear cS g0 g1
  by_cases hsm : zs.length ≤ 40 ∧ ne ≤ 120 ∧ n1 ≤ 80
  case neg =>
    cases q with
    | false =>
      clear hsm hq
      go_wp2_with fail
      go_ret
      exact ⟨rfl, hB02⟩
    | true =>
      have h20 : 80 < (n1 : Int) := by
        have h1 : zs.length ≤ 40 := by simpa using (Bool.and_eq_true_iff.1 hq).1
        have h2 : ne ≤ 120 := by simpa using (Bool.and_eq_true_iff.1 hq).2
        have : ¬ n1 ≤ 80 := fun h3 => hsm ⟨h1, h2, h3⟩
        omega
      clear hsm hq
      go_wp2_with fail
      go_ret
      exact ⟨rfl, hB02⟩
  case pos =>
  obtain ⟨h40, h120, hn60⟩ := hsm
  have hqt : q = true := by rw [← hq, decide_eq_true h40, decide_eq_true h120]; rfl
  subst hqt
  have hn60I : ¬ 80 < (n1 : Int) := by omega
  have hX2 := HW1.out.2.1.turn (Turn.ofBelow hB2) (fun e => Nat.lt_irrefl _ (Nat.lt_of_lt_of_le HW1.out.2.1.lt e))
  have hG2 := HW1.out.1.turn (Turn.ofBelow hB2) (fun e => Nat.lt_irrefl _ (Nat.lt_of_lt_of_le HW1.out.1.lt e))
  have x0 := hX2.cell 0
  have x1 := hX2.cell 1
  have x2 := hX2.cell 2
  have x3 := hX2.cell 3
  have x4 := hX2.cell 4
  have x5 := hX2.cell 5
  simp only [List.getElem?_toArray, List.getElem?_cons_zero, List.getElem?_cons_succ] at x0 x1 x2 x3 x4 x5
  have cC := cfMade_any b0 b1 b2 b3 b4 b5 hb6 w2
  have HW2 := Lib.hid (And.intro hB02 (And.intro hX2 (And.intro hG2 (HW1.out.2.2.2.below hB2))))
  have H40 := Lib.hid (And.intro h40 (And.intro h120 hn60))
  clear hG2 hX2 hB02 hB2 HW1 hq h40 h120 hn60
  go_wp2_with fail
  refine cC.mono ?_
  rintro e w3 ⟨gc, rfl, hmay, hB3, _⟩
  have hCf := Blk.new w3 gc.arr 30
  have hB34 := (Below.refl w3.heap.size w3).alloc (Nat.le_refl _) (.cells gc.arr 30)
  have hB24 := hB3.trans (hB34.mono hB3.size)
  have hB04 := HW2.out.1.trans (hB24.mono HW2.out.1.size)
  have hX4 := HW2.out.2.1.turn (Turn.ofBelow hB24) (fun e => Nat.lt_irrefl _ (Nat.lt_of_lt_of_le HW2.out.2.1.lt e))
  have hG4 := HW2.out.2.2.1.turn (Turn.ofBelow hB24) (fun e => Nat.lt_irrefl _ (Nat.lt_of_lt_of_le HW2.out.2.2.1.lt e))
  have hT4 := HW2.out.2.2.2.below hB24
  have g0 := hG4.cell 0
  have g1 := hG4.cell 1
  simp only [List.getElem?_toArray, List.getElem?_cons_zero, List.getElem?_cons_succ] at g0 g1
  have cM := made_any a0 zs cf e0 ne ce Q (w3.alloc (.cells gc.arr 30)) H40.out.1 H40.out.2.1 (HA.out.1.under hB04 (Nat.le_refl _)) (HA.out.2.1.under hB04 (Nat.le_refl _)) hT4.c
  have HW4 := Lib.hid (And.intro hB04 (And.intro hX4 (And.intro hCf hT4.b)))
  have HMAY := Lib.hid hmay
  clear cC x0 x1 x2 x3 x4 x5 hmay hB3 hCf hB34 hB24 hB04 hX4 hG4 hT4
  go_wp2_with fail
  have HW4b := HW4.out
  clear HW4
  obtain ⟨w4, hw4⟩ : ∃ w4, w4 = w3.alloc (.cells gc.arr 30) := ⟨_, rfl⟩
  obtain ⟨cb, hcb⟩ : ∃ cb, cb = w3.heap.size := ⟨_, rfl⟩
  rw [← hw4] at cM HW4b g0 g1 ⊢
  rw [← hcb] at HW4b ⊢
  have HW4 := Lib.hid HW4b
  clear hw4 hcb HW4b
  refine cM.mono ?_
  rintro e w5 hMP
  obtain ⟨X, s, obs, vl, mb, n, f, rfl, hMO⟩ := hMP.ok HW4.out.2.2.2
  obtain ⟨L, hL⟩ : ∃ L, L = obs.length := ⟨_, rfl⟩
  have hLI : (L : Int) ≤ 40 := by have := hMO.len; have := H40.out.1; omega
  have hl6 := hMO.go.row.lenRun 3
  rw [refsI_length, ← hL] at hl6
  have HO := Lib.hid hMO
  have HL := Lib.hid hL
  by_cases hn0 : L = 0
  · have hLz : ((L : Int) == 0) = true := by simp; omega
    have HF := Lib.hid (HW4.out.1.trans (hMO.go.ar.below.mono HW4.out.1.size))
    clear hMO hMP cM g0 g1 hL hn0
    go_wp2_with fail
    go_ret
    exact ⟨rfl, HF.out⟩
  have hLz : ((L : Int) == 0) = false := by simp; omega
  have hL0 : 0 < L := by omega
  rcases hMO.go.row.is with ⟨_, e⟩ | ⟨g, cap, cur, hv, hg, hlc, hcm, hcs, hcell⟩
  · have := congrArg List.length e; rw [refsI_length, ← hL] at this; simp at this; omega
  rw [refsI_length, ← hL] at hv
  subst hv
  have hRL : (refsI obs).length = L := by rw [refsI_length, ← hL]
  obtain ⟨room, m, hgl, hr64, hgm, hm1, hm64⟩ := cfg_room HMAY.out
  obtain ⟨ee, hge, hee⟩ : ∃ ee : Nat, gc.e = (ee : Int) ∧ ee ≤ 3 := by
    have h9 := HMAY.out
    unfold Cfg.may at h9
    simp only [Bool.and_eq_true, inB_iff] at h9
    exact ⟨gc.e.toNat, by omega, by omega⟩
  have hC5 := HW4.out.2.2.1.turn (Turn.ofBelow hMO.go.ar.below) (fun e => Nat.lt_irrefl _ (Nat.lt_of_lt_of_le HW4.out.2.2.1.lt e))
  have c8 : w5.cell? ⟨cb, 8, none⟩ = some (.int .i64 gc.m) := hC5.cell 8
  rw [hgm] at c8
  have cN := gm_new (E := fun _ => False) hMO.go hMO.P (m : Int) (fun _ h => h.elim) (by omega) hMO.tab hMO.tab.lt
  have HC := Lib.hid (And.intro hC5 (And.intro hgl (And.intro hr64 (And.intro hge hee))))
  obtain ⟨im, hm5, him, hw5⟩ := mod_run (L := L) hL0 (show b5 < 256 by omega)
  obtain ⟨kk, hkk⟩ : ∃ kk : Nat, kk = 1 + im := ⟨_, rfl⟩
  have hin : ¬ (L : Int) = 0 := by omega
  have hkL : kk ≤ L := by omega
  have hkLI : (kk : Int) ≤ (L : Int) := by omega
  have hkcI : (kk : Int) ≤ (cap : Int) := by omega
  have hlcI : (L : Int) ≤ (cap : Int) := by omega
  have hcmI : (cap : Int) ≤ 9223372036854775807 := by omega
  have hk0 : (0 : Int) ≤ (kk : Int) := by omega
  have hX5 := HW4.out.2.1.turn (Turn.ofBelow hMO.go.ar.below) (fun e => Nat.lt_irrefl _ (Nat.lt_of_lt_of_le HW4.out.2.1.lt e))
  have x5 := hX5.cell 5
  simp only [List.getElem?_toArray, List.getElem?_cons_zero, List.getElem?_cons_succ] at x5
  have hLk : (refsI obs).length = kk + (L - kk) := by omega
  have hrow : ∀ W, RefRow W (.slice (some ⟨g, 0, none⟩) L cap) (refsI obs) → RefRow W (.slice (some ⟨g, 0, none⟩) kk cap) ((refsI obs).take kk) := fun W h => by
    have h9 : RefRow W (.slice (some ⟨g, 0, none⟩) (refsI obs).length cap) (refsI obs) := by rw [hRL]; exact h
    exact RefRow.takes _ _ _ hLk h9
  have htl : ((refsI obs).take kk).length = kk := by rw [List.length_take]; omega
  have HK := Lib.hid (And.intro hrow (And.intro htl (And.intro hkL (And.intro hRL (show 0 < kk by omega)))))
  have hsum := wrapK hkk (show im < 1000 by omega)
  clear hMO hMP cM g0 g1 hL hn0 hC5 hgl hr64 hgm hm1 hm64 hge hee hg hlc hcm hcs hcell hkk hX5 hLk hrow htl hkL him hRL
  go_wp2_with fail
  clear hl6 x5 hm5 hw5 hsum
  refine cN.mono ?_
  rintro e w6 ⟨T, rfl, hGm, hB6⟩
  obtain ⟨tm, htm⟩ : ∃ tm, T.m = tm := ⟨_, rfl⟩
  rw [htm]
  have hC6 := HC.out.1.turn (Turn.ofBelow hB6) (fun e => Nat.lt_irrefl _ (Nat.lt_of_lt_of_le HC.out.1.lt e))
  have k0 : w6.cell? ⟨cb, 0, none⟩ = some (.int .i64 gc.e) := hC6.cell 0
  have k1 : w6.cell? ⟨cb, 1, none⟩ = some (.bool gc.k) := hC6.cell 1
  have k2 : w6.cell? ⟨cb, 2, none⟩ = some (.int .i64 gc.p) := hC6.cell 2
  have k3 : w6.cell? ⟨cb, 3, none⟩ = some (.int .i64 gc.t) := hC6.cell 3
  have k4 : w6.cell? ⟨cb, 4, none⟩ = some (.int .i64 gc.r) := hC6.cell 4
  have k5 : w6.cell? ⟨cb, 5, none⟩ = some (.int .i64 gc.s) := hC6.cell 5
  have k6 : w6.cell? ⟨cb, 6, none⟩ = some (.int .i64 gc.g) := hC6.cell 6
  have k7 : w6.cell? ⟨cb, 7, none⟩ = some (.int .i64 gc.f) := hC6.cell 7
  have k8 : w6.cell? ⟨cb, 8, none⟩ = some (.int .i64 gc.m) := hC6.cell 8
  have k9 : w6.cell? ⟨cb, 9, none⟩ = some (.int .i64 gc.l) := hC6.cell 9
  have k10 : w6.cell? ⟨cb, 10, none⟩ = some (.int .i64 gc.b) := hC6.cell 10
  have cE := en_new (e := ee) (room := room) hGm htm gc HC.out.2.2.2.1 HC.out.2.2.2.2 HC.out.2.1 (by have := HC.out.2.2.1; omega)
  clear cN hB6 hGm htm hC6 c8
  go_wp2_with fail
  refine cE.mono ?_
  rintro e w7 ⟨bt, H, rfl, h7, _⟩
  have hee := HC.out.2.2.2.2
  have cLd := leads_any h7.gm.go HO.out.full HO.out.cl (by have := HO.out.P; omega) (by have := HL.out; omega) (HW4.out.2.2.2.below h7.gm.below) (HK.out.1 _ h7.gm.go.row) (fun x hx => List.mem_of_mem_take hx) (by have := HK.out.2.1; have := HK.out.2.2.1; omega)
  obtain ⟨R0, hR0⟩ : ∃ R0, R0 = refsI obs := ⟨_, rfl⟩
  have H7 := Lib.hid h7
  clear cE k0 k1 k2 k3 k4 k5 k6 k7 k8 k9 k10 h7
  unfold enV
  obtain ⟨tk, hTk⟩ : ∃ tk, enT ee = tk := ⟨_, rfl⟩
  rw [hTk]
  have HN := Lib.hid (And.intro hTk hee)
  clear hTk hee
  go_wp2_with fail
  refine cLd.mono ?_
  rintro e w8 ⟨rb, vis, rfl, hMap, hrb, hB8, hvn, hvin, hvis⟩
  have h8 : EnIn ee w4.heap.size mb n X s obs (.slice (some ⟨g, 0, none⟩) L cap) f (ptsAt obs) (fun k => k = rb) T Col.white H bt tm room EnS.none w4 w8 := H7.out.watch hB8 fun k e => .inr ⟨by have e2 : k = rb := e; omega, by have e2 : k = rb := e; have := hMap.lt; omega⟩
  have hfr : ¬ X.has rb := fun e => by have := H7.out.gm.go.ar.at_.lt rb e; omega
  have hlo := (HK.out.1 _ h8.gm.go.row).lenRun 3
  rw [HK.out.2.1] at hlo
  have H8 := Lib.hid (And.intro h8 (And.intro hMap (And.intro hfr (And.intro hvn (And.intro hvin hvis)))))
  clear cLd hMap hrb hB8 hvn hvin hvis h8 hfr H7
  go_wp2_with fail
  clear hlo
  go_loopw [68] (fun v68 W => ∃ (j : Nat) (T : MkB), j ≤ kk ∧ v68 = .int .i64 (j : Int) ∧ EnIn ee w4.heap.size mb n X s obs (.slice (some ⟨g, 0, none⟩) L cap) f (ptsAt obs) (fun k => k = rb) T (Col.white.shades ((refsI obs).take j)) H bt tm room EnS.none w4 W ∧ MapIn W rb vis.length (visF vis) (visK vis) vis.length) (fun v68 _ => kk - (intOf v68).toNat)
  case atStart => exact ⟨0, T, Nat.zero_le _, rfl, by rw [List.take_zero, Col.shades_nil]; exact H8.out.1, H8.out.2.1⟩
  case round =>
  obtain ⟨j, T4, hj, rfl, h4, hM4⟩ := hrel
  have hj0 : (0 : Int) ≤ (j : Int) := by omega
  by_cases hlt2 : j < kk
  · have hj1 : (j : Int) < (kk : Int) := by omega
    obtain ⟨x, hx⟩ : ∃ x, obs[j]? = some x := ⟨_, List.getElem?_eq_getElem (by have := HL.out; have := HK.out.2.2.1; omega)⟩
    have hca := row_cellB h4.gm.go.row (refsI_at hx)
    have hxR : (x.r : Int) ∈ refsI obs := List.mem_of_getElem? (refsI_at hx)
    have hxb := HO.out.bd _ hxR
    have cSh := h4.gm.shade (x.r : Int) hxR hxb.1 hxb.2
    rw [h4.tm, Col.shades_snoc, ← take_nextR (refsI_at hx)] at cSh
    have H4 := Lib.hid (And.intro h4 hM4)
    clear hx hxR hxb h4 hM4
    go_wp2_with fail
    refine cSh.mono ?_
    rintro e V5 ⟨rfl, T5, hm5, hG5, hk5⟩
    have H5 := Lib.hid (And.intro (H4.out.1.went hm5 hG5 hk5).1 (H4.out.2.keep (hk5 rb (.inl rfl))))
    clear cSh hm5 hG5 hk5 hca
    go_wp2_with fail
    go_roundw
    case rel => exact ⟨j + 1, T5, hlt2, by go_num, H5.out.1, H5.out.2⟩
    case measure => simp [intOf]; omega
  have hj1 : ¬ (j : Int) < (kk : Int) := by omega
  obtain rfl : j = kk := by omega
  have hS0 : EkS ee w4.heap.size mb n X.a (refsI obs) (.slice (some ⟨g, 0, none⟩) L cap) f (ptsAt obs) rb vis bt tm room w4 0 X s obs T4 (Col.white.shades ((refsI obs).take j)) H EnS.none wr :=
    ⟨rfl, h4, Kp.start (own := (refsI obs).take j) (fun _ => rfl) (fun z => by show (false || decide (z ∈ (refsI obs).take j)) = true ↔ _; simp) (fun x hx => by have := HO.out.bd x (List.mem_of_mem_take hx); omega) H8.out.2.2.2.2.2, rfl, HO.out.cl, HO.out.full, HO.out.P, Nat.zero_le _, fun z hz => absurd hz (Nat.lt_irrefl _), hM4, H8.out.2.2.1⟩
  have HS0 := Lib.hid hS0
  clear h4 hM4 hj hlt2 hj1 hS0
  go_wp2_with fail
  go_loopw [78] (fun v78 W => ∃ (i : Nat) (X' : ArB) (s' : ArS) (obs' : List Ob) (T : MkB) (c : Col) (H : Nat → Prop) (σ : EnS), i ≤ n1 ∧ v78 = .int .i64 (i : Int) ∧ EkS ee w4.heap.size mb n X.a (refsI obs) (.slice (some ⟨g, 0, none⟩) L cap) f (ptsAt obs) rb vis bt tm room w4 i X' s' obs' T c H σ W) (fun v78 _ => n1 - (intOf v78).toNat)
  case atStart => exact ⟨0, X, s, obs, T4, _, H, _, Nat.zero_le _, rfl, HS0.out⟩
  case round =>
  clear HS0 T4
  obtain ⟨i, X', s', obs', T, c, H, σ, hi, rfl, h1⟩ := hrel
  have hi0 : (0 : Int) ≤ (i : Int) := by omega
  have hi80 : i ≤ 80 := by have := H40.out.2.2; omega
  have hXa := h1.xa
  by_cases hlt : i < n1
  · have hi1 : (i : Int) < (n1 : Int) := by omega
    have hB06 := HW4.out.1.trans (h1.en.gm.below.mono HW4.out.1.size)
    obtain ⟨bk, off, rfl, hbk, hcs⟩ := HA.out.2.2 i hlt
    have hd0 := (hB06.cell (p := ⟨bk, off + i * 4, none⟩) hbk).trans (hcs 0 (by decide)).1
    have hd1 := (hB06.cell (p := ⟨bk, off + i * 4 + 1, none⟩) hbk).trans (hcs 1 (by decide)).1
    have hd2 := (hB06.cell (p := ⟨bk, off + i * 4 + 2, none⟩) hbk).trans (hcs 2 (by decide)).1
    have hd3 := (hB06.cell (p := ⟨bk, off + i * 4 + 3, none⟩) hbk).trans (hcs 3 (by decide)).1
    obtain ⟨qa, hqa, hqa6⟩ := u8_natW (hcs 0 (by decide)).2
    obtain ⟨qb, hqb, hqb6⟩ := u8_natW (hcs 1 (by decide)).2
    obtain ⟨qc, hqc, hqc6⟩ := u8_natW (hcs 2 (by decide)).2
    obtain ⟨qd, hqd, hqd6⟩ := u8_natW (hcs 3 (by decide)).2
    rw [hqa] at hd0
    rw [hqb] at hd1
    rw [hqc] at hd2
    rw [hqd] at hd3
    have h1a := h1.ask ((Below.refl wr.heap.size wr).alloc (Nat.le_refl _) (.cells #[.int .u8 (qa : Int), .int .u8 (qb : Int), .int .u8 (qc : Int), .int .u8 (qd : Int)] 46))
    have hE0 := Blk.new wr #[.int .u8 (qa : Int), .int .u8 (qb : Int), .int .u8 (qc : Int), .int .u8 (qd : Int)] 46
    have hx0 := hE0.cell 0
    have hx3 := hE0.cell 3
    simp only [List.getElem?_toArray, List.getElem?_cons_zero, List.getElem?_cons_succ] at hx0 hx3
    obtain ⟨bq, hbq⟩ : ∃ bq, (bits .and .u8 (qd : Int) 3 == 0) = bq := ⟨_, rfl⟩
    have HS := Lib.hid (And.intro h1a hE0)
    clear hqa hqb hqc hqd hcs h1 hbk hB06 hE0
    cases bq with
    | true =>
      obtain ⟨r3, hr3, hb3⟩ : ∃ r : Nat, r ≤ 3 ∧ bits .and .u8 (qa : Int) 3 = (r : Int) := u8_and_maskC (qa : Int) 3 (by decide)
      have hw3 : IntKind.i64.wrap (r3 : Int) = (r3 : Int) := by simp [IntKind.wrap, IntKind.bits, IntKind.signed]; omega
      have cT := h1a.en.gm.trace h1a.cl (r3 : Int)
      rw [h1a.en.tm] at cT
      clear h1a
      go_wp2_with fail
      refine cT.mono ?_
      rintro e V2 ⟨k2, T2, c2, l2, rfl, hlk2, hm2, hG2, hk2, hsc2, hmx2, hdr2⟩
      have hen2 := (HS.out.1.en.went (hm2.trans rfl) hG2 hk2).1
      have h2 : EkS ee w4.heap.size mb n X.a (refsI obs) (.slice (some ⟨g, 0, none⟩) L cap) f (ptsAt obs) rb vis bt tm room w4 (i + 1) X' s' obs' T2 c2 H σ V2 :=
        ⟨HS.out.1.xa, hen2, HS.out.1.kp.scans HS.out.1.en.gm.go.ob hsc2, HS.out.1.rf, HS.out.1.cl, HS.out.1.fu, HS.out.1.P, Nat.le_succ_of_le HS.out.1.lg, HS.out.1.ca, HS.out.1.mp.keep (hk2 rb (.inl rfl)), HS.out.1.fr⟩
      have H2 := Lib.hid h2
      clear cT h2 hen2 hG2 hk2 hsc2 hm2 hmx2 hdr2 hlk2 hx0 hx3 hbq hb3 hw3
      go_wp2_with fail
      go_roundw
      case rel => exact ⟨i + 1, X', s', obs', T2, c2, H, σ, hlt, by go_num, H2.out⟩
      case measure => simp [intOf]; omega
    | false =>
      have hTb : TabAt (wr.alloc (.cells #[.int .u8 (qa : Int), .int .u8 (qb : Int), .int .u8 (qc : Int), .int .u8 (qd : Int)] 46)) := HW4.out.2.2.2.below h1a.en.gm.below
      have hrwO : RefRow (wr.alloc (.cells #[.int .u8 (qa : Int), .int .u8 (qb : Int), .int .u8 (qc : Int), .int .u8 (qd : Int)] 46)) (.slice (some ⟨g, 0, none⟩) j cap) ((refsI obs).take j) := HK.out.1 _ (by rw [← h1a.rf]; exact h1a.en.gm.go.row)
      have hol' : obs'.length = L := by rw [← refsI_length, h1a.rf, refsI_length, ← HL.out]
      have cLd := leads_any h1a.en.gm.go h1a.fu h1a.cl (by have := h1a.P; omega) (by omega) hTb hrwO (fun x hx => by rw [h1a.rf]; exact List.mem_of_mem_take hx) (by have := HK.out.2.1; have := HK.out.2.2.1; omega)
      rw [hXa] at cLd
      clear h1a hTb hrwO
      go_wp2_with fail
      refine cLd.mono ?_
      rintro e V2 ⟨rb2, vis2, rfl, hMap2, hrb2, hB2, hvn2, hvin2, hvis2⟩
      have h2 := HS.out.1.ask hB2
      have hE2 := HS.out.2.turn (Turn.ofBelow hB2) (fun e => Nat.lt_irrefl _ (Nat.lt_of_lt_of_le HS.out.2.lt e))
      have cOr := order_any h2.en.gm.go.ar.at_.toArMem (HW4.out.2.2.2.below h2.en.gm.below) hMap2 (by have := h2.P; omega)
      rw [hXa] at cOr
      have H2 := Lib.hid (And.intro h2 (And.intro hE2 (And.intro hvin2 hvis2)))
      clear cLd hMap2 hrb2 hB2 hvn2 hvin2 hvis2 h2 hE2 hx0 hx3 hbq
      go_wp2_with fail
      refine cOr.mono ?_
      rintro e V3 ⟨vo, rfl, hRo, hB3, hown3⟩
      have h3 := H2.out.1.ask hB3
      have hE3 := H2.out.2.1.turn (Turn.ofBelow hB3) (fun e => Nat.lt_irrefl _ (Nat.lt_of_lt_of_le H2.out.2.1.lt e))
      have hmem := fun z => ordL_mem (vis := vis2) (S := s'.S) (N := 32 * s'.P + 1) (fun z hz => h3.en.gm.go.ob.word h3.en.gm.go.ar.at_.fits (H2.out.2.2.1 z hz)) z
      obtain ⟨io, hio⟩ : ∃ io, io = ordL (visF vis2) (elems s'.S (32 * s'.P + 1)) := ⟨_, rfl⟩
      rw [← hio] at hRo hmem
      have hownA : ∀ x ∈ (refsI obs).take j, x ∈ vis := fun x hx => (H8.out.2.2.2.2.2 x).2 (.root hx (by have := HO.out.bd x (List.mem_of_mem_take hx); omega))
      have hioA : ∀ z ∈ io, z ∈ vis ∧ z ∈ refsI obs' := fun z hz => ⟨h3.kp.reach hownA ((H2.out.2.2.2 z).1 ((hmem z).1 hz)), H2.out.2.2.1 z ((hmem z).1 hz)⟩
      have hne : 0 < io.length := by
        obtain ⟨x0, hx0⟩ : ∃ x0, x0 ∈ (refsI obs).take j := List.exists_mem_of_length_pos (by have := HK.out.2.1; have := HK.out.2.2.2.2; omega)
        exact List.length_pos_of_mem ((hmem x0).2 ((H2.out.2.2.2 x0).2 (.root hx0 (by have := HO.out.bd x0 (List.mem_of_mem_take hx0); omega))))
      obtain ⟨Li, hLi⟩ : ∃ Li, io.length = Li := ⟨_, rfl⟩
      have hl6 := hRo.lenRun 3
      rw [hLi] at hl6
      rcases hRo.is with ⟨_, e⟩ | ⟨g2, cap2, cur2, hv2, hg2, hlc2, hcm2, hcs2, hcell2⟩
      · rw [e] at hne; exact absurd hne (by simp)
      rw [hLi] at hv2
      subst hv2
      have hLi0 : 0 < Li := by omega
      have hin2 : ¬ (Li : Int) = 0 := by omega
      have hlc2I : (Li : Int) ≤ (cap2 : Int) := by omega
      have hcm2I : (cap2 : Int) ≤ 9223372036854775807 := by omega
      obtain ⟨ia, hta, hla, hwa⟩ := mod_run (L := Li) hLi0 hqa6
      have hlaI : (ia : Int) < (Li : Int) := by omega
      have hla0 : (0 : Int) ≤ (ia : Int) := by omega
      obtain ⟨zr, hzr⟩ : ∃ zr, io[ia]? = some zr := ⟨_, List.getElem?_eq_getElem (by omega)⟩
      have hzm := hioA zr (List.mem_of_getElem? hzr)
      obtain ⟨ix, x, hx, hxz⟩ := refs_at hzm.2
      subst hxz
      have hca := row_cellB hRo hzr
      have hO := h3.en.gm.go.ob.at_ ix x hx
      have hk6 := hO.k6 h3.en.gm.go.ar.at_.fits
      have cFi := ceFieldsOk h3.en.gm.go.ar hO
      rw [hXa] at cFi
      have hx0 := hE3.cell 0
      simp only [List.getElem?_toArray, List.getElem?_cons_zero, List.getElem?_cons_succ] at hx0
      have H3 := Lib.hid (And.intro h3 (And.intro hE3 (And.intro hRo (And.intro hioA (And.intro hzm (And.intro hx (And.intro hk6 hLi)))))))
      clear cOr hB3 hown3 h3 hE3 hmem hio hownA hioA hne hg2 hcs2 hcell2 hRo hzr hzm hx hO hk6 hlc2 hcm2 hLi
      go_wp2_with fail
      refine cFi.mono ?_
      rintro e V4 ⟨rfl, hB4⟩
      have h4 := H3.out.1.ask hB4
      have hE4 := H3.out.2.1.turn (Turn.ofBelow hB4) (fun e => Nat.lt_irrefl _ (Nat.lt_of_lt_of_le H3.out.2.1.lt e))
      have hR4 : RefRow V4 (.slice (some ⟨g2, 0, none⟩) Li cap2) io := H3.out.2.2.1.keepG fun k e => hB4.block k (H3.out.2.2.1.lt e)
      have H4 := Lib.hid (And.intro h4 (And.intro hE4 hR4))
      clear cFi hB4 h4 hE4 hR4 hca hta hla hwa hlaI hla0 hx0 hl6
      by_cases hk0 : x.k = 0
      · have hkz : ((x.k : Int) == 0) = true := by simp [hk0]
        have hkz2 : (x.k : Int) = 0 := by omega
        go_wp2_with fail
        go_roundw
        case rel => exact ⟨i + 1, X', s', obs', T, c, H, σ, hlt, by go_num, H4.out.1.up⟩
        case measure => simp [intOf]; omega
      have hkz : ((x.k : Int) == 0) = false := by simp [hk0]
      have hkz2 : ¬ (x.k : Int) = 0 := by omega
      have hx3 := H4.out.2.1.cell 3
      have hx1 := H4.out.2.1.cell 1
      simp only [List.getElem?_toArray, List.getElem?_cons_zero, List.getElem?_cons_succ] at hx3 hx1
      obtain ⟨r12, hr12, hb12⟩ : ∃ r : Nat, r ≤ 12 ∧ bits .and .u8 (qd : Int) 12 = (r : Int) := u8_and_maskC (qd : Int) 12 (by decide)
      go_upto_if 114 with fail
      go_cut [18, 19, 20, 21, 22] (fun v18 v19 v20 v21 v22 wx => v18 = .pointer (some ⟨wr.heap.size, 0, none⟩) ∧ v19 = .slice (some ⟨g2, 0, none⟩) Li cap2 ∧ v20 = .int .i64 (x.r : Int) ∧ v21 = .int .i64 (x.k : Int) ∧ (∃ y : Int, v22 = .int .i64 y ∧ (y ∈ refsI obs' ∨ y = 0) ∧ (y ∈ vis ∨ y = 0)) ∧ wx = V4)
      case first =>
        by_cases h12 : 0 < r12
        · have h12I : (0 : Int) < (r12 : Int) := by omega
          have hl6 := H4.out.2.2.lenRun 3
          rw [H3.out.2.2.2.2.2.2.2] at hl6
          obtain ⟨ib, htb, hlb, hwb⟩ := mod_run (L := Li) hLi0 hqb6
          have hlbI : (ib : Int) < (Li : Int) := by omega
          have hlb0 : (0 : Int) ≤ (ib : Int) := by omega
          obtain ⟨yr, hyr⟩ : ∃ yr, io[ib]? = some yr := ⟨_, List.getElem?_eq_getElem (by have := H3.out.2.2.2.2.2.2.2; omega)⟩
          have hyc := row_cellB H4.out.2.2 hyr
          have hym := H3.out.2.2.2.1 yr (List.mem_of_getElem? hyr)
          have HY := Lib.hid hym
          clear hyr hym
          go_wp2_with fail
          go_meet
          case rel => exact ⟨rfl, rfl, rfl, rfl, ⟨yr, rfl, .inl HY.out.2, .inl HY.out.1⟩, rfl⟩
        · have h12I : ¬ (0 : Int) < (r12 : Int) := by omega
          go_wp2_with fail
          go_meet
          case rel => exact ⟨rfl, rfl, rfl, rfl, ⟨0, rfl, .inr rfl, .inr rfl⟩, rfl⟩
      case rest =>
      obtain ⟨rfl, rfl, rfl, rfl, ⟨y, rfl, hyR, hyA⟩, rfl⟩ := hcut
      have hx2 := H4.out.2.1.cell 2
      simp only [List.getElem?_toArray, List.getElem?_cons_zero, List.getElem?_cons_succ] at hx2
      obtain ⟨jf, htc, hljf, hwc⟩ := mod_run (L := x.k) (by omega) hqc6
      have hoR : x.F jf ∈ refsI obs' ∨ x.F jf = 0 := by
        by_cases e0 : x.F jf = 0
        · exact .inr e0
        · have hxm := List.mem_of_getElem? H3.out.2.2.2.2.2.1
          exact .inl (pts_in H4.out.1.cl hxm _ (mem_pts.2 ⟨jf, hljf, rfl, e0⟩))
      have hbd' : ∀ y ∈ refsI obs', 1 ≤ y ∧ y ≤ 2048 := fun y hy => by rw [H4.out.1.rf] at hy; exact HO.out.bd y hy
      have cWr := enWrite H4.out.1.en HN.out.2 H3.out.2.2.2.2.2.1 hljf y hyR hoR hbd' (by have := H4.out.1.lg; omega) (fun k e => by have e2 : k = rb := e; rw [e2]; exact H4.out.1.fr)
      unfold enV at cWr
      rw [HN.out.1, hXa] at cWr
      have HY := Lib.hid (And.intro hyR (And.intro hyA (And.intro hljf hbd')))
      clear hx1 hx3 hb12 hyR hyA hljf hoR hbd'
      go_wp2_with fail
      refine cWr.mono ?_
      rintro e V5 ⟨rfl, T5, H5, lo, hen5, hk5, hf5⟩
      have h4 := H4.out.1
      have hx := H3.out.2.2.2.2.2.1
      have hxr := HY.out.2.2.2 _ (List.mem_of_getElem? (refsI_at hx))
      have hrf5 : refsI (obs'.set ix { x with F := Go.Proofs.YtooddbhlanjfbaaGreatDoor.upd x.F jf y }) = refsI obs' := refsI_set (x := { x with F := Go.Proofs.YtooddbhlanjfbaaGreatDoor.upd x.F jf y }) hx rfl
      have h5 : EkS ee w4.heap.size mb n X.a (refsI obs) (.slice (some ⟨g, 0, none⟩) L cap) f (ptsAt obs) rb vis bt tm room w4 (i + 1) (X'.with lo) _ (obs'.set ix { x with F := Go.Proofs.YtooddbhlanjfbaaGreatDoor.upd x.F jf y }) T5 _ H5 _ V5 :=
        ⟨hXa, hen5, h4.kp.write h4.en.gm.go.ob hen5.gm.go.ob hx HY.out.2.2.1 HN.out.2 H3.out.2.2.2.2.1.1 HY.out.2.1 (by have := h4.P; omega), hrf5.trans h4.rf, h4.cl.setV hx HY.out.1.symm, h4.fu.set hx, by rw [setW_P]; exact h4.P, postS_lg h4.lg, fun z hz => by
          rcases postS_cnt hz with e | ⟨e, e0⟩
          · exact h4.ca z e
          · rw [e]; exact HY.out.2.1.resolve_right e0, h4.mp.keep (hk5 rb rfl), hf5 rb rfl⟩
      have H5' := Lib.hid h5
      clear cWr hen5 hk5 hf5 h4 hx hxr hrf5 h5 hx2 htc hwc
      go_wp2_with fail
      go_roundw
      case rel => exact ⟨i + 1, X'.with lo, _, _, T5, _, H5, _, hlt, by go_num, H5'.out⟩
      case measure => simp [intOf]; omega
  have hi1 : ¬ (i : Int) < (n1 : Int) := by omega
  have hrw1 := HK.out.1 wr (by rw [← h1.rf]; exact h1.en.gm.go.row)
  have hol' : obs'.length = L := by rw [← refsI_length, h1.rf, refsI_length, ← HL.out]
  have cRt := roots_any (some ⟨g, 0, none⟩) j cap wr
  have H1 := Lib.hid h1
  clear hlt h1 hi hrw1
  go_wp2_with fail
  refine cRt.mono ?_
  rintro e w' ⟨rfl, rfl⟩
  have hB7 := (Below.refl wr.heap.size wr).alloc (Nat.le_refl _) (.cells #[.slice (some ⟨g, 0, none⟩) j cap] 33)
  have h7 := H1.out.en.box (.cells #[.slice (some ⟨g, 0, none⟩) j cap] 33)
  have hMp7 := H1.out.mp.ask hB7
  have hrow7 := HK.out.1 _ (by rw [← H1.out.rf]; exact h7.gm.go.row)
  have hbx7 : (wr.alloc (.cells #[.slice (some ⟨g, 0, none⟩) j cap] 33)).cell? ⟨wr.heap.size, 0, none⟩ = some (.slice (some ⟨g, 0, none⟩) j cap) := (Blk.new wr _ _).cell 0
  have cF := en_finish h7 HN.out.2 H1.out.cl (by have := HL.out; have := H40.out.1; omega) ((refsI obs).take j) hrow7 hbx7 (.inr rfl) (fun k e => .inr (.inr (.inl e))) (fun z hz => by rw [H1.out.rf]; exact List.mem_of_mem_take hz)
  unfold enV at cF
  rw [HN.out.1] at cF
  have H7 := Lib.hid hMp7
  clear cRt h7 hrow7 hbx7 hB7 hMp7
  go_wp2_with fail
  generalize wr.alloc (.cells #[.slice (some ⟨g, 0, none⟩) j cap] 33) = V8 at *
  refine cF.mono ?_
  rintro e V9 ⟨T9, H9, l, c9, rfl, hsc, hdry, h9, hk9⟩
  have hMp9 := H7.out.keep (hk9 rb (.inl rfl))
  have hown0 : ∀ x ∈ (refsI obs).take j, x ≠ 0 := fun x hx => by have := HO.out.bd x (List.mem_of_mem_take hx); omega
  have hownA : ∀ x ∈ (refsI obs).take j, x ∈ vis := fun x hx => (H8.out.2.2.2.2.2 x).2 (.root hx (hown0 x hx))
  have hD := H1.out.kp.done (own := (refsI obs).take j) H1.out.en.gm.go.ob HN.out.2 hownA hown0 (fun x hx => by
    obtain ⟨u, hu, e⟩ := List.mem_map.1 (H1.out.en.gm.inn x (H1.out.kp.sub x hx)); exact ⟨u, hu, e⟩) H1.out.ca hsc hdry
  have hre : ∀ z, Rch ((refsI obs).take j) (ptsAt obs') z → z ∈ vis := fun z hz => H1.out.kp.reach hownA hz
  have cDr := h9.mkr.at_.drained true ⟨fun _ => hdry, fun _ => rfl⟩
  rw [h9.tm] at cDr
  have H9' := Lib.hid (And.intro h9 (And.intro hMp9 (And.intro hD hre)))
  clear cF hsc hdry h9 hk9 hMp9 hD hre hownA hown0
  go_wp2_with fail
  refine cDr.mono ?_
  rintro e V10 ⟨rfl, hB10⟩
  have h10 := H9'.out.1.ask hB10
  have cLd := leads_any h10.gm.go H1.out.fu H1.out.cl (by have := H1.out.P; omega) (by have := HL.out; have := H40.out.1; omega) (HW4.out.2.2.2.below h10.gm.below) (HK.out.1 _ (by rw [← H1.out.rf]; exact h10.gm.go.row)) (fun x hx => by rw [H1.out.rf]; exact List.mem_of_mem_take hx) (by have := HK.out.2.1; have := HK.out.2.2.1; omega)
  rw [H1.out.xa] at cLd
  have H10 := Lib.hid (And.intro h10 (H9'.out.2.1.ask hB10))
  clear cDr hB10 h10
  go_wp2_with fail
  refine cLd.mono ?_
  rintro e V11 ⟨rb3, vis3, rfl, hMap3, hrb3, hB11, hvn3, hvin3, hvis3⟩
  have hrl := hMap3.lt
  have h11 : EnIn ee w4.heap.size mb n X' s' obs' (.slice (some ⟨g, 0, none⟩) L cap) f (ptsAt obs) (fun k => k = rb3) T9 c9 H9 bt tm room (remS ee σ) w4 V11 := H10.out.1.watch hB11 fun k e => .inr ⟨by have e2 : k = rb3 := e; omega, by have e2 : k = rb3 := e; omega⟩
  have hMp11 := H10.out.2.ask hB11
  obtain ⟨⟨D3, hown3, hat3, hhas3, hsz3⟩⟩ := hMap3
  have H11 := Lib.hid (And.intro h11 (And.intro hMp11 (And.intro hhas3 hvis3)))
  clear cLd hrb3 hB11 hvn3 hvin3 hvis3 h11 hMp11 hat3 hhas3 hsz3 hrl
  go_wp2_with (at_range; refine wpList_range_own _ rfl _ 42 rfl 44 3 keyRef Tryz.underlying42 _ rb3 vis3.length D3 rfl hown3 ?_; intro w0 hrg0 hg0 hs0)
  go_frame
  have hB0 : Below V11.heap.size V11 w0 := ⟨hg0.os, hg0.tape, hg0.output, hg0.size, fun k hk => hg0.block k hk (by simp)⟩
  obtain ⟨it, hit⟩ : ∃ it, it = V11.heap.size := ⟨_, rfl⟩
  have h0 : EnIn ee w4.heap.size mb n X' s' obs' (.slice (some ⟨g, 0, none⟩) L cap) f (ptsAt obs) (fun k => k = it) T9 c9 H9 bt tm room (remS ee σ) w4 w0 := H11.out.1.watch hB0 fun k e => .inr ⟨by have e2 : k = it := e; omega, by have e2 : k = it := e; omega⟩
  have hmp0 := H11.out.2.1.ask hB0
  have hitF : w4.heap.size ≤ it ∧ ¬ GoHas X' mb (.slice (some ⟨g, 0, none⟩) L cap) f it ∧ it ≠ rb := ⟨by have := H11.out.1.gm.size; omega, fun e => by have := H11.out.1.gm.go.lt it e; omega, by have := H11.out.2.1.lt; omega⟩
  rw [← hit] at hrg0 ⊢
  have HI := Lib.hid hitF
  have H0 := Lib.hid (And.intro hrg0 (And.intro h0 hmp0))
  clear hrg0 hg0 hs0 hown3 hB0 hit h0 hmp0 hitF
  go_loopw [] (fun W => ∃ (left : Lit → Bool) (cnt : Nat), W.ranges Tryz.prog 44 (plainElem Tryz.prog 3) rb3 it vis3.length D3 left cnt ∧ EnIn ee w4.heap.size mb n X' s' obs' (.slice (some ⟨g, 0, none⟩) L cap) f (ptsAt obs) (fun k => k = it) T9 c9 H9 bt tm room (remS ee σ) w4 W ∧ MapIn W rb vis.length (visF vis) (visK vis) vis.length) (fun W => W.rangeLeft rb3 it)
  case atStart => exact ⟨_, _, H0.out⟩
  case round =>
  clear H0
  obtain ⟨left, cnt, hrg, hW, hMW⟩ := hrel
  have HWW := Lib.hid (And.intro hW hMW)
  clear hW hMW
  go_wp2_with (at_next; refine wpList_next_ranges_ii wr rfl _ rfl 44 3 .i64 .i64 keyRef Tryz.underlying44 Tryz.underlying3 rb3 it vis3.length D3 left cnt rfl hrg ?_ ?_)
  · intro hc0 hl0
    have hl6 := HWW.out.1.gm.go.row.lenRun 3
    rw [H1.out.rf, HK.out.2.2.2.1] at hl6
    clear hrg hc0 hl0
    go_wp2_with fail
    clear hl6
    go_loopw [158] (fun v158 W => ∃ k : Nat, k ≤ L ∧ v158 = .int .i64 (k : Int) ∧ Below wr.heap.size wr W) (fun v158 _ => L - (intOf v158).toNat)
    case atStart => exact ⟨0, Nat.zero_le _, rfl, Below.refl _ _⟩
    case round =>
    obtain ⟨k, hk, rfl, hBW⟩ := hrel
    have hk0 : (0 : Int) ≤ (k : Int) := by omega
    have hV := HWW.out.1.ask hBW
    have hMV := HWW.out.2.ask hBW
    by_cases hlt3 : k < L
    · have hk1 : (k : Int) < (L : Int) := by omega
      obtain ⟨u, hu⟩ : ∃ u, obs'[k]? = some u := ⟨_, List.getElem?_eq_getElem (by omega)⟩
      have huR : (u.r : Int) ∈ refsI obs' := List.mem_of_getElem? (refsI_at hu)
      have hub := HO.out.bd (u.r : Int) (by rw [← H1.out.rf]; exact huR)
      have hwu := wf_ref hub.1 hub.2
      have hca2 := row_cellB hV.gm.go.row (refsI_at hu)
      have cMa := hV.mkr.at_.marked (u.r : Int)
      rw [hV.tm] at cMa
      have HB := Lib.hid hBW
      cases hm : c9.ma (u.r : Int) with
      | false =>
        rw [hm] at cMa
        clear hu huR hub hwu hV hMV hBW hm
        go_wp2_with fail
        refine cMa.mono ?_
        rintro e V12 ⟨rfl, hB12⟩
        have HB2 := Lib.hid (HB.out.trans (hB12.mono HB.out.size))
        clear cMa hB12 hca2
        go_wp2_with fail
        go_roundw
        case rel => exact ⟨k + 1, by omega, by go_num, HB2.out⟩
        case measure => simp [intOf]; omega
      | true =>
        have hvv : visF vis (u.r : Int) = 1 := by unfold visF; rw [if_pos (H9'.out.2.2.1.2 _ hm)]
        rw [hm] at cMa
        have HMV := Lib.hid (And.intro hMV (And.intro hwu hvv))
        clear hu huR hub hwu hV hMV hBW hm hvv
        go_wp2_with fail
        refine cMa.mono ?_
        rintro e V12 ⟨rfl, hB12⟩
        have hlk := (HMV.out.1.ask hB12).look (u.r : Int) HMV.out.2.1
        rw [HMV.out.2.2] at hlk
        have HB2 := Lib.hid (HB.out.trans (hB12.mono HB.out.size))
        clear cMa hB12 hca2
        go_wp2_with fail
        go_roundw
        case rel => exact ⟨k + 1, by omega, by go_num, HB2.out⟩
        case measure => simp [intOf]; omega
    · have hk1 : ¬ (k : Int) < (L : Int) := by omega
      have HF := Lib.hid (HW4.out.1.trans (hV.gm.below.mono HW4.out.1.size))
      clear hlt3 hV hMV hBW
      go_wp2_with fail
      go_ret
      exact ⟨rfl, HF.out⟩
  · intro x c w2 cnt1 hwx hwc hlx hat hrg1 hlt hg1 hs1 hen
    have hxv : x ∈ vis3 := by
      have h1 := Maps.has_true_of_atKey hat
      rw [H11.out.2.2.1 x hwx] at h1
      exact of_decide_eq_true h1
    have hmx : c9.ma x = true := H9'.out.2.2.1.1 x ((H11.out.2.2.2 x).1 hxv) (H9'.out.2.2.2 x ((H11.out.2.2.2 x).1 hxv))
    have h2 : EnIn ee w4.heap.size mb n X' s' obs' (.slice (some ⟨g, 0, none⟩) L cap) f (ptsAt obs) (fun k => k = it) T9 c9 H9 bt tm room (remS ee σ) w4 w2 := HWW.out.1.turnE (Turn.ofGrownM hg1) fun k e => by
      have e2 : k = it := (Option.some.inj e).symm
      subst e2
      exact ⟨rfl, HI.out.1, HI.out.2.1⟩
    have hM2 := HWW.out.2.keep (hg1.block rb HWW.out.2.lt (fun e => HI.out.2.2 (Option.some.inj e).symm))
    have cMa := h2.mkr.at_.marked x
    rw [h2.tm, hmx] at cMa
    have HLt := Lib.hid (show cnt1 < cnt from hlt)
    have hle := hrg.left_eq
    have HLE := Lib.hid hle
    have H2 := Lib.hid (And.intro h2 (And.intro hM2 hrg1))
    clear hrg hrg1 hg1 hs1 hat hwx hwc hlx hlt hle h2 hM2 hxv hmx
    go_wp2_with fail
    refine cMa.mono ?_
    rintro e w3 ⟨rfl, hB3⟩
    have hr3 := H2.out.2.2.kept (row := none) (w' := w3) ⟨hB3.os, hB3.tape, hB3.output, hB3.size, fun k hk _ => hB3.block k hk⟩ (by simp) (by simp)
    have hle := hr3.left_eq
    have HLE2 := Lib.hid hle
    have H3 := Lib.hid (And.intro hr3 (And.intro (H2.out.1.ask hB3) (H2.out.2.1.ask hB3)))
    clear cMa hB3 hr3 hle hen
    go_wp2_with fail
    go_roundw
    case rel => exact ⟨_, _, H3.out⟩
    case measure => rw [HLE.out, HLE2.out]; exact HLt.out
/-- As the frame asks it. -/
theorem ekeeps_frame (b0 b1 b2 b3 b4 b5 : Nat) (hb6 : b0 ≤ 255 ∧ b1 ≤ 255 ∧ b2 ≤ 255 ∧ b3 ≤ 255 ∧ b4 ≤ 255 ∧ b5 ≤ 255) (a0 : Option Addr) (zs : List Int) (cf : Nat) (e0 : Option Addr) (ne ce : Nat) (Q : Nat → Nat → Int) (a1 : Option Addr) (n1 c1 : Nat) (Q1 : Nat → Nat → Int) (w : World) (hl : n1 ≤ 9223372036854775807)
    (hF : BytesW w a0 zs) (hE : EdgesW w e0 ne Q) (hP : FoursW w a1 n1 Q1) (hTb : TabAt w) (hT : TableAt w) :
    Calls Tryz.prog 3 #[.agg #[.int .u8 (b0 : Int), .int .u8 (b1 : Int), .int .u8 (b2 : Int), .int .u8 (b3 : Int), .int .u8 (b4 : Int), .int .u8 (b5 : Int)], .agg #[.slice a0 zs.length cf, .slice e0 ne ce], .slice a1 n1 c1] w fun e w' => e = .returned (.bool true) ∧ Below w.heap.size w w' := ekeeps_true b0 b1 b2 b3 b4 b5 hb6 a0 zs cf e0 ne ce Q a1 n1 c1 Q1 w hF hE hP ⟨hT, hTb⟩
end Go.Proofs.YtooddbhlanjfbaaGreatDoor
