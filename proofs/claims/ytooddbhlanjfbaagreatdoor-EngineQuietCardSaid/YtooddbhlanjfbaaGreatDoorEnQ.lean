/- EngineQuiet, walked; at this seat's numbers. -/
import Derived.Test.YtooddbhlanjfbaaGreatDoorEnE
import Derived.Test.YtooddbhlanjfbaaGreatDoorEnO
import Derived.Deep.RegionHeld3
namespace Go.Proofs.YtooddbhlanjfbaaGreatDoor
open Go Go.RowKit Go.Shelf Go.MuLone Go.RwLone
set_option linter.unusedSimpArgs false
set_option linter.unusedVariables false
attribute [local go_sem] Oper.semAt_some

def DsHas : List Deferred → Nat → Prop
  | [], _ => False
  | d :: ds, k => d.target = .collected k ∨ DsHas ds k
theorem Marks.inside {B : Nat} {w : World} : ∀ {ds : List Deferred} {hi : Nat}, Marks B hi ds w → ∀ k, DsHas ds k → B ≤ k ∧ k < hi
  | [], _, _, _, h => h.elim
  | _ :: _, _, ⟨D, h1, h2, h3, _, h5⟩, k, h => by
    rcases h with e | e
    · rw [h1] at e
      have e2 : D = k := by injection e
      omega
    · have := h5.inside k e; omega
theorem Marks.keepE {B : Nat} {w w' : World} : ∀ {ds : List Deferred} {hi : Nat}, Marks B hi ds w → (∀ k, DsHas ds k → w'.heap[k]? = w.heap[k]?) → Marks B hi ds w'
  | [], _, _, _ => trivial
  | _ :: _, _, ⟨D, h1, h2, h3, h4, h5⟩, hk => ⟨D, h1, h2, h3, (hk D (.inl (by rw [h1]))).trans h4, h5.keepE fun k e => hk k (.inr e)⟩
theorem Marks.top {B : Nat} {w : World} : ∀ {ds : List Deferred} {hi : Nat}, Marks B hi ds w → ∃ hi', hi' ≤ w.heap.size ∧ Marks B hi' ds w
  | [], _, _ => ⟨0, Nat.zero_le _, trivial⟩
  | _ :: _, _, ⟨D, h1, h2, h3, h4, h5⟩ => ⟨D + 1, (Array.getElem?_eq_some_iff.1 h4).1, D, h1, h2, Nat.lt_succ_self D, h4, h5⟩

theorem mod4 {q : Nat} (h : q < 256) : ∃ r : Nat, (q : Int).tmod 4 = (r : Int) ∧ r < 4 ∧ IntKind.u8.wrap (r : Int) = (r : Int) ∧ IntKind.i64.wrap (r : Int) = (r : Int) :=
  ⟨q % 4, by rw [Int.tmod_eq_emod_of_nonneg (by omega)]; omega, Nat.mod_lt _ (by decide), by simp [IntKind.wrap, IntKind.bits, IntKind.signed]; omega, by simp [IntKind.wrap, IntKind.bits, IntKind.signed]; omega⟩
theorem addK {a b c : Nat} (h : c = a + b) (h9 : a + b < 100000) : wrap64 ((a : Int) + (b : Int)) = (c : Int) := by
  subst h; simp [wrap64]; omega
theorem addI {a b c : Nat} (h : c = a + b) (h9 : a + b < 100000) : IntKind.i64.wrap ((a : Int) + (b : Int)) = (c : Int) := by
  subst h; simp [IntKind.wrap, IntKind.bits, IntKind.signed]; omega
theorem wrapV {a : Nat} (h9 : a < 100000) : IntKind.i64.wrap (a : Int) = (a : Int) := by
  simp [IntKind.wrap, IntKind.bits, IntKind.signed]; omega
/-- What stands beside the engines. -/
def QuE (rs cb mx rb : Nat) (ds : List Deferred) (k : Nat) : Prop := (k = rs ∨ k = cb ∨ k = mx ∨ k = rb) ∨ DsHas ds k
/-- Between two engines. -/
structure QuS (w wm : World) (mb n : Nat) (X : ArB) (s : ArS) (obs : List Ob) (vl : Value) (f : Int → Value) (gc : Cfg) (rs cb mx rb : Nat) (vis : List Int) (H0 hi : Nat) (ds : List Deferred) (W : World) : Prop where
  go : GoIn wm.heap.size mb n X s obs vl f (ptsAt obs) wm W
  r : Blk W rs #[.bool false] 4
  c : ∃ (e : Int) (k : Bool), Blk W cb ({ gc with e := e, k := k } : Cfg).arr 30
  m : Blk W mx #[.map (some rb)] 42
  mp : MapIn W rb vis.length (visF vis) (visK vis) vis.length
  below : Below w.heap.size w W
  low : H0 ≤ W.heap.size
  top : hi ≤ W.heap.size
  marks : Marks H0 hi ds W
set_option maxRecDepth 100000 in
set_option maxHeartbeats 16000000 in
theorem enquiet_true (b0 b1 b2 b3 b4 b5 : Nat) (hb6 : b0 ≤ 255 ∧ b1 ≤ 255 ∧ b2 ≤ 255 ∧ b3 ≤ 255 ∧ b4 ≤ 255 ∧ b5 ≤ 255) (a0 : Option Addr) (zs : List Int) (cf : Nat) (e0 : Option Addr) (ne ce : Nat) (Q : Nat → Nat → Int) (a1 : Option Addr) (us : List Int) (c1 : Nat) (w : World)
    (hF : BytesW w a0 zs) (hE : EdgesW w e0 ne Q) (hU : BytesW w a1 us) (hT : Tabs w) :
    Calls Tryz.prog 7 #[.agg #[.int .u8 (b0 : Int), .int .u8 (b1 : Int), .int .u8 (b2 : Int), .int .u8 (b3 : Int), .int .u8 (b4 : Int), .int .u8 (b5 : Int)], .agg #[.slice a0 zs.length cf, .slice e0 ne ce], .slice a1 us.length c1] w fun e w' => e = .returned (.bool true) ∧ Below w.heap.size w w' := by
  have HA := Lib.hid (And.intro hF (And.intro hE hU))
  clear hF hE hU
  obtain ⟨M, hM6⟩ : ∃ M : Nat, 20 ≤ M := ⟨20, Nat.le_refl _⟩
  obtain ⟨n1, hn1⟩ : ∃ n1, n1 = us.length := ⟨_, rfl⟩
  rw [← hn1]
  have HN1 := Lib.hid hn1
  clear hn1
  have hs1 : (w.alloc (.cells #[.int .u8 (b0 : Int), .int .u8 (b1 : Int), .int .u8 (b2 : Int), .int .u8 (b3 : Int), .int .u8 (b4 : Int), .int .u8 (b5 : Int)] 22)).heap.size = w.heap.size + 1 := by simp
  have hX0 := ((Blk.new w #[.int .u8 (b0 : Int), .int .u8 (b1 : Int), .int .u8 (b2 : Int), .int .u8 (b3 : Int), .int .u8 (b4 : Int), .int .u8 (b5 : Int)] 22).alloc (.cells #[.slice a0 zs.length cf, .slice e0 ne ce] 26)).alloc (.cells #[.bool false] 4)
  have hG0 := (Blk.new (w.alloc (.cells #[.int .u8 (b0 : Int), .int .u8 (b1 : Int), .int .u8 (b2 : Int), .int .u8 (b3 : Int), .int .u8 (b4 : Int), .int .u8 (b5 : Int)] 22)) #[.slice a0 zs.length cf, .slice e0 ne ce] 26).alloc (.cells #[.bool false] 4)
  have hR0 := Blk.new ((w.alloc (.cells #[.int .u8 (b0 : Int), .int .u8 (b1 : Int), .int .u8 (b2 : Int), .int .u8 (b3 : Int), .int .u8 (b4 : Int), .int .u8 (b5 : Int)] 22)).alloc (.cells #[.slice a0 zs.length cf, .slice e0 ne ce] 26)) #[.bool false] 4
  have hBb := (((Below.refl w.heap.size w).alloc (Nat.le_refl _) (.cells #[.int .u8 (b0 : Int), .int .u8 (b1 : Int), .int .u8 (b2 : Int), .int .u8 (b3 : Int), .int .u8 (b4 : Int), .int .u8 (b5 : Int)] 22)).alloc (by simp) (.cells #[.slice a0 zs.length cf, .slice e0 ne ce] 26)).alloc (by simp; omega) (.cells #[.bool false] 4)
  have hs3 : (((w.alloc (.cells #[.int .u8 (b0 : Int), .int .u8 (b1 : Int), .int .u8 (b2 : Int), .int .u8 (b3 : Int), .int .u8 (b4 : Int), .int .u8 (b5 : Int)] 22)).alloc (.cells #[.slice a0 zs.length cf, .slice e0 ne ce] 26)).alloc (.cells #[.bool false] 4)).heap.size = w.heap.size + 3 := by simp
  simp only [World.size_alloc] at hG0 hR0
  have hTb := hT.below hBb
  have HI := Lib.hid (And.intro hX0 (And.intro hG0 (And.intro hR0 (And.intro hBb (And.intro hs3 hTb)))))
  clear hs1 hX0 hG0 hR0 hBb hs3 hTb hT
  refine calls_of_wp_marks Tryz.func7 rfl M ?_
  simp only [Tryz.ntmps7, List.size_toArray, List.length_cons, List.length_nil, Nat.reduceAdd, Nat.reduceSub, Array.replicate_succ, Array.replicate_zero, List.push_toArray, List.append_toArray, List.nil_append, List.cons_append]
  gi_wp2_with fail
  refine ⟨trivial, fun h => (by cases h), ?_⟩
  obtain ⟨hX0, hG0, hR0, hBb, hs3, hTb⟩ := HI.out
  clear HI
  generalize ((w.alloc (.cells #[.int .u8 (b0 : Int), .int .u8 (b1 : Int), .int .u8 (b2 : Int), .int .u8 (b3 : Int), .int .u8 (b4 : Int), .int .u8 (b5 : Int)] 22)).alloc (.cells #[.slice a0 zs.length cf, .slice e0 ne ce] 26)).alloc (.cells #[.bool false] 4) = W0 at *
  refine (callsIn_wide.2 (enfit_true W0 hTb)).mono ?_
  rintro e w1 ⟨rfl, hB1⟩
  have hX1 := hX0.turn (Turn.ofBelow hB1) (by omega)
  have hG1 := hG0.turn (Turn.ofBelow hB1) (by omega)
  have hR1 := hR0.turn (Turn.ofBelow hB1) (by omega)
  have hB01 := hBb.trans (hB1.mono (by omega))
  have hz1 := hB1.size
  have g0 := hG1.cell 0
  have g1 := hG1.cell 1
  simp only [List.getElem?_toArray, List.getElem?_cons_zero, List.getElem?_cons_succ] at g0 g1
  obtain ⟨q, hq⟩ : ∃ q, (decide (zs.length ≤ 40) && decide (ne ≤ 120)) = q := ⟨_, rfl⟩
  have cS := small_any a0 zs.length cf e0 ne ce w1 q hq
  have HW1 := Lib.hid (And.intro hG1 (And.intro hR1 (And.intro hB01 (And.intro (hTb.below hB1) (And.intro hX1 (show w.heap.size + 3 ≤ w1.heap.size by omega))))))
  clear hB1 hG0 hR0 hX0 hTb hG1 hR1 hX1 hB01 hBb hs3 hz1
  gi_wp2_with fail
  refine ⟨trivial, fun h => (by cases h), ?_⟩
  refine (callsIn_wide.2 cS).mono ?_
  rintro e w2 ⟨rfl, hB2⟩
  have hz2 := hB2.size
  have hB02 := HW1.out.2.2.1.trans (hB2.mono HW1.out.2.2.1.size)
  have hR2 := HW1.out.2.1.turn (Turn.ofBelow hB2) (by have := HW1.out.2.2.2.2.2; omega)
  clear cS g0 g1
  by_cases hsm : zs.length ≤ 40 ∧ ne ≤ 120 ∧ n1 ≤ 40
  case neg =>
    have hRc : w2.cell? ⟨w.heap.size + 1 + 1, 0, none⟩ = some (.bool false) := hR2.cell 0
    have hZc : w2.frozen? ⟨w.heap.size + 1 + 1, 0, none⟩ = false := hR2.free 0
    have hc := World.cell?_setCell_same w2 ⟨w.heap.size + 1 + 1, 0, none⟩ (.bool true) hRc
    have hfin := hB02.setCell (p := ⟨w.heap.size + 1 + 1, 0, none⟩) (by show w.heap.size ≤ w.heap.size + 1 + 1; omega) (.bool true)
    have HF := Lib.hid (And.intro hc hfin)
    clear hc hfin hB02 hR2 HW1
    cases q with
    | false =>
      clear hsm hq
      gi_wp2_with fail
      refine ⟨.bool true, ?_, rfl, HF.out.2⟩
      simp [results, Tryz.f7, go_sem, HF.out.1]
    | true =>
      have h100 : 40 < (n1 : Int) := by
        have h1 : zs.length ≤ 40 := by simpa using (Bool.and_eq_true_iff.1 hq).1
        have h2 : ne ≤ 120 := by simpa using (Bool.and_eq_true_iff.1 hq).2
        have : ¬ n1 ≤ 40 := fun h3 => hsm ⟨h1, h2, h3⟩
        omega
      clear hsm hq
      gi_wp2_with fail
      refine ⟨.bool true, ?_, rfl, HF.out.2⟩
      simp [results, Tryz.f7, go_sem, HF.out.1]
  case pos =>
  obtain ⟨h40, h120, h100⟩ := hsm
  have hqt : q = true := by rw [← hq, decide_eq_true h40, decide_eq_true h120]; rfl
  subst hqt
  have h100I : ¬ 40 < (n1 : Int) := by omega
  have hG2 := HW1.out.1.turn (Turn.ofBelow hB2) (by have := HW1.out.2.2.2.2.2; omega)
  have hX2 := HW1.out.2.2.2.2.1.turn (Turn.ofBelow hB2) (by have := HW1.out.2.2.2.2.2; omega)
  have hT2 := HW1.out.2.2.2.1.below hB2
  have cM := made_any a0 zs cf e0 ne ce Q w2 h40 h120 (HA.out.1.under hB02 (Nat.le_refl _)) (HA.out.2.1.under hB02 (Nat.le_refl _)) hT2.c
  have g0 := hG2.cell 0
  have g1 := hG2.cell 1
  simp only [List.getElem?_toArray, List.getElem?_cons_zero, List.getElem?_cons_succ] at g0 g1
  have HW2 := Lib.hid (And.intro hB02 (And.intro hR2 (And.intro hX2 (And.intro hT2.b (show w.heap.size + 3 ≤ w2.heap.size by have := HW1.out.2.2.2.2.2; omega)))))
  have H40 := Lib.hid (And.intro h40 h100)
  clear hG2 hX2 hT2 hR2 hB02 hB2 HW1 hq h40 h120 h100 hz2
  gi_wp2_with fail
  refine ⟨trivial, fun h => (by cases h), ?_⟩
  refine (callsIn_wide.2 cM).mono ?_
  rintro e w3 hMP
  obtain ⟨X, s, obs, vl, mb, n, f, rfl, hMO⟩ := hMP.ok HW2.out.2.2.2.1
  obtain ⟨L, hL⟩ : ∃ L, L = obs.length := ⟨_, rfl⟩
  have hLI : (L : Int) ≤ 40 := by have := hMO.len; have := H40.out.1; omega
  have hl6 := hMO.go.row.lenRun 3
  rw [refsI_length, ← hL] at hl6
  have HO := Lib.hid hMO
  have HL := Lib.hid hL
  have hB3 := hMO.go.ar.below
  by_cases hn0 : L = 0
  · have hLz : ((L : Int) == 0) = true := by simp; omega
    have hR3 := HW2.out.2.1.turn (Turn.ofBelow hB3) (by have := HW2.out.2.2.2.2; omega)
    have hB03 := HW2.out.1.trans (hB3.mono HW2.out.1.size)
    have hRc : w3.cell? ⟨w.heap.size + 1 + 1, 0, none⟩ = some (.bool false) := hR3.cell 0
    have hZc : w3.frozen? ⟨w.heap.size + 1 + 1, 0, none⟩ = false := hR3.free 0
    have hc := World.cell?_setCell_same w3 ⟨w.heap.size + 1 + 1, 0, none⟩ (.bool true) hRc
    have hfin := hB03.setCell (p := ⟨w.heap.size + 1 + 1, 0, none⟩) (by show w.heap.size ≤ w.heap.size + 1 + 1; omega) (.bool true)
    have HF := Lib.hid (And.intro hc hfin)
    clear hc hfin hR3 hB03 hB3 hMO hMP cM g0 g1 hL hn0
    gi_wp2_with fail
    refine ⟨.bool true, ?_, rfl, HF.out.2⟩
    simp [results, Tryz.f7, go_sem, HF.out.1]
  have hLz : ((L : Int) == 0) = false := by simp; omega
  have hL0 : 0 < L := by omega
  rcases hMO.go.row.is with ⟨_, e⟩ | ⟨g, cap, cur, hv, hg, hlc, hcm, hcs, hcell⟩
  · have := congrArg List.length e; rw [refsI_length, ← hL] at this; simp at this; omega
  rw [refsI_length, ← hL] at hv
  subst hv
  have hRL : (refsI obs).length = L := by rw [refsI_length, ← hL]
  have hX3 := HW2.out.2.2.1.turn (Turn.ofBelow hB3) (by have := HW2.out.2.2.2.2; omega)
  have x0 := hX3.cell 0
  have x1 := hX3.cell 1
  have x2 := hX3.cell 2
  have x3 := hX3.cell 3
  have x4 := hX3.cell 4
  have x5 := hX3.cell 5
  simp only [List.getElem?_toArray, List.getElem?_cons_zero, List.getElem?_cons_succ] at x0 x1 x2 x3 x4 x5
  have cC := cfMade_any b0 b1 b2 b3 b4 b5 hb6 w3
  have hlcI : (L : Int) ≤ (cap : Int) := by omega
  have hcmI : (cap : Int) ≤ 9223372036854775807 := by omega
  have HR := Lib.hid (And.intro hRL hX3)
  clear hMO hMP cM g0 g1 hL hn0 hg hlc hcm hcs hcell hRL hX3 hB3
  gi_wp2_with fail
  clear hl6
  refine ⟨trivial, fun h => (by cases h), ?_⟩
  refine (callsIn_wide.2 cC).mono ?_
  rintro e w4 ⟨gc, rfl, hmay, hB4, _⟩
  have hCf := Blk.new w4 gc.arr 30
  have hcb3 : w3.heap.size ≤ w4.heap.size := hB4.size
  have hB45 := (Below.refl w4.heap.size w4).alloc (Nat.le_refl _) (.cells gc.arr 30)
  have hB35 := hB4.trans (hB45.mono hB4.size)
  have hgo5 := HO.out.go.ask hB35
  have hX5 := HR.out.2.turn (Turn.ofBelow hB35) (fun e => Nat.lt_irrefl _ (Nat.lt_of_lt_of_le HR.out.2.lt e))
  have y4 := hX5.cell 4
  simp only [List.getElem?_toArray, List.getElem?_cons_zero, List.getElem?_cons_succ] at y4
  have hl6 := hgo5.row.lenRun 3
  rw [refsI_length, ← HL.out] at hl6
  obtain ⟨im, hm5, him, hw5⟩ := mod_run (L := L) hL0 (show b4 < 256 by omega)
  obtain ⟨kk, hkk⟩ : ∃ kk : Nat, kk = 1 + im := ⟨_, rfl⟩
  have hin : ¬ (L : Int) = 0 := by omega
  have hkL : kk ≤ L := by omega
  have hkLI : (kk : Int) ≤ (L : Int) := by omega
  have hkcI : (kk : Int) ≤ (cap : Int) := by omega
  have hk0 : (0 : Int) ≤ (kk : Int) := by omega
  have hRL := HR.out.1
  have hLk : (refsI obs).length = kk + (L - kk) := by omega
  have hrow : ∀ W, RefRow W (.slice (some ⟨g, 0, none⟩) L cap) (refsI obs) → RefRow W (.slice (some ⟨g, 0, none⟩) kk cap) ((refsI obs).take kk) := fun W h => by
    have h9 : RefRow W (.slice (some ⟨g, 0, none⟩) (refsI obs).length cap) (refsI obs) := by rw [hRL]; exact h
    exact RefRow.takes _ _ _ hLk h9
  have htl : ((refsI obs).take kk).length = kk := by rw [List.length_take]; omega
  have hrest : restI (ptsAt obs) [] (refsI obs) ≤ 6 * (refsI obs).length := restI_nil_le _ 6 _ HO.out.few
  have cRe := reach_any (.slice (some ⟨g, 0, none⟩) kk cap) ((refsI obs).take kk) (refsI obs) mb n f (ptsAt obs) (w4.alloc (.cells gc.arr 30)) (hrow _ hgo5.row) hgo5.grp HO.out.nd HO.out.bd (by omega) (fun x hx => .inr (List.mem_of_mem_take hx)) HO.out.pin (by omega) (fun x hx => by have := HO.out.few x hx; omega)
  have HK := Lib.hid (And.intro hrow (And.intro htl (And.intro hkL (And.intro hRL hmay))))
  have H5 := Lib.hid (And.intro hgo5 (And.intro hCf hB35))
  have hsum := wrapK hkk (show im < 1000 by omega)
  clear cC x0 x1 x2 x3 x4 x5 hmay hB4 hCf hB45 hB35 hgo5 hX5 hRL hLk hrow htl hrest hkL him hkk
  gi_wp2_with fail
  clear hl6 y4 hm5 hw5 hsum
  refine ⟨trivial, fun h => (by cases h), ?_⟩
  obtain ⟨hgo5, hCf, hB35⟩ := H5.out
  clear H5
  generalize hcb : w4.heap.size = cb at *
  generalize w4.alloc (.cells gc.arr 30) = w5 at *
  refine (callsIn_wide.2 cRe).mono ?_
  rintro e w6 ⟨rb, vis, rfl, hMap, hrb, hB6, hvn, hvin, hvis⟩
  have hgo6 := hgo5.ask hB6
  have hCf6 := hCf.turn (Turn.ofBelow hB6) (fun e => Nat.lt_irrefl _ (Nat.lt_of_lt_of_le hCf.lt e))
  have hB36 := hB35.trans (hB6.mono hB35.size)
  have hR3 := HW2.out.2.1.turn (Turn.ofBelow HO.out.go.ar.below) (by have := HW2.out.2.2.2.2; omega)
  have hB03 := HW2.out.1.trans (HO.out.go.ar.below.mono HW2.out.1.size)
  have hR6 := hR3.turn (Turn.ofBelow hB36) (fun e => by have := hR3.lt; omega)
  have hB06 := hB03.trans (hB36.mono hB03.size)
  have hbA := (Below.refl w6.heap.size w6).alloc (Nat.le_refl _) (.cells #[.map (some rb)] 42)
  have h7 : QuS w w2 mb n X s obs (.slice (some ⟨g, 0, none⟩) L cap) f gc (w.heap.size + 1 + 1) cb w6.heap.size rb vis (w6.heap.size + 1) 0 [] (w6.alloc (.cells #[.map (some rb)] 42)) :=
    ⟨hgo6.ask hbA, hR6.alloc _, ⟨gc.e, gc.k, hCf6.alloc _⟩, Blk.new w6 _ _, hMap.ask hbA, hB06.trans (hbA.mono hB06.size), by simp, Nat.zero_le _, trivial⟩
  have hfar : ¬ GoHas X mb (.slice (some ⟨g, 0, none⟩) L cap) f cb ∧ w2.heap.size ≤ cb ∧ w.heap.size ≤ cb ∧ cb ≠ w.heap.size + 1 + 1 ∧ cb ≠ w6.heap.size ∧ cb ≠ rb ∧ cb < w6.heap.size + 1 ∧ w.heap.size + 1 + 1 < w2.heap.size ∧ rb < w6.heap.size + 1 ∧ w2.heap.size ≤ w6.heap.size := by
    have h1 := hCf.lt
    have h2 := HW2.out.2.2.2.2
    have h3 := hB6.size
    have h4 := HO.out.go.ar.below.size
    have h5 : w3.heap.size ≤ cb := hcb3
    have h6 := hMap.lt
    exact ⟨fun e => by have := HO.out.go.lt _ e; omega, by omega, by omega, by omega, by omega, by omega, by omega, by omega, by omega, by omega⟩
  have HS0 := Lib.hid (And.intro h7 (And.intro hvn (And.intro hvin hvis)))
  have HF := Lib.hid hfar
  clear cRe hgo5 hCf hB35 hMap hrb hB6 hvn hvin hvis hgo6 hCf6 hB36 hR3 hB03 hR6 hB06 hbA h7 hfar hcb hcb3
  gi_wp2_with fail
  obtain ⟨mx, hmx⟩ : ∃ mx, mx = w6.heap.size := ⟨_, rfl⟩
  have h7 := HS0.out.1
  have hvn := HS0.out.2.1
  have hvin := HS0.out.2.2.1
  have hvis := HS0.out.2.2.2
  have hF := HF.out
  clear HS0 HF
  generalize w6.alloc (.cells #[.map (some rb)] 42) = W7 at *
  rw [← hmx] at h7 hF ⊢
  have HV := Lib.hid (And.intro hvn (And.intro hvin hvis))
  have HF := Lib.hid hF
  have hv60 : vis.length ≤ 40 := by
    have h1 := nodup_sub hvn hvin
    have h2 := HR.out.1
    omega
  have HV60 := Lib.hid hv60
  clear hvn hvin hvis hF hmx hv60
  refine wpIn_loop_grow (fun T u => spl (spl T u 13 9) u 55 62) (fun u ds W => ∃ (i hi : Nat), i ≤ 4 ∧ u 55 = .int .i64 (i : Int) ∧ QuS w w2 mb n X s obs (.slice (some ⟨g, 0, none⟩) L cap) f gc (w.heap.size + 1 + 1) cb mx rb vis (mx + 1) hi ds W) (fun u => 4 - (intOf (u 55)).toNat) rfl ⟨0, 0, Nat.zero_le _, rfl, h7⟩ ?_
  clear h7
  rintro u ds W ⟨i, hi, hi4, hu, hq⟩
  simp only [spl, List.take_succ_cons, List.take_zero, List.drop_succ_cons, List.drop_zero, List.cons_append, List.nil_append, List.range'_succ, List.range'_zero, List.map_cons, List.map_nil, Nat.reduceAdd, hu]
  have hi0 : (0 : Int) ≤ (i : Int) := by omega
  by_cases hlt : i < 4
  case neg =>
    have hi1 : ¬ (i : Int) < 4 := by omega
    have hRc : W.cell? ⟨w.heap.size + 1 + 1, 0, none⟩ = some (.bool false) := hq.r.cell 0
    have hZc : W.frozen? ⟨w.heap.size + 1 + 1, 0, none⟩ = false := hq.r.free 0
    have hc := World.cell?_setCell_same W ⟨w.heap.size + 1 + 1, 0, none⟩ (.bool true) hRc
    have hfin := hq.below.setCell (p := ⟨w.heap.size + 1 + 1, 0, none⟩) (by show w.heap.size ≤ w.heap.size + 1 + 1; omega) (.bool true)
    have hmk : Marks (mx + 1) hi ds (W.setCell ⟨w.heap.size + 1 + 1, 0, none⟩ (.bool true)) := hq.marks.keep fun k k1 _ k3 => by
      have hne : k ≠ w.heap.size + 1 + 1 := by have := HF.out; omega
      exact (((Turn.refl (fun k => k = w.heap.size + 1 + 1) W).set ⟨w.heap.size + 1 + 1, 0, none⟩ (.bool true) (.inr rfl)).block k (Array.getElem?_eq_some_iff.1 k3).1 hne).trans k3
    have hsz : hi ≤ (W.setCell ⟨w.heap.size + 1 + 1, 0, none⟩ (.bool true)).heap.size := by simpa using hq.top
    have hrl : w.heap.size + 1 + 1 < (W.setCell ⟨w.heap.size + 1 + 1, 0, none⟩ (.bool true)).heap.size := by simpa using hq.r.lt
    have HH := Lib.hid (And.intro hc (And.intro hfin (And.intro hmk (And.intro hsz hrl))))
    clear hc hfin hmk hsz hrl hq hlt
    gi_wp2_with fail
    obtain ⟨hc, hfin, hmk, hsz, hrl⟩ := HH.out
    generalize W.setCell ⟨w.heap.size + 1 + 1, 0, none⟩ (.bool true) = W9 at *
    have hx := HF.out
    refine leavesP_marks hmk (by omega) fun w' hb' _ hcs => ?_
    have hRF := hcs ⟨w.heap.size + 1 + 1, 0, none⟩ _ (by show w.heap.size + 1 + 1 < _; omega) hc
    refine ⟨.bool true, ?_, rfl, hfin.trans (hb'.mono (by omega))⟩
    simp [results, Tryz.f7, go_sem, hRF]
  have hi1 : (i : Int) < 4 := by omega
  obtain ⟨ge, gk, hCb⟩ := hq.c
  have z0 := hCb.cell 0
  have f0 := hCb.free 0
  have z1 := hCb.cell 1
  have f1 := hCb.free 1
  have hT1 : Turn (fun k => k = cb) W ((W.setCell ⟨cb, 0, none⟩ (.int .i64 (i : Int))).setCell ⟨cb, 1, none⟩ (.bool true)) := ((Turn.refl (fun k => k = cb) W).set ⟨cb, 0, none⟩ (.int .i64 (i : Int)) (.inr rfl)).set ⟨cb, 1, none⟩ (.bool true) (.inr rfl)
  have hC1 : Blk ((W.setCell ⟨cb, 0, none⟩ (.int .i64 (i : Int))).setCell ⟨cb, 1, none⟩ (.bool true)) cb ({ gc with e := (i : Int), k := true } : Cfg).arr 30 := ((hCb.setAt 0 (.int .i64 (i : Int))).setAt 1 (.bool true)).is rfl
  have hz1 : (W.setCell ⟨cb, 0, none⟩ (.int .i64 (i : Int))).cell? ⟨cb, 1, none⟩ = some (.bool gk) := (hCb.setAt 0 (.int .i64 (i : Int))).cell 1
  have hy1 : (W.setCell ⟨cb, 0, none⟩ (.int .i64 (i : Int))).frozen? ⟨cb, 1, none⟩ = false := (hCb.setAt 0 (.int .i64 (i : Int))).free 1
  have hq1 : QuS w w2 mb n X s obs (.slice (some ⟨g, 0, none⟩) L cap) f gc (w.heap.size + 1 + 1) cb mx rb vis (mx + 1) hi ds ((W.setCell ⟨cb, 0, none⟩ (.int .i64 (i : Int))).setCell ⟨cb, 1, none⟩ (.bool true)) := by
    have hF := HF.out
    have hne : ∀ k, k ≠ cb → k < W.heap.size → ((W.setCell ⟨cb, 0, none⟩ (.int .i64 (i : Int))).setCell ⟨cb, 1, none⟩ (.bool true)).heap[k]? = W.heap[k]? := fun k h1 h2 => hT1.block k h2 h1
    exact ⟨hq.go.turned hT1 (fun k e e2 => hF.1 (by have e3 : k = cb := e2; rw [← e3]; exact e)) (fun k h1 e => by have e3 : k = cb := e; omega), hq.r.turn hT1 (by omega), ⟨_, _, hC1⟩, hq.m.turn hT1 (by omega), hq.mp.turn hT1 (by omega), hq.below.trans (hT1.below _ hq.below.size (fun k h1 e => by have e3 : k = cb := e; omega)), by have := hq.low; simpa using this, by have := hq.top; simpa using this, hq.marks.keep fun k k1 _ k3 => (hT1.block k (Array.getElem?_eq_some_iff.1 k3).1 (fun e => by have e3 : k = cb := e; omega)).trans k3⟩
  have c8 : ((W.setCell ⟨cb, 0, none⟩ (.int .i64 (i : Int))).setCell ⟨cb, 1, none⟩ (.bool true)).cell? ⟨cb, 8, none⟩ = some (.int .i64 gc.m) := hC1.cell 8
  obtain ⟨room, m, hgl, hr64, hgm, hm1, hm64⟩ := cfg_room HK.out.2.2.2.2
  have cN := gm_new (E := QuE (w.heap.size + 1 + 1) cb mx rb ds) hq1.go HO.out.P gc.m (fun k e => by
    rcases e with (e | e | e | e) | e
    · rw [e]; exact hq1.r.lt
    · rw [e]; exact hC1.lt
    · rw [e]; exact hq1.m.lt
    · rw [e]; exact hq1.mp.lt
    · have := hq1.marks.inside k e; have := hq1.top; omega) (by rw [hgm]; omega) HO.out.tab HO.out.tab.lt
  simp only [List.getElem?_toArray, List.getElem?_cons_zero] at z0
  have z1' : W.cell? ⟨cb, 1, none⟩ = some (.bool gk) := z1
  have z0' : W.cell? ⟨cb, 0, none⟩ = some (.int .i64 ge) := z0
  have HQ1 := Lib.hid (And.intro hq1 (And.intro hC1 (And.intro hgl hr64)))
  clear z0 z1 hCb hT1 hC1 hq1 hq hgl hr64 hgm hm1 hm64
  gi_wp2_with fail
  clear z0' z1' f0 f1 hz1 hy1
  refine ⟨trivial, fun h => (by cases h), ?_⟩
  obtain ⟨hq1, hC1, hgl, hr64⟩ := HQ1.out
  clear HQ1
  generalize (W.setCell ⟨cb, 0, none⟩ (.int .i64 (i : Int))).setCell ⟨cb, 1, none⟩ (.bool true) = W1 at *
  refine (callsIn_wide.2 cN).mono ?_
  rintro e W2 ⟨T, rfl, hGm, hB2⟩
  obtain ⟨tm, htm⟩ : ∃ tm, T.m = tm := ⟨_, rfl⟩
  rw [htm]
  have hC2 := hC1.turn (Turn.ofBelow hB2) (fun e => Nat.lt_irrefl _ (Nat.lt_of_lt_of_le hC1.lt e))
  have k0 : W2.cell? ⟨cb, 0, none⟩ = some (.int .i64 (i : Int)) := hC2.cell 0
  have k1 : W2.cell? ⟨cb, 1, none⟩ = some (.bool true) := hC2.cell 1
  have k2 : W2.cell? ⟨cb, 2, none⟩ = some (.int .i64 gc.p) := hC2.cell 2
  have k3 : W2.cell? ⟨cb, 3, none⟩ = some (.int .i64 gc.t) := hC2.cell 3
  have k4 : W2.cell? ⟨cb, 4, none⟩ = some (.int .i64 gc.r) := hC2.cell 4
  have k5 : W2.cell? ⟨cb, 5, none⟩ = some (.int .i64 gc.s) := hC2.cell 5
  have k6 : W2.cell? ⟨cb, 6, none⟩ = some (.int .i64 gc.g) := hC2.cell 6
  have k7 : W2.cell? ⟨cb, 7, none⟩ = some (.int .i64 gc.f) := hC2.cell 7
  have k8 : W2.cell? ⟨cb, 8, none⟩ = some (.int .i64 gc.m) := hC2.cell 8
  have k9 : W2.cell? ⟨cb, 9, none⟩ = some (.int .i64 gc.l) := hC2.cell 9
  have k10 : W2.cell? ⟨cb, 10, none⟩ = some (.int .i64 gc.b) := hC2.cell 10
  have cE := en_new (e := i) (room := room) hGm htm { gc with e := (i : Int), k := true } rfl (by omega) hgl (by omega)
  have HQ := Lib.hid (And.intro hq1 (And.intro hC1 hB2))
  clear cN hGm htm hB2 hq1 hC1 hgl hr64 hC2 c8
  gi_wp2_with fail
  clear k0 k1 k2 k3 k4 k5 k6 k7 k8 k9 k10
  refine ⟨trivial, fun h => (by cases h), ?_⟩
  refine (callsIn_wide.2 cE).mono ?_
  rintro e W3 ⟨bt, H, rfl, h3, hB3⟩
  have hk3 : ∀ k, QuE (w.heap.size + 1 + 1) cb mx rb ds k → W3.heap[k]? = W1.heap[k]? := fun k e => by
    have hlt1 : k < W1.heap.size := by
      rcases e with (e | e | e | e) | e
      · rw [e]; exact HQ.out.1.r.lt
      · rw [e]; exact HQ.out.2.1.lt
      · rw [e]; exact HQ.out.1.m.lt
      · rw [e]; exact HQ.out.1.mp.lt
      · have := HQ.out.1.marks.inside k e; have := HQ.out.1.top; omega
    exact (hB3.block k (Nat.lt_of_lt_of_le hlt1 HQ.out.2.2.size)).trans (HQ.out.2.2.block k hlt1)
  have hlo := (HK.out.1 _ h3.gm.go.row).lenRun 3
  rw [HK.out.2.1] at hlo
  have H3 := Lib.hid (And.intro h3 hk3)
  clear cE h3 hk3 hB3
  gi_wp2_with fail
  clear hlo
  gi_loopw [70] (fun v70 V => ∃ (j : Nat) (T : MkB), j ≤ kk ∧ v70 = .int .i64 (j : Int) ∧ EnIn i w2.heap.size mb n X s obs (.slice (some ⟨g, 0, none⟩) L cap) f (ptsAt obs) (QuE (w.heap.size + 1 + 1) cb mx rb ds) T (Col.white.shades ((refsI obs).take j)) H bt tm room EnS.none w2 V ∧ ∀ k, QuE (w.heap.size + 1 + 1) cb mx rb ds k → V.heap[k]? = W1.heap[k]?) (fun v70 _ => kk - (intOf v70).toNat)
  case atStart => exact ⟨0, T, Nat.zero_le _, rfl, by rw [List.take_zero, Col.shades_nil]; exact H3.out.1, H3.out.2⟩
  case round =>
  obtain ⟨j, T4, hj, rfl, h4, hk4⟩ := hrel
  have hj0 : (0 : Int) ≤ (j : Int) := by omega
  by_cases hlt2 : j < kk
  · have hj1 : (j : Int) < (kk : Int) := by omega
    obtain ⟨x, hx⟩ : ∃ x, obs[j]? = some x := ⟨_, List.getElem?_eq_getElem (by have := HL.out; have := HK.out.2.2.1; omega)⟩
    have hca := row_cellB h4.gm.go.row (refsI_at hx)
    have hxR : (x.r : Int) ∈ refsI obs := List.mem_of_getElem? (refsI_at hx)
    have hxb := HO.out.bd _ hxR
    have cSh := h4.gm.shade (x.r : Int) hxR hxb.1 hxb.2
    rw [h4.tm, Col.shades_snoc, ← take_nextR (refsI_at hx)] at cSh
    have H4 := Lib.hid (And.intro h4 hk4)
    clear hx hxR hxb h4 hk4
    gi_wp2_with fail
    refine ⟨trivial, fun h => (by cases h), ?_⟩
    refine (callsIn_wide.2 cSh).mono ?_
    rintro e V5 ⟨rfl, T5, hm5, hG5, hk5⟩
    obtain ⟨h5, hE5⟩ := H4.out.1.went (hm5.trans rfl) hG5 hk5
    have H5 := Lib.hid (And.intro h5 (fun k e => (hE5 k e).trans (H4.out.2 k e)))
    clear cSh hm5 hG5 hk5 hca h5 hE5
    gi_wp2_with fail
    go_roundw
    case rel => exact ⟨j + 1, T5, hlt2, by go_num, H5.out.1, H5.out.2⟩
    case measure => simp [intOf]; omega
  have hj1 : ¬ (j : Int) < (kk : Int) := by omega
  obtain rfl : j = kk := by omega
  have hTr : Tri (ptsAt obs) ((refsI obs).take j) (Col.white.shades ((refsI obs).take j)) [] := by
    have h9 := (tri_whiteP (ptsAt obs)).shades ((refsI obs).take j) (fun x hx => by have := HO.out.bd x (List.mem_of_mem_take hx); omega)
    rw [List.nil_append] at h9; exact h9
  have H4 := Lib.hid (And.intro h4 (And.intro hk4 hTr))
  clear h4 hk4 hTr hj hlt2 hj1 H3
  gi_wp2_with fail
  gi_loopw [18, 80] (fun v18 v80 V => ∃ (jj : Nat) (T : MkB) (c : Col) (l : List Int), jj ≤ n1 ∧ v18 = .int .i64 (l.length : Int) ∧ v80 = .int .i64 (jj : Int) ∧ EnIn i w2.heap.size mb n X s obs (.slice (some ⟨g, 0, none⟩) L cap) f (ptsAt obs) (QuE (w.heap.size + 1 + 1) cb mx rb ds) T c H bt tm room EnS.none w2 V ∧ (∀ k, QuE (w.heap.size + 1 + 1) cb mx rb ds k → V.heap[k]? = W1.heap[k]?) ∧ Tri (ptsAt obs) ((refsI obs).take j) c l) (fun _ v80 _ => n1 - (intOf v80).toNat)
  case atStart => exact ⟨0, T4, _, [], Nat.zero_le _, rfl, rfl, H4.out⟩
  case round =>
  clear H4 T4
  obtain ⟨jj, T5, c5, l5, hjj, rfl, rfl, h5, hk5, hTr5⟩ := hrel
  have hjj0 : (0 : Int) ≤ (jj : Int) := by omega
  have hl5 : l5.length ≤ 40 := by have := hTr5.le h5.gm.inn; have := HL.out; omega
  by_cases hlt3 : jj < n1
  · have hjj1 : (jj : Int) < (n1 : Int) := by omega
    obtain ⟨bk, off, rfl, hbk, hq0, hwf⟩ := HA.out.2.2 jj (by have := HN1.out; omega)
    have hB09 := HW2.out.1.trans (h5.gm.below.mono HW2.out.1.size)
    have hd0 := (hB09.cell (p := ⟨bk, off + jj, none⟩) hbk).trans hq0
    obtain ⟨qv, hqv, hq256⟩ := u8_natW hwf
    rw [hqv] at hd0
    obtain ⟨r4, hr4, hr44, hru, hri⟩ := mod4 hq256
    have cT := h5.gm.trace HO.out.cl (r4 : Int)
    rw [h5.tm] at cT
    have H5 := Lib.hid (And.intro h5 (And.intro hk5 hTr5))
    clear h5 hk5 hTr5 hB09 hbk hq0 hwf hqv hq256
    gi_wp2_with fail
    refine ⟨trivial, fun h => (by cases h), ?_⟩
    refine (callsIn_wide.2 cT).mono ?_
    rintro e V6 ⟨k6, T6, c6, l6, rfl, hlk6, hm6, hG6, hk6, hsc6, _, _⟩
    obtain ⟨h6, hE6⟩ := H5.out.1.went (hm6.trans rfl) hG6 hk6
    have hT6 := H5.out.2.2.scans ptsAt_zero hsc6
    have hl6 : (l5 ++ l6).length ≤ 40 := by have := hT6.le h6.gm.inn; have := HL.out; omega
    obtain ⟨ls, hls⟩ : ∃ ls, ls = (l5 ++ l6).length := ⟨_, rfl⟩
    have hla : ls = l5.length + k6 := by rw [hls, List.length_append, hlk6]
    have H6 := Lib.hid (And.intro h6 (And.intro (fun k e => (hE6 k e).trans (H5.out.2.1 k e)) (And.intro hT6 (And.intro hls hla))))
    have hsum6 := addK hla (by omega)
    clear cT hm6 hG6 hk6 hsc6 h6 hE6 hT6 hl6 hla hd0 hr4 hru hri hlk6 hls
    gi_wp2_with fail
    go_roundw
    case rel => exact ⟨jj + 1, T6, c6, l5 ++ l6, hlt3, by first | (rw [← H6.out.2.2.2.1]; done) | (rw [← H6.out.2.2.2.1, H6.out.2.2.2.2]; exact congrArg (Value.int .i64) (Int.natCast_add _ _).symm) | (rw [← H6.out.2.2.2.1, H6.out.2.2.2.2]; simp), by go_num, H6.out.1, H6.out.2.1, H6.out.2.2.1⟩
    case measure => simp [intOf]; omega
  have hjj1 : ¬ (jj : Int) < (n1 : Int) := by omega
  have hFT : ∀ (l9 : List Int) (c9 : Col), Scans (ptsAt obs) (remC i (if i = 2 then c5 else c5.shades ((refsI obs).take j)) EnS.none) l9 c9 → c9.dry → (l5 ++ l9).length = vis.length ∧ ∀ z, c9.ma z = true ↔ z ∈ vis := fun l9 c9 hsc hdry => by
    have hT9 := fin_tri hTr5 ptsAt_zero (fun z hz => by have := HO.out.bd z (List.mem_of_mem_take hz); omega) hsc
    have hre : ∀ z, Rch (rootsE i ((refsI obs).take j) ((refsI obs).take j)) (ptsAt obs) z ↔ Rch ((refsI obs).take j) (ptsAt obs) z := fun z => by
      unfold rootsE
      constructor
      · intro h; refine h.more fun y hy => ?_
        split at hy
        · exact hy
        · rcases List.mem_append.1 hy with e | e <;> exact e
      · intro h; refine h.more fun y hy => ?_
        split
        · exact hy
        · exact List.mem_append.2 (.inl hy)
    exact ⟨same_length hT9.nod HV.out.1 fun z => (hT9.ordDry hdry z).trans ((hre z).trans (HV.out.2.2 z).symm), fun z => (hT9.dry hdry z).trans ((hre z).trans (HV.out.2.2 z).symm)⟩
  have HFT := Lib.hid hFT
  clear hFT
  have hD := h5.ask (Below.refl _ wr).drew
  have hbM : Blk wr mx #[.map (some rb)] 42 := by
    have h9 := HQ.out.1.m; unfold Blk at *; rw [hk5 mx (.inl (.inr (.inr (.inl rfl))))]; exact h9
  have hmM := HQ.out.1.mp.keep (hk5 rb (.inl (.inr (.inr (.inr rfl)))))
  have hmD := hmM.ask (Below.refl _ wr).drew
  have hbD := hbM.turn (Turn.ofBelow (Below.refl _ wr).drew) (fun e => Nat.lt_irrefl _ (Nat.lt_of_lt_of_le hbM.lt e))
  have sd0 := hbD.cell 0
  simp only [List.getElem?_toArray, List.getElem?_cons_zero] at sd0
  have sd1 := hmD.len 3
  have cR := roots_any (some ⟨g, 0, none⟩) j cap wr.drew
  have hdr := (Below.refl wr.heap.size wr).drew
  have HD := Lib.hid (And.intro hD (And.intro hmD (And.intro hbD (And.intro hk5 (And.intro hTr5 hdr)))))
  have hnn : ((vis.length : Int) != (vis.length : Int)) = false := by simp
  clear h5 hk5 hTr5 hD hbM hmM hmD hbD hdr hlt3 hjj
  gi_wp2_with fail
  refine wpIn_wide.2 ?_
  go_region_held3 (fun W' => W'.cell? ⟨mx, 0, none⟩ = some (.map (some rb)) ∧ (Builtin.len_ #[42] 3 #[.map (some rb)]).run Tryz.prog W' = .ok (.int .i64 (vis.length : Int)) W') (first | exact hS5 | exact hS4 | exact hS3 | exact ⟨sd0, sd1⟩)
    (first
      | (go_at_call 32; refine cC.mono ?_; rintro e V5 ⟨rfl, hB5⟩; have hm5 := hm4.ask hB5; have hS5 := And.intro ((hB5.cell (p := ⟨mx, 0, none⟩) (World.block_lt_of_cell? _ _ hS4.1)).trans hS4.1) (hm5.len 3); clear cC)
      | (go_at_call 20; refine cF.mono ?_; rintro e V4 ⟨T9, H9, l9, c9, rfl, hsc, hdry, h9, hk9⟩; obtain ⟨hov, hmv⟩ := HFT.out l9 c9 hsc hdry; have hm4 := hm3.keep (hk9 rb (.inl (.inl (.inr (.inr (.inr rfl)))))); have hS4 := And.intro ((World.cell?_of_block (a := ⟨mx, 0, none⟩) (hk9 mx (.inl (.inl (.inr (.inr (.inl rfl))))))).trans hS3.1) (hm4.len 3); have hov2 : vis.length = l5.length + l9.length := (by rw [List.length_append] at hov; exact hov.symm); have hov3 : l5.length + l9.length < 100000 := (by have := HV60.out; omega); have hsumP : (l5.length : Int) + (l9.length : Int) = (vis.length : Int) := (by rw [hov2]; exact (Int.natCast_add _ _).symm); have hwv : IntKind.i64.wrap (vis.length : Int) = (vis.length : Int) := wrapV (by omega); clear hov2 hov3; have cC := h9.mkr.at_.count vis HV.out.1 (fun z => (hmv z).symm); rw [h9.tm] at cC; clear cF)
      | (go_at_call 21; refine cR.mono ?_; rintro e V3 ⟨rfl, hV3⟩; have h3 := HD.out.1.box (.cells #[.slice (some ⟨g, 0, none⟩) j cap] 33); have hbx3 : (wr.drew.alloc (.cells #[.slice (some ⟨g, 0, none⟩) j cap] 33)).cell? ⟨wr.drew.heap.size, 0, none⟩ = some (.slice (some ⟨g, 0, none⟩) j cap) := (Blk.new wr.drew _ _).cell 0; have hm3 := HD.out.2.1.ask ((Below.refl wr.drew.heap.size wr.drew).alloc (Nat.le_refl _) (.cells #[.slice (some ⟨g, 0, none⟩) j cap] 33)); have hb3 := HD.out.2.2.1.alloc (.cells #[.slice (some ⟨g, 0, none⟩) j cap] 33); rw [hV3] at h3 hbx3 hm3 hb3; have cF := en_finish h3 (show i ≤ 3 by omega) HO.out.cl (by have := HL.out; have := H40.out.1; omega) ((refsI obs).take j) (HK.out.1 _ h3.gm.go.row) hbx3 (.inr rfl) (fun k e => .inr (.inr (.inl e))) (fun z hz => List.mem_of_mem_take hz); have hS3 := And.intro (hb3.cell 0) (hm3.len 3); simp only [List.getElem?_toArray, List.getElem?_cons_zero] at hS3; clear cR))
  all_goals
    have h10 := h9.ask hB5
    have hkE : ∀ k, QuE (w.heap.size + 1 + 1) cb mx rb ds k → V5.heap[k]? = W1.heap[k]? := fun k e => by
      have hl1 := HD.out.1.gm.ext k (.inl e)
      have e3 : V3.heap[k]? = wr.drew.heap[k]? := by rw [← hV3]; exact Below.heap_alloc _ _ _ hl1
      have hl3 : k < V3.heap.size := by rw [← hV3, World.size_alloc]; omega
      have hl4 : k < V4.heap.size := h9.gm.ext k (.inl (.inl e))
      exact (hB5.block k hl4).trans ((hk9 k (.inl e)).trans (e3.trans ((HD.out.2.2.2.2.2.block k hl1).trans (HD.out.2.2.2.1 k e))))
    have H10 := Lib.hid (And.intro h10 (And.intro hkE (And.intro hm5 hmv)))
    have hb5c := hS5.1
    clear hwv h9 hk9 h3 hbx3 hm3 hb3 hm4 hm5 hS3 hS4 hS5 hB5 hV3 hsc hdry hov hmv h10 hkE hsumP hnn sd0 sd1
    gi_wp2_with fail
    refine ⟨trivial, fun h => (by cases h), ?_⟩
    refine (callsIn_wide.2 (allm_any tm V5)).mono ?_
    rintro e w' ⟨rfl, rfl⟩
    obtain ⟨h10, hkE, hm5, hmv⟩ := H10.out
    obtain ⟨S1, S2, hSee⟩ := h10.mkr.at_.sees
    have hTb5 := h10.mkr.at_.side.tab
    obtain ⟨q0, q1, hB7, hs7⟩ := toldW_facts tm 23 V5
    have hSee7 := hSee.below hB7
    have hTb7 := hTb5.below hB7
    have hltW := hSee.lt
    have hXltW := hSee.ar.lt
    have hTltW := hTb5.lt
    have hmxl : mx < V5.heap.size := h10.gm.ext mx (.inl (.inl (.inl (.inr (.inr (.inl rfl))))))
    have HX7 := Lib.hid (And.intro q0 (And.intro q1 (And.intro hB7 (And.intro hs7 (And.intro hSee7 hTb7)))))
    clear q0 q1 hB7 hs7 hSee7 hTb7 h10 hkE hm5 hmv hTb5 hb5c
    gi_wp2_with fail
    obtain ⟨q0, q1, hB7, hs7, hSee7, hTb7⟩ := HX7.out
    clear HX7
    generalize toldWorld tm 23 V5 = V7 at *
    have htm9 := H10.out.1.tm
    rw [← htm9] at q0
    have hlt7 := hSee7.lt
    have hXlt7 := hSee7.ar.lt
    have hTlt7 := hTb7.lt
    refine wpIn_rangeO rfl (by omega) (gf := 86) (lb := #[.pointer (some ⟨V5.heap.size, 0, none⟩), .pointer (some ⟨V5.heap.size + 1, 0, none⟩)]) rfl trivial (enters_of Tryz.func86 (by kernel_rfl) rfl)
      (told_seq (M - 1) (by omega) 23 c9.ma asks_marked (enters_of Tryz.func23 (by kernel_rfl) rfl) hSee7.maS V5.heap.size V7 hSee7 hTb7 q0 q1) KpMk.trans
      (fun V l o hl => KpMk.putObj (n0 := V7.heap.size) hlt7 hXlt7 (by omega) (by omega) V l o hl) (Below.refl _ _) (fun _ => rfl)
      (fun st V => Below V5.heap.size V5 V ∧ V7.heap.size ≤ V.heap.size)
      (fun c' st V => False)
      (fun st V V' row hs hg hr => ⟨(ownFrom_below (β := Unit) (Nat.le_refl _) (by omega)) () V V' row hs.1 hg hr, Nat.le_trans hs.2 hg.size⟩)
      (fun c' st V V' row hs hg hr => hs)
      ⟨hB7, Nat.le_refl _⟩ ?a1 ?assign ?body ?done ?stop
    case assign =>
      intro l0 z W' K hK
      unfold tmArgs
      gi_wp2
      exact hK
    case stop =>
      rintro D c' pre O V hD _ h
      exact h.elim
    case body =>
      rintro l0 pre O z V ⟨hBV, hVs⟩ hpl
      have hzV : ((z.1.val : Nat) : Int) ∈ vis := (H10.out.2.2.2 _).1 z.2.2
      have hzb := HO.out.bd _ (HV.out.2.1 _ hzV)
      have hwf3 : (Lit.int .i64 ((z.1.val : Nat) : Int)).wf = true := wf_ref hzb.1 hzb.2
      have hlk := (H10.out.2.2.1.ask hBV).look _ hwf3
      have hvv : visF vis ((z.1.val : Nat) : Int) = 1 := by unfold visF; rw [if_pos hzV]
      rw [hvv] at hlk
      have hcb : V.cell? ⟨mx, 0, none⟩ = some (.map (some rb)) := by
        have hbm : Blk V5 mx #[.map (some rb)] 42 := by
          have h9 := HQ.out.1.m; unfold Blk at *; rw [H10.out.2.1 mx (.inl (.inr (.inr (.inl rfl))))]; exact h9
        exact (hbm.turn (Turn.ofBelow hBV) (fun e => by omega)).cell 0
      have HB := Lib.hid (And.intro hBV hVs)
      clear hBV hVs hzV hzb hwf3 hvv
      gi_wp2_with fail
      exact ⟨O, Owned.refl _ _ _, ⟨fun _ _ => rfl, fun _ _ => rfl, ⟨rfl, rfl⟩, rfl⟩, HB.out⟩
    case done =>
      rintro D xs O V hD hxs ⟨hBV, hVs⟩ hDf
      have hDV := (Array.getElem?_eq_some_iff.mp hDf).1
      have hkV : ∀ k, QuE (w.heap.size + 1 + 1) cb mx rb ds k → V.heap[k]? = W1.heap[k]? := fun k e => (hBV.block k (H10.out.1.gm.ext k (.inl (.inl e)))).trans (H10.out.2.1 k e)
      obtain ⟨hi5, hh5, hmk5⟩ := (HQ.out.1.marks.keepE (fun k e => H10.out.2.1 k (.inr e))).top
      have hs75 := hB7.size
      have hmk : Marks (mx + 1) (D + 1) ({ target := .collected D, args := #[] } :: ds) V := ((hmk5.keepE (fun k e => hBV.block k (H10.out.1.gm.ext k (.inl (.inl (.inr e)))))).mono (show hi5 ≤ D by omega)).push (by omega) (Nat.lt_succ_self D) hDf
      have hgV := H10.out.1.gm.ask hBV
      have hq2 : QuS w w2 mb n X s obs (.slice (some ⟨g, 0, none⟩) L cap) f gc (w.heap.size + 1 + 1) cb mx rb vis (mx + 1) (D + 1) ({ target := .collected D, args := #[] } :: ds) V :=
        ⟨hgV.go, by have h9 := HQ.out.1.r; unfold Blk at *; rw [hkV _ (.inl (.inl rfl))]; exact h9, ⟨(i : Int), true, by have h9 := HQ.out.2.1; unfold Blk at *; rw [hkV _ (.inl (.inr (.inl rfl)))]; exact h9⟩, by have h9 := HQ.out.1.m; unfold Blk at *; rw [hkV _ (.inl (.inr (.inr (.inl rfl))))]; exact h9, HQ.out.1.mp.keep (hkV rb (.inl (.inr (.inr (.inr rfl))))), HW2.out.1.trans (hgV.below.mono HW2.out.1.size), by omega, hDV, hmk⟩
      have H2 := Lib.hid hq2
      clear hq2 hmk hkV hgV hBV hDf hxs hmk5 hh5 hs75
      gi_wp2_with fail
      refine ⟨_, rfl, rfl, ⟨i + 1, D + 1, by omega, ?_, H2.out⟩, ?_⟩
      · show Value.int .i64 ((i : Int) + 1) = _
        congr 1
      · show 4 - (intOf (Value.int .i64 ((i : Int) + 1))).toNat < 4 - (intOf (Value.int .i64 (i : Int))).toNat
        simp [intOf]; omega
/-- As the frame asks it. -/
theorem enquiet_frame (b0 b1 b2 b3 b4 b5 : Nat) (hb6 : b0 ≤ 255 ∧ b1 ≤ 255 ∧ b2 ≤ 255 ∧ b3 ≤ 255 ∧ b4 ≤ 255 ∧ b5 ≤ 255) (a0 : Option Addr) (zs : List Int) (cf : Nat) (e0 : Option Addr) (ne ce : Nat) (Q : Nat → Nat → Int) (a1 : Option Addr) (us : List Int) (c1 : Nat) (w : World) (hl : us.length ≤ 9223372036854775807)
    (hF : BytesW w a0 zs) (hE : EdgesW w e0 ne Q) (hU : BytesW w a1 us) (hTb : TabAt w) (hT : TableAt w) :
    Calls Tryz.prog 7 #[.agg #[.int .u8 (b0 : Int), .int .u8 (b1 : Int), .int .u8 (b2 : Int), .int .u8 (b3 : Int), .int .u8 (b4 : Int), .int .u8 (b5 : Int)], .agg #[.slice a0 zs.length cf, .slice e0 ne ce], .slice a1 us.length c1] w fun e w' => e = .returned (.bool true) ∧ Below w.heap.size w w' := enquiet_true b0 b1 b2 b3 b4 b5 hb6 a0 zs cf e0 ne ce Q a1 us c1 w hF hE hU ⟨hT, hTb⟩
end Go.Proofs.YtooddbhlanjfbaaGreatDoor
