/- MarkAgain, walked, over the marker's contracts; at this seat's numbers. -/
import Derived.Test.YtfcbpablponmeaaGreatDoorMrE
import Derived.Test.YtfcbpablponmeaaGreatDoorMrF
import Derived.Test.YtfcbpablponmeaaGreatDoorRange
import Derived.Maps.OwnIn
namespace Go.Proofs.YtfcbpablponmeaaGreatDoor
open Go Go.RowKit Go.Shelf Go.MuLone Go.RwLone
set_option linter.unusedSimpArgs false
set_option linter.unusedVariables false
attribute [local go_sem] Oper.semAt_some

/-- Between two shades: the marker's box, the roots' row, the graph and the marker. -/
structure AgA (B mb n mc tm : Nat) (X : ArB) (s : ArS) (obs : List Ob) (vl : Value) (f : Int → Value) (adj : Int → List Int) (vr : Value) (roots : List Int) (wb : World) (T : MkB) (c : Col) (wr : World) : Prop where
  gm : GmIn B mb n X s obs vl f adj (fun k => k = mc ∨ vr.ownBlock = some k) T c wb wr
  tme : T.m = tm
  box : Blk wr mc #[.pointer (some ⟨tm, 0, none⟩)] 33
  row : RefRow wr vr roots
  far : ∀ k, (k = mc ∨ vr.ownBlock = some k) → ¬ GoHas X mb vl f k

/-- Between two edges. -/
structure AgB (B mb n mc tm xa : Nat) (R : List Int) (vl vr : Value) (roots : List Int) (wb : World) (i : Nat) (X : ArB) (s : ArS) (obs : List Ob) (n' : Nat) (f : Int → Value) (adj : Int → List Int) (T : MkB) (c : Col) (wr : World) : Prop where
  a : AgA B mb n' mc tm X s obs vl f adj vr roots wb T c wr
  ag : Ag (ptsAt obs) adj roots c
  xa : X.a = xa
  re : refsI obs = R
  cl : Closed obs
  few : n' ≤ n + i
  rows : ∀ x ∈ R, (adj x).length ≤ 6 + i
  pin : ∀ x ∈ R, ∀ y ∈ adj x, y = 0 ∨ y ∈ R
theorem AgA.ask {B mb n mc tm : Nat} {X : ArB} {s : ArS} {obs : List Ob} {vl : Value} {f : Int → Value} {adj : Int → List Int} {vr : Value} {roots : List Int} {wb : World} {T : MkB} {c : Col} {wr w' : World} (h : AgA B mb n mc tm X s obs vl f adj vr roots wb T c wr) (hB : Below wr.heap.size wr w') : AgA B mb n mc tm X s obs vl f adj vr roots wb T c w' :=
  ⟨h.gm.ask hB, h.tme, h.box.turn (Turn.ofBelow hB) (fun e => Nat.lt_irrefl _ (Nat.lt_of_lt_of_le h.box.lt e)), h.row.ask hB, h.far⟩
theorem AgB.ask {B mb n mc tm xa : Nat} {R : List Int} {vl vr : Value} {roots : List Int} {wb : World} {i : Nat} {X : ArB} {s : ArS} {obs : List Ob} {n' : Nat} {f : Int → Value} {adj : Int → List Int} {T : MkB} {c : Col} {wr w' : World} (h : AgB B mb n mc tm xa R vl vr roots wb i X s obs n' f adj T c wr) (hB : Below wr.heap.size wr w') : AgB B mb n mc tm xa R vl vr roots wb i X s obs n' f adj T c w' :=
  ⟨h.a.ask hB, h.ag, h.xa, h.re, h.cl, h.few, h.rows, h.pin⟩
theorem AgB.up {B mb n mc tm xa : Nat} {R : List Int} {vl vr : Value} {roots : List Int} {wb : World} {i : Nat} {X : ArB} {s : ArS} {obs : List Ob} {n' : Nat} {f : Int → Value} {adj : Int → List Int} {T : MkB} {c : Col} {wr : World} (h : AgB B mb n mc tm xa R vl vr roots wb i X s obs n' f adj T c wr) : AgB B mb n mc tm xa R vl vr roots wb (i + 1) X s obs n' f adj T c wr :=
  ⟨h.a, h.ag, h.xa, h.re, h.cl, by have := h.few; omega, fun x hx => by have := h.rows x hx; omega, h.pin⟩

set_option maxRecDepth 100000 in
set_option maxHeartbeats 16000000 in
theorem magain_true (a0 : Option Addr) (zs : List Int) (cf : Nat) (e0 : Option Addr) (ne ce : Nat) (Q : Nat → Nat → Int) (a1 : Option Addr) (us : List Int) (cu : Nat) (a2 : Option Addr) (n2 c2 : Nat) (Q2 : Nat → Nat → Int) (w : World)
    (hF : BytesW w a0 zs) (hE : EdgesW w e0 ne Q) (hU : BytesW w a1 us) (hV : EdgesW w a2 n2 Q2) (hT : Tabs w) :
    Calls Tryz.prog 6 #[.agg #[.slice a0 zs.length cf, .slice e0 ne ce], .slice a1 us.length cu, .slice a2 n2 c2] w fun e w' => e = .returned (.bool true) ∧ Below w.heap.size w w' := by
  have HA := Lib.hid (And.intro hF (And.intro hE (And.intro hU hV)))
  clear hF hE hU hV
  obtain ⟨M, hM6⟩ : ∃ M : Nat, 8 ≤ M := ⟨8, Nat.le_refl _⟩
  refine calls_of_wp_marks Tryz.func6 rfl M ?_
  simp only [Tryz.ntmps6, List.size_toArray, List.length_cons, List.length_nil, Nat.reduceAdd, Nat.reduceSub, Array.replicate_succ, Array.replicate_zero, List.push_toArray, List.append_toArray, List.nil_append, List.cons_append]
  gi_wp2_with fail
  refine ⟨trivial, fun h => (by cases h), ?_⟩
  have hs1 : (w.alloc (.cells #[.slice a0 zs.length cf, .slice e0 ne ce] 25)).heap.size = w.heap.size + 1 := by simp
  have hG0 := (Blk.new w #[.slice a0 zs.length cf, .slice e0 ne ce] 25).alloc (.cells #[.bool false] 4)
  have hR0 := Blk.new (w.alloc (.cells #[.slice a0 zs.length cf, .slice e0 ne ce] 25)) #[.bool false] 4
  have hBb := ((Below.refl w.heap.size w).alloc (Nat.le_refl _) (.cells #[.slice a0 zs.length cf, .slice e0 ne ce] 25)).alloc (by simp) (.cells #[.bool false] 4)
  have hTb := hT.below hBb
  have hs2 : ((w.alloc (.cells #[.slice a0 zs.length cf, .slice e0 ne ce] 25)).alloc (.cells #[.bool false] 4)).heap.size = w.heap.size + 2 := by simp
  rw [hs1] at hR0
  generalize (w.alloc (.cells #[.slice a0 zs.length cf, .slice e0 ne ce] 25)).alloc (.cells #[.bool false] 4) = W0 at *
  refine (callsIn_wide.2 (mkfit_true W0 hTb.c hTb.b)).mono ?_
  rintro e w1 ⟨rfl, hB1⟩
  have hG1 := hG0.turn (Turn.ofBelow hB1) (by omega)
  have hR1 := hR0.turn (Turn.ofBelow hB1) (by omega)
  have hB01 := hBb.trans (hB1.mono (by omega))
  have hz1 := hB1.size
  have g0 := hG1.cell 0
  have g1 := hG1.cell 1
  simp only [List.getElem?_toArray, List.getElem?_cons_zero, List.getElem?_cons_succ] at g0 g1
  obtain ⟨q, hq⟩ : ∃ q, (decide (zs.length ≤ 40) && decide (ne ≤ 120)) = q := ⟨_, rfl⟩
  have cS := small_any a0 zs.length cf e0 ne ce w1 q hq
  have HW1 := Lib.hid (And.intro hG1 (And.intro hR1 (And.intro hB01 (And.intro (hTb.below hB1) (show w.heap.size + 2 ≤ w1.heap.size by omega)))))
  clear hB1 hG0 hR0 hTb hG1 hR1 hT hB01 hBb hs1 hs2 hz1
  gi_wp2_with fail
  refine ⟨trivial, fun h => (by cases h), ?_⟩
  refine (callsIn_wide.2 cS).mono ?_
  rintro e w2 ⟨rfl, hB2⟩
  have hz2 := hB2.size
  have hB02 := HW1.out.2.2.1.trans (hB2.mono HW1.out.2.2.1.size)
  have hR2 := HW1.out.2.1.turn (Turn.ofBelow hB2) (by have := HW1.out.2.2.2.2; omega)
  clear cS g0 g1
  by_cases hsm : zs.length ≤ 40 ∧ ne ≤ 120 ∧ us.length ≤ 20 ∧ n2 ≤ 30
  case neg =>
    have hRc : w2.cell? ⟨w.heap.size + 1, 0, none⟩ = some (.bool false) := hR2.cell 0
    have hZc : w2.frozen? ⟨w.heap.size + 1, 0, none⟩ = false := hR2.free 0
    have hc := World.cell?_setCell_same w2 ⟨w.heap.size + 1, 0, none⟩ (.bool true) hRc
    have hfin := hB02.setCell (p := ⟨w.heap.size + 1, 0, none⟩) (by show w.heap.size ≤ w.heap.size + 1; omega) (.bool true)
    have HF := Lib.hid (And.intro hc hfin)
    clear hc hfin hB02 hR2 HW1
    cases q with
    | false =>
      clear hsm hq
      gi_wp2_with fail
      refine ⟨.bool true, ?_, rfl, HF.out.2⟩
      simp [results, Tryz.f6, go_sem, HF.out.1]
    | true =>
      have h20 : 20 < (us.length : Int) ∨ (¬ 20 < (us.length : Int) ∧ 30 < (n2 : Int)) := by
        have h1 : zs.length ≤ 40 := by simpa using (Bool.and_eq_true_iff.1 hq).1
        have h2 : ne ≤ 120 := by simpa using (Bool.and_eq_true_iff.1 hq).2
        have : ¬ (us.length ≤ 20 ∧ n2 ≤ 30) := fun h3 => hsm ⟨h1, h2, h3⟩
        omega
      clear hsm hq
      rcases h20 with h20 | ⟨h20, h30⟩
      · gi_wp2_with fail
        refine ⟨.bool true, ?_, rfl, HF.out.2⟩
        simp [results, Tryz.f6, go_sem, HF.out.1]
      · gi_wp2_with fail
        refine ⟨.bool true, ?_, rfl, HF.out.2⟩
        simp [results, Tryz.f6, go_sem, HF.out.1]
  case pos =>
  obtain ⟨h40, h120, h20, h30⟩ := hsm
  have hqt : q = true := by rw [← hq, decide_eq_true h40, decide_eq_true h120]; rfl
  subst hqt
  have h20I : ¬ 20 < (us.length : Int) := by omega
  have h30I : ¬ 30 < (n2 : Int) := by omega
  have hG2 := HW1.out.1.turn (Turn.ofBelow hB2) (by have := HW1.out.2.2.2.2; omega)
  have hT2 := HW1.out.2.2.2.1.below hB2
  have cM := made_any a0 zs cf e0 ne ce Q w2 h40 h120 (HA.out.1.under hB02 (Nat.le_refl _)) (HA.out.2.1.under hB02 (Nat.le_refl _)) hT2.c
  have HTB := Lib.hid hT2.b
  have g0 := hG2.cell 0
  have g1 := hG2.cell 1
  simp only [List.getElem?_toArray, List.getElem?_cons_zero, List.getElem?_cons_succ] at g0 g1
  have HW2 := Lib.hid (And.intro hB02 (And.intro hR2 (show w.heap.size + 2 ≤ w2.heap.size by have := HW1.out.2.2.2.2; omega)))
  have H40 := Lib.hid (And.intro h40 (And.intro h20 h30))
  clear hG2 hT2 hR2 hB02 hB2 HW1 hq h40 h120 h20 h30 hz2
  gi_wp2_with fail
  refine ⟨trivial, fun h => (by cases h), ?_⟩
  refine (callsIn_wide.2 cM).mono ?_
  rintro e w3 hMP
  obtain ⟨X, s, obs, vl, mb, n, f, rfl, hMO⟩ := hMP.ok HTB.out
  have holI : (obs.length : Int) ≤ 40 := by have := hMO.len; have := H40.out.1; omega
  have cN := gm_new (E := fun _ => False) hMO.go hMO.P 2 (fun _ h => h.elim) (by omega) hMO.tab hMO.tab.lt
  have HO := Lib.hid hMO
  clear hMO hMP cM g0 g1
  gi_wp2_with fail
  refine ⟨trivial, fun h => (by cases h), ?_⟩
  refine (callsIn_wide.2 cN).mono ?_
  rintro e w4 ⟨T, rfl, hGm, hB4⟩
  obtain ⟨tm, htm⟩ : ∃ tm, T.m = tm := ⟨_, rfl⟩
  rw [htm]
  have hbx := Blk.new w4 #[.pointer (some ⟨tm, 0, none⟩)] 33
  have hB45 := (Below.refl w4.heap.size w4).alloc (Nat.le_refl _) (.cells #[.pointer (some ⟨tm, 0, none⟩)] 33)
  have hG5 : GmIn w2.heap.size mb n X s obs vl f (ptsAt obs) (fun k => k = w4.heap.size) T Col.white w2 (w4.alloc (.cells #[.pointer (some ⟨tm, 0, none⟩)] 33)) := hGm.watch hB45 fun k e => .inr ⟨by have e2 : k = w4.heap.size := e; omega, by have e2 : k = w4.heap.size := e; simp; omega⟩
  have hmf : ¬ GoHas X mb vl f w4.heap.size := fun e => by have := hGm.go.lt _ e; omega
  have hB04 := HW2.out.1.trans (hG5.below.mono HW2.out.1.size)
  have cSo := some_any vl (refsI obs) a1 us cu _ hG5.go.row (by rw [refsI_length]; omega) (by have := H40.out.2; omega) (HA.out.2.2.1.under hB04 (Nat.le_refl _))
  have H4 := Lib.hid (And.intro hG5 (And.intro htm (And.intro hbx hmf)))
  clear hGm htm hB4 hB04 cN hbx hB45 hG5 hmf
  gi_wp2_with fail
  refine ⟨trivial, fun h => (by cases h), ?_⟩
  refine (callsIn_wide.2 cSo).mono ?_
  rintro e w5 ⟨vr, rfl, hvr, hB5, hnew⟩
  generalize (w4.alloc (.cells #[.pointer (some ⟨tm, 0, none⟩)] 33)) = V4 at *
  generalize w4.heap.size = mc at *
  obtain ⟨roots, hroots⟩ : ∃ roots, roots = someL (refsI obs) us := ⟨_, rfl⟩
  rw [← hroots] at hvr
  have hrin : ∀ x ∈ roots, x ∈ refsI obs := fun x hx => someL_mem (hroots ▸ hx)
  have hr20 : (roots.length : Int) ≤ 20 := by rw [hroots]; have := someL_length (refsI obs) us; have := H40.out.2; omega
  have hlr := hvr.lenRun 3
  have h5 : AgA w2.heap.size mb n mc tm X s obs vl f (ptsAt obs) vr roots w2 T Col.white w5 :=
    ⟨H4.out.1.watch hB5 (fun k e => by
      rcases e with e | e
      · exact .inl e
      · exact .inr ⟨hnew k e, hvr.lt e⟩), H4.out.2.1, H4.out.2.2.1.turn (Turn.ofBelow hB5) (fun e => Nat.lt_irrefl _ (Nat.lt_of_lt_of_le H4.out.2.2.1.lt e)), hvr, fun k e => by
      rcases e with e | e
      · rw [e]; exact H4.out.2.2.2
      · intro e2
        have h1 := H4.out.1.go.lt k e2
        have h2 := hnew k e
        omega⟩
  have HRI := Lib.hid hrin
  clear cSo hvr hB5 hnew hroots hrin H4
  gi_wp2_with fail
  clear hlr
  gi_loopw [50] (fun v50 wr => ∃ (i : Nat) (T : MkB) (c : Col), i ≤ roots.length ∧ v50 = .int .i64 (i : Int) ∧ AgA w2.heap.size mb n mc tm X s obs vl f (ptsAt obs) vr roots w2 T c wr ∧ Tri (ptsAt obs) (roots.take i) c []) (fun v50 _ => roots.length - (intOf v50).toNat)
  case atStart => exact ⟨0, T, Col.white, Nat.zero_le _, rfl, h5, good_white⟩
  case round =>
  clear h5
  obtain ⟨i, T, c, hi, rfl, h1, hTri⟩ := hrel
  have hi0 : (0 : Int) ≤ (i : Int) := by omega
  by_cases hlt : i < roots.length
  · have hi1 : (i : Int) < (roots.length : Int) := by omega
    obtain ⟨x, hx⟩ : ∃ x, roots[i]? = some x := ⟨_, List.getElem?_eq_getElem hlt⟩
    rcases h1.row.is with ⟨_, e⟩ | ⟨g, cap, cur, hv, hg, hlc, hcm, hcs, hcell⟩
    · rw [e] at hlt; simp at hlt
    have hca := hcell i hlt
    rw [(List.getElem?_eq_some_iff.1 hx).2] at hca
    have hxin := HRI.out x (List.mem_of_getElem? hx)
    have hxb := HO.out.bd x hxin
    have cA := h1.gm.shade x hxin hxb.1 hxb.2
    rw [h1.tme] at cA
    have hmc := h1.box.cell 0
    simp only [List.getElem?_toArray, List.getElem?_cons_zero] at hmc
    have H := Lib.hid (And.intro h1 hTri)
    have HX := Lib.hid (And.intro hx (And.intro hxin hxb))
    subst hv
    clear h1 hx hg hlc hcm hcs hcell hxin hxb hTri
    gi_wp2_with fail
    refine ⟨trivial, fun h => (by cases h), ?_⟩
    refine (callsIn_wide.2 cA).mono ?_
    rintro e w6 ⟨rfl, T', hm', hG6, hk6⟩
    have hTa := H.out.2.shade (x := x) (by have := HX.out.2.2.1; omega)
    rw [← take_nextR HX.out.1] at hTa
    have h8 : AgA w2.heap.size mb n mc tm X s obs vl f (ptsAt obs) (.slice (some ⟨g, 0, none⟩) roots.length cap) roots w2 T' (c.shade x) w6 := ⟨hG6, hm', (hk6 mc (.inl rfl)).trans H.out.1.box, H.out.1.row.keepG (fun k e => hk6 k (.inr e)), H.out.1.far⟩
    have H8 := Lib.hid (And.intro h8 hTa)
    clear cA hm' hG6 hk6 hTa h8 hca hmc
    gi_wp2_with fail
    go_roundw
    case rel => exact ⟨i + 1, T', _, hlt, by go_num, H8.out⟩
    case measure => simp [intOf]; omega
  · have hi1 : ¬ (i : Int) < (roots.length : Int) := by omega
    obtain rfl : i = roots.length := by omega
    rw [List.take_length] at hTri
    have hmc := h1.box.cell 0
    simp only [List.getElem?_toArray, List.getElem?_cons_zero] at hmc
    have cT := h1.gm.trace HO.out.cl 1000
    rw [h1.tme] at cT
    have H := Lib.hid (And.intro h1 hTri)
    clear h1 hTri hlt hi
    gi_wp2_with fail
    refine ⟨trivial, fun h => (by cases h), ?_⟩
    refine (callsIn_wide.2 cT).mono ?_
    rintro e w6 ⟨k, T', c', l, rfl, hlk, hm', hG6, hk6, hsc, hkm, hkd⟩
    have hAg := (H.out.2.scans ptsAt_zero hsc).ag
    have h8 : AgA w2.heap.size mb n mc tm X s obs vl f (ptsAt obs) vr roots w2 T' c' w6 := ⟨hG6, hm', (hk6 mc (.inl rfl)).trans H.out.1.box, H.out.1.row.keepG (fun k e => hk6 k (.inr e)), H.out.1.far⟩
    clear cT hlk hm' hG6 hk6 hsc hkm hkd hmc
    gi_wp2_with fail
    obtain ⟨xa, hxa⟩ : ∃ xa, X.a = xa := ⟨_, rfl⟩
    obtain ⟨R, hR⟩ : ∃ R, refsI obs = R := ⟨_, rfl⟩
    have h9 : AgB w2.heap.size mb n mc tm xa R vl vr roots w2 0 X s obs n f (ptsAt obs) T' c' w6 := ⟨h8, hAg, rfl.trans hxa, hR, HO.out.cl, Nat.le_refl _, fun x hx => by have := HO.out.few x (hR ▸ hx); omega, fun x hx y hy => by have := HO.out.pin x (hR ▸ hx) y hy; rw [hR] at this; exact this⟩
    have HL := Lib.hid (And.intro (show R.length = obs.length by rw [← hR, refsI_length]) (And.intro (show ∀ x ∈ R, 1 ≤ x ∧ x ≤ 2048 from hR ▸ HO.out.bd) (show n ≤ 6 * zs.length from HO.out.n6)))
    have HRR := Lib.hid (show (∀ x ∈ roots, x ∈ R) ∧ R.Nodup from hR ▸ ⟨HRI.out, HO.out.nd⟩)
    obtain ⟨L, hL⟩ : ∃ L, L = obs.length := ⟨_, rfl⟩
    rw [← hL] at HL holI
    rw [hxa]
    clear h8 hAg hR hL hxa HO H
    gi_loopw [62] (fun v62 wr => ∃ (i : Nat) (X : ArB) (s : ArS) (obs : List Ob) (n' : Nat) (f : Int → Value) (adj : Int → List Int) (T : MkB) (c : Col), i ≤ n2 ∧ v62 = .int .i64 (i : Int) ∧ AgB w2.heap.size mb n mc tm xa R vl vr roots w2 i X s obs n' f adj T c wr) (fun v62 _ => n2 - (intOf v62).toNat)
    case atStart => exact ⟨0, X, s, obs, n, f, _, T', c', Nat.zero_le _, rfl, h9⟩
    case round =>
    clear h9
    obtain ⟨i, X, s, obs, n', f, adj, T, c, hi, rfl, h1⟩ := hrel
    have hi0 : (0 : Int) ≤ (i : Int) := by omega
    have hol : obs.length = L := by rw [← refsI_length, h1.re]; exact HL.out.1
    by_cases hlt : i < n2
    · have hi1 : (i : Int) < (n2 : Int) := by omega
      have hB06 := HW2.out.1.trans (h1.a.gm.below.mono HW2.out.1.size)
      obtain ⟨bk, off, rfl, hbk, hcs⟩ := HA.out.2.2.2 i hlt
      have hd0 := (hB06.cell (p := ⟨bk, off + i * 3, none⟩) hbk).trans (hcs 0 (by decide)).1
      have hd1 := (hB06.cell (p := ⟨bk, off + i * 3 + 1, none⟩) hbk).trans (hcs 1 (by decide)).1
      have hd2 := (hB06.cell (p := ⟨bk, off + i * 3 + 2, none⟩) hbk).trans (hcs 2 (by decide)).1
      obtain ⟨qa, hqa, hqa6⟩ := u16_natW (hcs 0 (by decide)).2
      obtain ⟨qb, hqb, hqb6⟩ := u16_natW (hcs 1 (by decide)).2
      obtain ⟨qc, hqc, hqc6⟩ := u16_natW (hcs 2 (by decide)).2
      rw [hqa] at hd0
      rw [hqb] at hd1
      rw [hqc] at hd2
      have b1 := (Below.refl wr.heap.size wr).alloc (Nat.le_refl _) (.cells #[.int .u16 (qa : Int), .int .u16 (qb : Int), .int .u16 (qc : Int)] 52)
      have h1a := h1.ask b1
      have hE0 := Blk.new wr #[.int .u16 (qa : Int), .int .u16 (qb : Int), .int .u16 (qc : Int)] 52
      have hl6 := h1a.a.gm.go.row.lenRun 3
      rw [refsI_length, hol] at hl6
      have hx0 := hE0.cell 0
      have hx1 := hE0.cell 1
      have hx2 := hE0.cell 2
      simp only [List.getElem?_toArray, List.getElem?_cons_zero, List.getElem?_cons_succ] at hx0 hx1 hx2
      have H1 := Lib.hid (And.intro h1a (And.intro hE0 h1.a.gm.size))
      clear hqa hqb hqc hcs h1 hbk hB06 b1
      by_cases hn0 : L = 0
      · subst hn0
        have hmc := h1a.a.box.cell 0
        simp only [List.getElem?_toArray, List.getElem?_cons_zero] at hmc
        have cT := h1a.a.gm.trace h1a.cl 1000
        rw [h1a.a.tme] at cT
        have H2 := Lib.hid (And.intro h1a hol)
        clear h1a hE0 hx0 hx1 hx2 H1 hol
        gi_wp2_with fail
        refine ⟨trivial, fun h => (by cases h), ?_⟩
        refine (callsIn_wide.2 cT).mono ?_
        rintro e w6 ⟨k, T', c', l, rfl, hlk, hm', hG6, hk6, hsc, hkm, hkd⟩
        have hno : refsI obs = [] := List.length_eq_zero_iff.1 (by rw [refsI_length]; exact H2.out.2)
        have hd : c'.dry := fun z hz => by have := hG6.inn z hz; rw [hno] at this; cases this
        have hbx6 : Blk w6 mc #[.pointer (some ⟨tm, 0, none⟩)] 33 := (hk6 mc (.inl rfl)).trans H2.out.1.a.box
        have hmc := hbx6.cell 0
        simp only [List.getElem?_toArray, List.getElem?_cons_zero] at hmc
        have cD := hG6.at_.drained true ⟨fun _ => hd, fun _ => rfl⟩
        have hm2 : T'.m = tm := hm'
        rw [hm2] at cD
        have H6 := Lib.hid hG6
        clear cT hlk hm' hG6 hk6 hsc hkm hkd hno hd hbx6 hm2 hd0 hd1 hd2
        gi_wp2_with fail
        refine ⟨trivial, fun h => (by cases h), ?_⟩
        refine (callsIn_wide.2 cD).mono ?_
        rintro e w7 ⟨rfl, hB7⟩
        have hG7 := H6.out.ask hB7
        have hl6 := hG7.go.row.lenRun 3
        rw [refsI_length, H2.out.2] at hl6
        have hfin := HW2.out.1.trans (hG7.below.mono HW2.out.1.size)
        have hR7 := HW2.out.2.1.turn (Turn.ofBelow hG7.below) (by have := HW2.out.2.1.lt; omega)
        have hZc : w7.frozen? ⟨w.heap.size + 1, 0, none⟩ = false := hR7.free 0
        have hRc : w7.cell? ⟨w.heap.size + 1, 0, none⟩ = some (.bool false) := hR7.cell 0
        have hc := World.cell?_setCell_same w7 ⟨w.heap.size + 1, 0, none⟩ (.bool true) hRc
        have hfin2 := hfin.setCell (p := ⟨w.heap.size + 1, 0, none⟩) (by show w.heap.size ≤ w.heap.size + 1; omega) (.bool true)
        have HF := Lib.hid (And.intro hc hfin2)
        clear cD hB7 hG7 hfin hR7 hc hfin2 hmc
        gi_wp2_with fail
        clear hl6
        gi_loopw [126] (fun v126 W => v126 = .int .i64 0 ∧ W = w7) (fun v126 _ => 0)
        case atStart => exact ⟨rfl, rfl⟩
        case round =>
          obtain ⟨rfl, rfl⟩ := hrel
          gi_wp2_with fail
          refine ⟨.bool true, ?_, rfl, HF.out.2⟩
          simp [results, Tryz.f6, go_sem, HF.out.1]
      · obtain ⟨ia, hia⟩ : ∃ ia, ia = qa % L := ⟨_, rfl⟩
        obtain ⟨ib, hib⟩ : ∃ ib, ib = qb % L := ⟨_, rfl⟩
        have hip : 0 < L := by omega
        have hta : (qa : Int).tmod (L : Int) = (ia : Int) := by rw [Int.tmod_eq_emod_of_nonneg (by omega), hia]; omega
        have htb : (qb : Int).tmod (L : Int) = (ib : Int) := by rw [Int.tmod_eq_emod_of_nonneg (by omega), hib]; omega
        have hla : ia < L := by rw [hia]; exact Nat.mod_lt _ hip
        have hlb : ib < L := by rw [hib]; exact Nat.mod_lt _ hip
        have hin : ¬ (L : Int) = 0 := by omega
        have hinb : ((L : Int) == 0) = false := by simp; omega
        have hlaI : (ia : Int) < (L : Int) := by omega
        have hlbI : (ib : Int) < (L : Int) := by omega
        have hla0 : (0 : Int) ≤ (ia : Int) := by omega
        have hlb0 : (0 : Int) ≤ (ib : Int) := by omega
        have hwa : IntKind.i64.wrap (qa : Int) = (qa : Int) := by simp [IntKind.wrap, IntKind.bits, IntKind.signed]; omega
        have hwb : IntKind.i64.wrap (qb : Int) = (qb : Int) := by simp [IntKind.wrap, IntKind.bits, IntKind.signed]; omega
        obtain ⟨x, hx⟩ : ∃ x, obs[ia]? = some x := ⟨_, List.getElem?_eq_getElem (by omega)⟩
        obtain ⟨y, hy⟩ : ∃ y, obs[ib]? = some y := ⟨_, List.getElem?_eq_getElem (by omega)⟩
        rcases h1a.a.gm.go.row.is with ⟨_, e⟩ | ⟨g, cap, cur, hv, hg, hlc, hcm, hcs, hcell⟩
        · have := congrArg List.length e; rw [refsI_length, hol] at this; simp at this; omega
        rw [refsI_length, hol] at hv
        have hca := hcell ia (by rw [refsI_length, hol]; exact hla)
        have hcb := hcell ib (by rw [refsI_length, hol]; exact hlb)
        rw [(List.getElem?_eq_some_iff.1 (refsI_at hx)).2] at hca
        rw [(List.getElem?_eq_some_iff.1 (refsI_at hy)).2] at hcb
        subst hv
        have HY := Lib.hid (And.intro hx hy)
        clear hn0 hia hib hx hy hg hlc hcm hcs hcell h1a hE0 hl6 hol
        gi_wp2_with fail
        refine wpIn_wide.2 ?_
        go_quiet (fail)
        have h2 := H1.out.1.ask (below_drewG _ nq)
        have hE2 := H1.out.2.1.drewN nq
        generalize (wr.alloc (.cells #[.int .u16 (qa : Int), .int .u16 (qb : Int), .int .u16 (qc : Int)] 52)).drewN nq = V1 at *
        have cF := ceFieldsOk h2.a.gm.go.ar (h2.a.gm.go.ob.at_ ia x HY.out.1)
        rw [h2.xa] at cF
        have H2 := Lib.hid (And.intro h2 hE2)
        clear h2 hE2 H1 hx0 hx1 hx2 hd0 hd1 hd2 hca hcb hta htb hwa hwb hla0 hlb0 hlaI hlbI hin hinb
        gi_wp2_with fail
        refine ⟨trivial, fun h => (by cases h), ?_⟩
        refine (callsIn_wide.2 cF).mono ?_
        rintro e V2 ⟨rfl, hB2⟩
        have h3 := H2.out.1.ask hB2
        have hE3 := H2.out.2.turn (Turn.ofBelow hB2) (by have := H2.out.2.lt; omega)
        have H3 := Lib.hid (And.intro h3 hE3)
        have hmc := h3.a.box.cell 0
        simp only [List.getElem?_toArray, List.getElem?_cons_zero] at hmc
        clear cF hB2 h3 hE3 H2
        by_cases hk0 : x.k = 0
        · have hkb : ((x.k : Int) == 0) = true := by rw [hk0]; rfl
          clear hk0
          gi_wp2_with fail
          refine ⟨trivial, ?_⟩
          gi_wp2_with fail
          go_roundw
          case rel => exact ⟨i + 1, X, s, obs, n', f, adj, T, c, hlt, by go_num, H3.out.1.up⟩
          case measure => simp [intOf]; omega
        have hkb : ((x.k : Int) == 0) = false := by simp; omega
        have hkp : 0 < x.k := by omega
        have cMk := H3.out.1.a.gm.at_.marked (x.r : Int)
        rw [H3.out.1.a.tme] at cMk
        obtain ⟨jf, hjf⟩ : ∃ jf, jf = qc % x.k := ⟨_, rfl⟩
        have htc : (qc : Int).tmod (x.k : Int) = (jf : Int) := by rw [Int.tmod_eq_emod_of_nonneg (by omega), hjf]; omega
        have hljf : jf < x.k := by rw [hjf]; exact Nat.mod_lt _ hkp
        have hkn : ¬ (x.k : Int) = 0 := by omega
        have hwc : IntKind.i64.wrap (qc : Int) = (qc : Int) := by simp [IntKind.wrap, IntKind.bits, IntKind.signed]; omega
        clear hk0 hjf hkp
        obtain ⟨bq, hbq⟩ : ∃ bq, c.ma (x.r : Int) = bq := ⟨_, rfl⟩
        rw [hbq] at cMk
        cases bq
        · clear htc hljf hwc hbq
          gi_wp2_with fail
          refine ⟨trivial, fun h => (by cases h), ?_⟩
          refine (callsIn_wide.2 cMk).mono ?_
          rintro e V3 ⟨rfl, hB3⟩
          have H4 := Lib.hid (H3.out.1.ask hB3)
          clear cMk hB3 hmc
          gi_wp2_with fail
          go_roundw
          case rel => exact ⟨i + 1, X, s, obs, n', f, adj, T, c, hlt, by go_num, H4.out.up⟩
          case measure => simp [intOf]; omega
        · have HJ := Lib.hid hljf
          clear hljf hbq
          gi_wp2_with fail
          refine ⟨trivial, fun h => (by cases h), ?_⟩
          refine (callsIn_wide.2 cMk).mono ?_
          rintro e V3 ⟨rfl, hB3⟩
          have h4 := H3.out.1.ask hB3
          have hE4 := H3.out.2.turn (Turn.ofBelow hB3) (by have := H3.out.2.lt; omega)
          have hx2 := hE4.cell 2
          simp only [List.getElem?_toArray, List.getElem?_cons_zero, List.getElem?_cons_succ] at hx2
          have cS := h4.a.gm.setField HY.out.1 HJ.out (y.r : Int) (fun k e e2 => h4.a.far k e (.inl e2))
          rw [h4.xa] at cS
          have H4 := Lib.hid h4
          clear cMk hB3 hmc h4 hE4 H3
          gi_wp2_with fail
          refine ⟨trivial, fun h => (by cases h), ?_⟩
          refine (callsIn_wide.2 cS).mono ?_
          rintro e V5 ⟨rfl, lo, hG5, hk5, hf5⟩
          have hxm : (x.r : Int) ∈ R := H4.out.re ▸ List.mem_map.2 ⟨x, List.mem_of_getElem? HY.out.1, rfl⟩
          have hym : (y.r : Int) ∈ R := H4.out.re ▸ List.mem_map.2 ⟨y, List.mem_of_getElem? HY.out.2, rfl⟩
          have hxb := HL.out.2.1 _ hxm
          have hwf : (Lit.int .i64 (x.r : Int)).wf = true := wf_ref hxb.1 hxb.2
          have hlk := hG5.go.grp.map.look (x.r : Int) hwf
          have b5 := (Below.refl V5.heap.size V5).alloc (Nat.le_refl _) (.cells #[.int .i64 (y.r : Int)] 36)
          have hG5a := hG5.ask b5
          have hrow5 := hG5a.go.grp.row (x.r : Int)
          have hl5 : (adj (x.r : Int)).length ≤ 100000 := by have := H4.out.rows _ hxm; omega
          have hfarX : ∀ k, (k = mc ∨ vr.ownBlock = some k) → ¬ GoHas (X.with lo) mb (.slice (some ⟨g, 0, none⟩) L cap) f k := fun k e e2 => by
            rcases e2 with e2 | e2
            · exact hf5 k e e2
            · exact H4.out.a.far k e (.inr e2)
          have hnn : n' < 9223372036854775807 := by have := H4.out.few; have := HL.out.2.2; have := H40.out.1; omega
          have H5 := Lib.hid (And.intro hG5a (And.intro hk5 (And.intro hxm (And.intro hym (And.intro hxb hG5.ext)))))
          have HBX := Lib.hid (show Blk V5 mc #[.pointer (some ⟨tm, 0, none⟩)] 33 from (hk5 mc (.inl rfl)).trans H4.out.a.box)
          have HB5 := Lib.hid b5
          have HFX := Lib.hid hfarX
          have HWF := Lib.hid hwf
          clear cS hx2 hG5 hk5 hf5 hxm hym hxb hwf b5 hG5a hfarX htc hkn hwc hkb
          gi_wp2_with (first | (gi_at_builtin; refine wpListIn_pushT rfl _ _ rfl hrow5 hl5 V5.heap.size 1 (y.r : Int) ((Blk.new V5 _ _).cell 0) rfl rfl ?_; intro g6 m6 c6 w6 hR6 hT6 hN6; obtain ⟨w7, hrun7, hG7, hk7, hf7⟩ := H5.out.1.told hnn HWF.out hR6 hT6 (fun k e => by cases e; exact hN6) HFX.out; have hbx7 := (hk7 mc (.inl rfl)).trans (HBX.out.alloc (.cells #[.int .i64 (y.r : Int)] 36)); have hmc7 := Blk.cell hbx7 0; simp only [List.getElem?_toArray, List.getElem?_cons_zero] at hmc7; have cR := hG7.regrey (x.r : Int) H5.out.2.2.2.2.1.1 H5.out.2.2.2.2.1.2; rw [H4.out.a.tme] at cR; have H7 := Lib.hid (And.intro hG7 (And.intro hk7 hf7)); clear hR6 hT6 hN6 hG7 hk7 hf7 hrow5 hbx7) | (gi_at_mapUpdate; refine wpListIn_mapUpdate_runG rfl _ _ _ _ rfl _ _ _ rfl rfl rfl hrun7 ?_))
          refine ⟨trivial, fun h => (by cases h), ?_⟩
          refine (callsIn_wide.2 cR).mono ?_
          rintro e w8 ⟨rfl, T', hm', hG8, hk8⟩
          have H8 := Lib.hid (And.intro hm' (And.intro hG8 hk8))
          clear cR hm' hG8 hk8 hmc7 hrun7 hlk
          gi_wp2_with fail
          go_roundw
          case rel =>
            obtain ⟨hm', hG8, hk8⟩ := H8.out
            obtain ⟨hG7, hk7, hf7⟩ := H7.out
            obtain ⟨hG5a, hk5, hxm, hym, hxb, hx5⟩ := H5.out
            have keep : ∀ k, (k = mc ∨ vr.ownBlock = some k) → w8.heap[k]? = V3.heap[k]? := fun k e => (hk8 k e).trans ((hk7 k e).trans ((HB5.out.block k (hx5 k e)).trans (hk5 k e)))
            have hps := ptsAt_set H4.out.a.gm.go.ob hG5a.go.ob HY.out.1
            refine ⟨i + 1, X.with lo, _, _, n' + 1, _, _, T', _, hlt, by go_num, ⟨⟨hG8, hm', (keep mc (.inl rfl)).trans H4.out.a.box, H4.out.a.row.keepG (fun k e => keep k (.inr e)), hf7⟩, H4.out.ag.edit hps.1 hps.2, H4.out.xa, (refsI_set (x := { x with F := Go.Proofs.YtfcbpablponmeaaGreatDoor.upd x.F jf (y.r : Int) }) HY.out.1 rfl).trans H4.out.re, H4.out.cl.set HY.out.1 (List.mem_of_getElem? HY.out.2) rfl, by have := H4.out.few; omega, fun z hz => ?_, fun z hz u hu => ?_⟩⟩
            · have h1 := H4.out.rows z hz
              by_cases e : z = (x.r : Int)
              · rw [e, updI_at, List.length_append]; rw [e] at h1; simp; omega
              · rw [updI_ne e]; omega
            · by_cases e : z = (x.r : Int)
              · rw [e, updI_at] at hu
                rcases List.mem_append.1 hu with e2 | e2
                · exact H4.out.pin _ hxm u e2
                · have e3 : u = (y.r : Int) := by simpa using e2
                  rw [e3]; exact .inr hym
              · rw [updI_ne e] at hu; exact H4.out.pin z hz u hu
          case measure => simp [intOf]; omega
    · have hi1 : ¬ (i : Int) < (n2 : Int) := by omega
      have hmc := h1.a.box.cell 0
      simp only [List.getElem?_toArray, List.getElem?_cons_zero] at hmc
      have cT := h1.a.gm.trace h1.cl 1000
      rw [h1.a.tme] at cT
      have H1 := Lib.hid (And.intro h1 hol)
      have HI0 := Lib.hid hi
      clear h1 hol hlt hi hi0
      gi_wp2_with fail
      refine ⟨trivial, fun h => (by cases h), ?_⟩
      refine (callsIn_wide.2 cT).mono ?_
      rintro e w6 ⟨k, T', c', l, rfl, hlk, hm', hG6, hk6, hsc, hkm, hkd⟩
      have hln := hsc.len hG6.inn
      rw [hlk, H1.out.2] at hln
      have hd : c'.dry := hkd (by omega)
      have hbx6 : Blk w6 mc #[.pointer (some ⟨tm, 0, none⟩)] 33 := (hk6 mc (.inl rfl)).trans H1.out.1.a.box
      have hmc := hbx6.cell 0
      simp only [List.getElem?_toArray, List.getElem?_cons_zero] at hmc
      have cD := hG6.at_.drained true ⟨fun _ => hd, fun _ => rfl⟩
      have hm2 : T'.m = tm := hm'
      rw [hm2] at cD
      have h6 : AgB w2.heap.size mb n mc tm xa R vl vr roots w2 i X s obs n' f adj T' c' w6 :=
        ⟨⟨hG6, hm2, hbx6, H1.out.1.a.row.keepG (fun k e => hk6 k (.inr e)), H1.out.1.a.far⟩, H1.out.1.ag.scans ptsAt_zero hsc, H1.out.1.xa, H1.out.1.re, H1.out.1.cl, H1.out.1.few, H1.out.1.rows, H1.out.1.pin⟩
      have H6 := Lib.hid (And.intro h6 hd)
      clear cT hlk hm' hG6 hk6 hsc hkm hkd hln hd hbx6 hm2 h6
      gi_wp2_with fail
      refine ⟨trivial, fun h => (by cases h), ?_⟩
      refine (callsIn_wide.2 cD).mono ?_
      rintro e w7 ⟨rfl, hB7⟩
      have h7 := H6.out.1.ask hB7
      have hl6 := h7.a.gm.go.row.lenRun 3
      rw [refsI_length, H1.out.2] at hl6
      clear cD hB7 hmc
      gi_wp2_with fail
      clear hl6
      have hxa := h7.xa
      subst hxa
      have hol := H1.out.2
      refine wpIn_loop_grow (fun T u => spl (spl T u 20 2) u 126 29) (fun u ds W => ∃ k hi : Nat, k ≤ L ∧ u 126 = .int .i64 (k : Int) ∧ Below w7.heap.size w7 W ∧ hi ≤ W.heap.size ∧ Marks w7.heap.size hi ds W) (fun u => L - (intOf (u 126)).toNat) rfl ⟨0, 0, Nat.zero_le _, rfl, Below.refl _ w7, by omega, trivial⟩ ?_
      rintro u ds W ⟨k, hi, hkl, hu, hBW, hhi, hMk⟩
      simp only [spl, List.take_succ_cons, List.take_zero, List.drop_succ_cons, List.drop_zero, List.cons_append, List.nil_append, List.range'_succ, List.range'_zero, List.map_cons, List.map_nil, Nat.reduceAdd, hu]
      have hk0 : (0 : Int) ≤ (k : Int) := by omega
      have hW := h7.ask hBW
      have HMK := Lib.hid hMk
      have HOL := Lib.hid hol
      clear hMk hol
      by_cases hlt : k < L
      · have hltI : (k : Int) < (L : Int) := by omega
        obtain ⟨x, hx⟩ : ∃ x, obs[k]? = some x := ⟨_, List.getElem?_eq_getElem (by have := HOL.out; omega)⟩
        rcases hW.a.gm.go.row.is with ⟨_, e⟩ | ⟨g, cap, cur, hv, hg, hlc, hcm, hcs, hcell⟩
        · have := congrArg List.length e; rw [refsI_length, HOL.out] at this; simp at this; omega
        rw [refsI_length, HOL.out] at hv
        have hca := hcell k (by rw [refsI_length, HOL.out]; exact hlt)
        rw [(List.getElem?_eq_some_iff.1 (refsI_at hx)).2] at hca
        subst hv
        have hO := hW.a.gm.go.ob.at_ k x hx
        have hk6 := hO.k6 hW.a.gm.go.ar.at_.fits
        have hrd : Reads s (x.r : Int) x.k x.F := hO.reads hW.a.gm.go.ar.at_.fits
        have hB6 : Below W.heap.size W (((W.alloc (.cells #[.int .i64 (x.r : Int)] 36)).alloc (.cells #[.pointer (some ⟨X.a, 0, none⟩)] 28)).alloc (.cells #[.int .i64 (x.r : Int)] 36)) := (((Below.refl _ W).alloc (Nat.le_refl _) _).alloc (by simp) _).alloc (by simp; omega) _
        have o6 : Blk (((W.alloc (.cells #[.int .i64 (x.r : Int)] 36)).alloc (.cells #[.pointer (some ⟨X.a, 0, none⟩)] 28)).alloc (.cells #[.int .i64 (x.r : Int)] 36)) W.heap.size #[.int .i64 (x.r : Int)] 36 := ((Blk.new W #[.int .i64 (x.r : Int)] 36).alloc _).alloc _
        have b0 : (((W.alloc (.cells #[.int .i64 (x.r : Int)] 36)).alloc (.cells #[.pointer (some ⟨X.a, 0, none⟩)] 28)).alloc (.cells #[.int .i64 (x.r : Int)] 36)).cell? ⟨W.heap.size + 1, 0, none⟩ = some (.pointer (some ⟨X.a, 0, none⟩)) := by
          have := ((Blk.new (W.alloc (.cells #[.int .i64 (x.r : Int)] 36)) #[.pointer (some ⟨X.a, 0, none⟩)] 28).alloc (.cells #[.int .i64 (x.r : Int)] 36)).cell 0
          simpa using this
        have b1 : (((W.alloc (.cells #[.int .i64 (x.r : Int)] 36)).alloc (.cells #[.pointer (some ⟨X.a, 0, none⟩)] 28)).alloc (.cells #[.int .i64 (x.r : Int)] 36)).cell? ⟨W.heap.size + 1 + 1, 0, none⟩ = some (.int .i64 (x.r : Int)) := by
          have := (Blk.new ((W.alloc (.cells #[.int .i64 (x.r : Int)] 36)).alloc (.cells #[.pointer (some ⟨X.a, 0, none⟩)] 28)) #[.int .i64 (x.r : Int)] 36).cell 0
          simpa using this
        have s6 : (((W.alloc (.cells #[.int .i64 (x.r : Int)] 36)).alloc (.cells #[.pointer (some ⟨X.a, 0, none⟩)] 28)).alloc (.cells #[.int .i64 (x.r : Int)] 36)).heap.size = W.heap.size + 3 := by simp
        have o0 := (Blk.new W #[.int .i64 (x.r : Int)] 36).cell 0
        simp only [List.getElem?_toArray, List.getElem?_cons_zero] at o0
        have cPt := ptsfn_any X.a (x.r : Int) (W.alloc (.cells #[.int .i64 (x.r : Int)] 36))
        have hW6 := hW.ask hB6
        have hXlt6 := hW6.a.gm.go.ar.at_.lt
        have hwz := hBW.size
        have HX := Lib.hid (And.intro hx (And.intro hW6 s6))
        have hxm : x ∈ obs := List.mem_of_getElem? hx
        have hPx : ptsAt obs (x.r : Int) = pts x := ptsAt_mem hW.a.gm.go.ob hxm
        have HP := Lib.hid (And.intro hxm hPx)
        clear hW hx hg hlc hcm hcs hcell hO s6 hW6 hxm hPx
        gi_wp2_with fail
        refine ⟨trivial, fun h => (by cases h), ?_⟩
        refine (callsIn_wide.2 cPt).mono ?_
        rintro e w' ⟨rfl, rfl⟩
        clear cPt o0 hca
        gi_wp2_with fail
        have hW6 := HX.out.2.1
        have s6 := HX.out.2.2
        generalize (((W.alloc (.cells #[.int .i64 (x.r : Int)] 36)).alloc (.cells #[.pointer (some ⟨X.a, 0, none⟩)] 28)).alloc (.cells #[.int .i64 (x.r : Int)] 36)) = W6 at *
        have htb6 := hW6.a.gm.go.ar.tabAt
        have htl6 := htb6.lt
        have hA6 := hW6.a.gm.go.ar.at_
        clear HX
        have HS6 := Lib.hid (And.intro s6 hW6)
        generalize W.heap.size = x1 at *
        clear s6 hW6
        refine wpIn_rangeO rfl (by omega) (gf := 53) (lb := #[.pointer (some ⟨x1 + 1, 0, none⟩), .pointer (some ⟨x1 + 1 + 1, 0, none⟩)]) rfl trivial (enters_of Tryz.func53 (by kernel_rfl) rfl)
          (SeqO.ofK (pta_stops (M - 1) (x1 + 1) x.k (x.r : Int) x.F hrd W6 hA6 htb6 b0 b1)) KpPt.trans
          (fun V l o hl => KpPt.putObj (n0 := W6.heap.size) hXlt6 (by have := HS6.out.1; omega) (by omega) V l o hl) (Below.refl _ _) (fun _ => rfl)
          (fun st V => Below W6.heap.size W6 V) (fun _ _ _ => False)
          (fun st V V' row hs hg hr => (ownFrom_below (β := Unit) (Nat.le_refl _) (Nat.le_refl _)) () V V' row hs hg hr) (fun _ _ _ _ _ hs _ _ => hs) (Below.refl _ _) ?a1L ?assignL ?bodyL ?doneL ?stopL
        case assignL =>
          intro l0 z W' K hK
          unfold ptaArgs
          gi_wp2
          exact hK
        case bodyL =>
          rintro l0 pre O z V hBV hpl
          have hV := HS6.out.2.ask hBV
          have hmc := hV.a.box.cell 0
          have hob := o6.turn (Turn.ofBelow hBV) (by have := HS6.out.1; omega)
          have hoc := hob.cell 0
          simp only [List.getElem?_toArray, List.getElem?_cons_zero] at hmc hoc
          have hsV := hBV.size
          have fin : ∀ V', Below V.heap.size V V' → ∃ O', Owned W6.heap.size O O' V V' ∧ KpPt X (x1 + 1) V V' ∧ Below W6.heap.size W6 V' := fun V' hB => ⟨O, ⟨hB.size, fun k hk hkl _ => hB.block k hkl, fun k e => .inl e⟩, KpPt.ofBelow (n0 := W6.heap.size) (hB.mono hsV) hXlt6 (by have := HS6.out.1; omega) (by omega), hBV.trans (hB.mono hsV)⟩
          obtain ⟨bq, hbq⟩ : ∃ bq, c'.ma (x.r : Int) = bq := ⟨_, rfl⟩
          have cM1 := hV.a.gm.at_.marked (x.r : Int)
          rw [hV.a.tme, hbq] at cM1
          have HF := Lib.hid fin
          have HV := Lib.hid hV
          have HBQ := Lib.hid hbq
          clear fin hV hbq hBV
          cases bq
          · gi_wp2_with fail
            refine ⟨trivial, fun h => (by cases h), ?_⟩
            refine ((callsIn_wide.2 cM1).inRound l0).mono ?_
            rintro e V1 ⟨rfl, hB1⟩
            have H1 := Lib.hid hB1
            clear cM1 hB1
            gi_wp2_with fail
            refine ⟨trivial, ?_⟩
            gi_wp2_with fail
            exact HF.out _ H1.out
          · have hzp : x.F z.1.val ∈ pts x := by
              unfold pts elems
              exact List.mem_map.2 ⟨z.1.val, List.mem_filter.2 ⟨List.mem_range.2 z.2.1, z.2.2⟩, rfl⟩
            have hmz : c'.ma (x.F z.1.val) = true := by
              have h1 := HV.out.ag.clo (x.r : Int) (H6.out.2 _ HBQ.out) (x.F z.1.val)
              rw [HP.out.2] at h1
              exact h1 hzp
            have HMZ := Lib.hid hmz
            clear hzp hmz
            gi_wp2_with fail
            refine ⟨trivial, fun h => (by cases h), ?_⟩
            refine ((callsIn_wide.2 cM1).inRound l0).mono ?_
            rintro e V1 ⟨rfl, hB1⟩
            have hV1 := HV.out.ask hB1
            have hmc1 := hV1.a.box.cell 0
            simp only [List.getElem?_toArray, List.getElem?_cons_zero] at hmc1
            have cM2 := hV1.a.gm.at_.marked (x.F z.1.val)
            rw [hV1.a.tme, HMZ.out] at cM2
            have H1 := Lib.hid hB1
            clear cM1 hV1 hB1
            gi_wp2_with fail
            refine ⟨trivial, fun h => (by cases h), ?_⟩
            refine ((callsIn_wide.2 cM2).inRound l0).mono ?_
            rintro e V2 ⟨rfl, hB2⟩
            have H2 := Lib.hid (below_step H1.out hB2)
            clear cM2 hB2
            gi_wp2_with fail
            exact HF.out _ H2.out
        case doneL =>
          rintro D xs O V hD hxs hBV hDf
          have hV := HS6.out.2.ask hBV
          have hmc := hV.a.box.cell 0
          have hob := o6.turn (Turn.ofBelow hBV) (by have := HS6.out.1; omega)
          have hoc := hob.cell 0
          simp only [List.getElem?_toArray, List.getElem?_cons_zero] at hmc hoc
          have hDV := (Array.getElem?_eq_some_iff.mp hDf).1
          have hB7V : Below w7.heap.size w7 V := hBW.trans ((hB6.trans (hBV.mono (by have := HS6.out.1; omega))).mono hwz)
          have hMV : Marks w7.heap.size hi ds V := HMK.out.keep fun q _ q2 q3 => ((hB6.trans (hBV.mono (by have := HS6.out.1; omega))).block q (by omega)).trans q3
          have hMD := (hMV.mono (show hi ≤ D by have := HS6.out.1; omega)).push (by have := HS6.out.1; omega) (Nat.lt_succ_self D) hDf
          have fin : ∀ V', Below V.heap.size V V' → ∃ k' hi' : Nat, k' ≤ L ∧ Value.int .i64 ((k : Int) + 1) = .int .i64 (k' : Int) ∧ Below w7.heap.size w7 V' ∧ hi' ≤ V'.heap.size ∧ Marks w7.heap.size hi' ({ target := .collected D, args := #[] } :: ds) V' := fun V' hB =>
            ⟨k + 1, D + 1, by omega, rfl, hB7V.trans (hB.mono hB7V.size), by have := hB.size; omega, hMD.keep fun q _ q2 q3 => (hB.block q (by omega)).trans q3⟩
          have HF := Lib.hid fin
          have HMS := Lib.hid (show L - (intOf (Value.int .i64 ((k : Int) + 1))).toNat < L - (intOf (Value.int .i64 (k : Int))).toNat by simp [intOf]; omega)
          obtain ⟨bq, hbq⟩ : ∃ bq, c'.ma (x.r : Int) = bq := ⟨_, rfl⟩
          have HB1 := Lib.hid hbq
          have HV := Lib.hid hV
          have HOB := Lib.hid hob
          clear fin hMV hMD hB7V hDf hV hob hxs
          have hmcD : V.drew.cell? ⟨mc, 0, none⟩ = some (.pointer (some ⟨tm, 0, none⟩)) := hmc
          have hocD : V.drew.cell? ⟨x1, 0, none⟩ = some (.int .i64 (x.r : Int)) := hoc
          have hmcl : mc < V.heap.size := World.block_lt_of_cell? _ _ hmc
          have hocl : x1 < V.heap.size := World.block_lt_of_cell? _ _ hoc
          have hS9 : ∀ W', Below V.drew.heap.size V.drew W' → W'.cell? ⟨mc, 0, none⟩ = some (.pointer (some ⟨tm, 0, none⟩)) ∧ W'.cell? ⟨x1, 0, none⟩ = some (.int .i64 (x.r : Int)) := fun W' hB => ⟨(hB.cell (p := ⟨mc, 0, none⟩) hmcl).trans hmcD, (hB.cell (p := ⟨x1, 0, none⟩) hocl).trans hocD⟩
          have hVW : ∀ W', Below V.drew.heap.size V.drew W' → Below V.heap.size V W' := fun W' hB => (Below.refl _ V).drew.trans hB
          have cM1 := (HV.out.ask (Below.refl _ V).drew).a.gm.at_.marked (x.r : Int)
          rw [HV.out.a.tme, HB1.out] at cM1
          cases bq
          · gi_wp2_with fail
            refine wpIn_wide.2 ?_
            refine wp_region_noPanic ?_
            refine wp_region_held_drew (S := (fun W' => W'.cell? ⟨mc, 0, none⟩ = some (.pointer (some ⟨tm, 0, none⟩)) ∧ W'.cell? ⟨x1, 0, none⟩ = some (.int .i64 (x.r : Int)))) (by kernel_rfl) (⟨hmcD, hocD⟩) (fun hHeld => ?_)
            refine wpAnyH_take (i := 0) (v := ?vz0) rfl (by kernel_rfl) (by kernel_rfl) (by kernel_rfl) (fun _ _ _ h => h) (Or.inl ⟨by rfl, ?hyz0⟩) (by assumption) ?restz0
            case hyz0 => (intro w hSw; obtain ⟨hSw1, hSw2⟩ := hSw; go_simp; try with_reducible rfl)
            try simp only [Act.put, List.getElem_toArray, List.getElem_cons_succ, List.getElem_cons_zero, List.setIfInBounds_toArray, List.set_cons_zero, List.set_cons_succ]
            refine wpAnyH_take (i := 1) (v := ?vz1) rfl (by kernel_rfl) (by kernel_rfl) (by kernel_rfl) (fun _ _ _ h => h) (Or.inl ⟨by rfl, ?hyz1⟩) (by assumption) ?restz1
            case hyz1 => (intro w hSw; obtain ⟨hSw1, hSw2⟩ := hSw; go_simp; try with_reducible rfl)
            try simp only [Act.put, List.getElem_toArray, List.getElem_cons_succ, List.getElem_cons_zero, List.setIfInBounds_toArray, List.set_cons_zero, List.set_cons_succ]
            refine wpAnyH_ready (rs := [2]) (by kernel_rfl) (by simp) ?_
            refine AllReadyH.cons rfl (fun K hK => ?_) AllReadyH.nil
            go_simp
            refine cM1.mono ?_
            rintro e w9 ⟨rfl, hB9⟩
            have hSa := hS9 w9 hB9
            go_wp2_with fail
            refine hK.out _ _ (hSa) (fun hHeld => ?_)
            try simp only [Act.put, List.getElem_toArray, List.getElem_cons_succ, List.getElem_cons_zero, List.setIfInBounds_toArray, List.set_cons_zero, List.set_cons_succ]
            refine wpAnyH_take (i := 3) (v := ?vz3) rfl (by kernel_rfl) (by kernel_rfl) (by kernel_rfl) (fun _ _ _ h => h) (Or.inl ⟨by rfl, ?hyz3⟩) (by assumption) ?restz3
            case hyz3 => (intro w hSw; obtain ⟨hSw1, hSw2⟩ := hSw; go_simp; try with_reducible rfl)
            try simp only [Act.put, List.getElem_toArray, List.getElem_cons_succ, List.getElem_cons_zero, List.setIfInBounds_toArray, List.set_cons_zero, List.set_cons_succ]
            refine wpAnyH_take (i := 4) (v := undef) rfl (by kernel_rfl) (by kernel_rfl) (by kernel_rfl) (fun _ _ _ h => h) (Or.inr ⟨by rfl, rfl⟩) (by assumption) ?_
            try simp only [Act.put, List.getElem_toArray, List.getElem_cons_succ, List.getElem_cons_zero, List.setIfInBounds_toArray, List.set_cons_zero, List.set_cons_succ]
            refine wpAnyH_take (i := 5) (v := undef) rfl (by kernel_rfl) (by kernel_rfl) (by kernel_rfl) (fun _ _ _ h => h) (Or.inr ⟨by rfl, rfl⟩) (by assumption) ?_
            try simp only [Act.put, List.getElem_toArray, List.getElem_cons_succ, List.getElem_cons_zero, List.setIfInBounds_toArray, List.set_cons_zero, List.set_cons_succ]
            refine wpAnyH_take (i := 6) (v := undef) rfl (by kernel_rfl) (by kernel_rfl) (by kernel_rfl) (fun _ _ _ h => h) (Or.inr ⟨by rfl, rfl⟩) (by assumption) ?_
            try simp only [Act.put, List.getElem_toArray, List.getElem_cons_succ, List.getElem_cons_zero, List.setIfInBounds_toArray, List.set_cons_zero, List.set_cons_succ]
            refine wpAnyH_take (i := 7) (v := undef) rfl (by kernel_rfl) (by kernel_rfl) (by kernel_rfl) (fun _ _ _ h => h) (Or.inr ⟨by rfl, rfl⟩) (by assumption) ?_
            try simp only [Act.put, List.getElem_toArray, List.getElem_cons_succ, List.getElem_cons_zero, List.setIfInBounds_toArray, List.set_cons_zero, List.set_cons_succ]
            refine wpAnyH_take (i := 8) (v := undef) rfl (by kernel_rfl) (by kernel_rfl) (by kernel_rfl) (fun _ _ _ h => h) (Or.inr ⟨by rfl, rfl⟩) (by assumption) ?_
            try simp only [Act.put, List.getElem_toArray, List.getElem_cons_succ, List.getElem_cons_zero, List.setIfInBounds_toArray, List.set_cons_zero, List.set_cons_succ]
            refine wpAnyH_take (i := 9) (v := undef) rfl (by kernel_rfl) (by kernel_rfl) (by kernel_rfl) (fun _ _ _ h => h) (Or.inr ⟨by rfl, rfl⟩) (by assumption) ?_
            try simp only [Act.put, List.getElem_toArray, List.getElem_cons_succ, List.getElem_cons_zero, List.setIfInBounds_toArray, List.set_cons_zero, List.set_cons_succ]
            refine wpAnyH_take (i := 10) (v := ?vz10) rfl (by kernel_rfl) (by kernel_rfl) (by kernel_rfl) (fun _ _ _ h => h) (Or.inl ⟨by rfl, ?hyz10⟩) (by assumption) ?restz10
            case hyz10 => (intro w hSw; obtain ⟨hSw1, hSw2⟩ := hSw; go_simp; try with_reducible rfl)
            try simp only [Act.put, List.getElem_toArray, List.getElem_cons_succ, List.getElem_cons_zero, List.setIfInBounds_toArray, List.set_cons_zero, List.set_cons_succ]
            refine wpAnyH_done (by kernel_rfl) (NoPanic.normal ?_) _
            have hB9' := hVW _ hB9
            have HB9 := Lib.hid hB9'
            clear hB9 hB9' hSa hS9 hVW cM1 hmc hoc hmcD hocD
            gi_wp2_with fail
            exact ⟨_, rfl, rfl, HF.out _ HB9.out, HMS.out⟩
          · have hxR : (x.r : Int) ∈ R := HV.out.re ▸ List.mem_map.2 ⟨x, HP.out.1, rfl⟩
            have hxb := HL.out.2.1 _ hxR
            have hwf : (Lit.int .i64 (x.r : Int)).wf = true := wf_ref hxb.1 hxb.2
            have hRe : ∀ W', Below V.heap.size V W' → Calls Tryz.prog 17 #[vr, .map (some mb)] W' fun e w' => ∃ rb, e = .returned (.map (some rb)) ∧ (Instr.lookup 38 (.map (some rb)) (.int .i64 (x.r : Int)) false).run Tryz.prog w' = .ok (.int .i64 1) w' ∧ Below W'.heap.size W' w' := fun W' hB => by
              have hv := HV.out.ask hB
              have h36 : ∀ z ∈ R, (adj z).length ≤ 36 := fun z hz => by have h1 := hv.rows z hz; have h2 := HI0.out; have h3 := H40.out; omega
              have hrest := restI_nil_le adj 36 R h36
              have hRL := HL.out.1
              refine (reach_any vr roots R mb n' f adj W' hv.a.row hv.a.gm.go.grp HRR.out.2 HL.out.2.1 (by omega) (fun z hz => .inr (HRR.out.1 z hz)) hv.pin (by omega) (fun z hz => by have := h36 z hz; omega)).mono ?_
              rintro e w' ⟨rb, vis, rfl, hMp, _, hB2, _, _, hvis⟩
              refine ⟨rb, rfl, ?_, hB2⟩
              have hl := hMp.look (x.r : Int) hwf
              have h1 : visF vis (x.r : Int) = 1 := by unfold visF; rw [if_pos ((hvis _).2 (hv.ag.snd _ HB1.out))]
              rw [h1] at hl
              exact hl
            clear hxR hxb hwf
            gi_wp2_with fail
            refine wpIn_wide.2 ?_
            go_region_held3 (fun W' => W'.cell? ⟨mc, 0, none⟩ = some (.pointer (some ⟨tm, 0, none⟩)) ∧ W'.cell? ⟨x1, 0, none⟩ = some (.int .i64 (x.r : Int)))
              (first | exact hS10 | exact hSa | exact ⟨hmcD, hocD⟩)
              (first
                | (go_at_call 17; refine cRe.mono ?_; rintro e w10 ⟨rb, rfl, hlk, hB10⟩; have hB11 := below_step hB9 hB10; have hS10 := hS9 _ hB11)
                | (go_at_call 15; refine cM1.mono ?_; rintro e w9 ⟨rfl, hB9⟩; have hSa := hS9 _ hB9; have cRe := hRe _ (hVW _ hB9)))
            all_goals
              have HB9 := Lib.hid (hVW _ hB11)
              clear hlk hRe cRe hB9 hB10 hB11 hSa hS10 hS9 hVW cM1 hmc hoc hmcD hocD
              gi_wp2_with fail
              exact ⟨_, rfl, rfl, HF.out _ HB9.out, HMS.out⟩
        case stopL =>
          rintro D c pre O V hD _ h
          exact h.elim
      · have hi1 : ¬ (k : Int) < (L : Int) := by omega
        have hfin := HW2.out.1.trans (hW.a.gm.below.mono HW2.out.1.size)
        have hR7 := HW2.out.2.1.turn (Turn.ofBelow hW.a.gm.below) (by have := HW2.out.2.1.lt; omega)
        have hZc : W.frozen? ⟨w.heap.size + 1, 0, none⟩ = false := hR7.free 0
        have hRc : W.cell? ⟨w.heap.size + 1, 0, none⟩ = some (.bool false) := hR7.cell 0
        have hR9 := World.cell?_setCell_same W ⟨w.heap.size + 1, 0, none⟩ (.bool true) hRc
        have hBF := hfin.setCell (p := ⟨w.heap.size + 1, 0, none⟩) (by show w.heap.size ≤ w.heap.size + 1; omega) (.bool true)
        have hs9 : (W.setCell ⟨w.heap.size + 1, 0, none⟩ (.bool true)).heap.size = W.heap.size := by simp
        have hlt2 := HW2.out.2.1.lt
        have hz7 : w2.heap.size ≤ w7.heap.size := h7.a.gm.below.size
        have hM9 : Marks w7.heap.size hi ds (W.setCell ⟨w.heap.size + 1, 0, none⟩ (.bool true)) := HMK.out.keep fun q h0 _ h2 => (Below.heap_setCell _ _ _ _ (fun e => by have e2 : q = w.heap.size + 1 := e; omega)).trans h2
        have hzW := hBW.size
        have HH := Lib.hid (And.intro hR9 (And.intro hBF (And.intro hM9 hs9)))
        clear hW hfin hR7 hR9 hBF hM9 hs9 h7
        gi_wp2_with fail
        obtain ⟨hR9, hBF, hM9, hs9⟩ := HH.out
        generalize W.setCell ⟨w.heap.size + 1, 0, none⟩ (.bool true) = V9 at *
        refine leavesP_marks hM9 (by omega) fun w' hb _ hcs => ?_
        have hRF := hcs ⟨w.heap.size + 1, 0, none⟩ _ (by show w.heap.size + 1 < _; omega) hR9
        refine ⟨.bool true, ?_, rfl, hBF.trans (hb.mono (by omega))⟩
        simp [results, Tryz.f6, go_sem, hRF]
theorem magain_frame (a0 : Option Addr) (zs : List Int) (cf : Nat) (e0 : Option Addr) (ne ce : Nat) (Q : Nat → Nat → Int) (a1 : Option Addr) (us : List Int) (cu : Nat) (a2 : Option Addr) (n2 c2 : Nat) (Q2 : Nat → Nat → Int) (w : World) (_ : us.length ≤ 9223372036854775807) (_ : n2 ≤ 9223372036854775807)
    (hF : BytesW w a0 zs) (hE : EdgesW w e0 ne Q) (hU : BytesW w a1 us) (hV : EdgesW w a2 n2 Q2) (hTb : TabAt w) (hT : TableAt w) :
    Calls Tryz.prog 6 #[.agg #[.slice a0 zs.length cf, .slice e0 ne ce], .slice a1 us.length cu, .slice a2 n2 c2] w fun e w' => e = .returned (.bool true) ∧ Below w.heap.size w w' :=
  magain_true a0 zs cf e0 ne ce Q a1 us cu a2 n2 c2 Q2 w hF hE hU hV ⟨hT, hTb⟩
end Go.Proofs.YtfcbpablponmeaaGreatDoor
