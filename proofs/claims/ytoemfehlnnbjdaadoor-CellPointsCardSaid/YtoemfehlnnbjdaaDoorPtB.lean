/- CellPoints, walked; at this seat's numbers. -/
import Derived.Test.YtoemfehlnnbjdaaDoorMkW
import Derived.Test.YtoemfehlnnbjdaaDoorPtA
import Derived.Test.YtoemfehlnnbjdaaDoorGrow
import Derived.RangeFuncBox
namespace Go.Proofs.YtoemfehlnnbjdaaDoor
open Go Go.RowKit Go.Shelf Go.MuLone Go.RwLone
set_option linter.unusedSimpArgs false
set_option linter.unusedVariables false
attribute [local go_sem] Oper.semAt_some

theorem DeedsAt.under {w w' : World} {a : Option Addr} {n n0 : Nat} {Q : Nat → Nat → Int} (h : DeedsAt w a n Q) (hB : Below n0 w w') (hn : w.heap.size ≤ n0) : DeedsAt w' a n Q := fun k hk => by
  obtain ⟨b, off, e, hb, hc⟩ := h k hk
  exact ⟨b, off, e, by have := hB.size; omega, fun j hj => ⟨(hB.cell (p := ⟨b, off + k * 4 + j, none⟩) (by show b < n0; omega)).trans (hc j hj).1, (hc j hj).2⟩⟩

theorem WantI.under {W V : World} {l : List Int} {vw : Value} {c : Obj} (h : WantI W.heap.size (W.alloc c) l vw V) : Below W.heap.size W V :=
  ((Below.refl W.heap.size W).alloc (Nat.le_refl _) c).trans (h.turn.below W.heap.size (by simp) (fun k hk e => by omega))
theorem WantI.other {wx x1 : Nat} {V7 V V' : World} {l : List Int} {vw : Value} {cs : Array Value} (h : WantI wx V7 l vw V) (hb : Blk V x1 cs 3) (hT : Turn (fun k => k = x1) V V') (hx : V7.heap.size ≤ x1) (hwx : wx ≠ x1) : WantI wx V7 l vw V' :=
  ⟨h.box.turn hT hwx, h.row.turn hT (fun k e e2 => by
    obtain ⟨_, hb2⟩ := h.row.own e
    rw [e2] at hb2
    exact blk_types hb hb2 (by decide)), h.new, h.turn.trans hT (fun k hk e => by omega)⟩
theorem elems_step (T : Nat → Bool) (j : Nat) : elems T j <+: elems T (j + 1) := by
  cases h : T j
  · rw [elems_no h]; exact List.prefix_refl _
  · rw [elems_yes h]; exact List.prefix_append _ _
theorem elems_pre (T : Nat → Bool) (j : Nat) : ∀ m, elems T j <+: elems T (j + m)
  | 0 => List.prefix_refl _
  | m + 1 => (elems_pre T j m).trans (elems_step T (j + m))
theorem bad_of {α : Type} {f : α → Int} {pre : List α} {z : α} {wl : List Int} (h : wl[pre.length]? ≠ some (f z)) : ¬ ((pre ++ [z]).map f <+: wl) := by
  rintro ⟨t, rfl⟩
  apply h
  rw [List.map_append, List.append_assoc, List.getElem?_append_right (by simp)]
  simp
/-- How a range over Points is left. -/
def CpIx (F : Nat → Int) (wl : List Int) (q x1 : Nat) (W : World) (vw : Value) (c : Code) (pre : List (Fin 6)) (V : World) : Prop :=
  (c = .ret ∧ ¬ (pre.map fun z => F z.val) <+: wl) ∨ (c = .exit 4 ∧ pre.length = q ∧ WantI W.heap.size (W.alloc (.cells #[.slice none 0 0] 32)) wl vw V ∧ Blk V x1 #[.int .i64 (pre.length : Int)] 3)

/-- Between two fields of a thing: what is wanted. -/
def CpRel (W : World) (k : Nat) (F : Nat → Int) (v40 : Value) (wr : World) : Prop :=
  ∃ (j : Nat) (vw : Value), j ≤ k ∧ v40 = .int .i64 (j : Int) ∧ WantI W.heap.size (W.alloc (.cells #[.slice none 0 0] 32)) ((elems (nz F) j).map F) vw wr
theorem elems_le (T : Nat → Bool) (n : Nat) : (elems T n).length ≤ n := by
  unfold elems
  have := List.length_filter_le T (List.range n)
  simpa using this

set_option maxRecDepth 100000 in
set_option maxHeartbeats 16000000 in
theorem points_true (a0 : Option Addr) (len cap : Nat) (Q : Nat → Nat → Int) (n : Nat) (hn : n < 256) (w : World) (_ : len ≤ 9223372036854775807) (hZ : DeedsAt w a0 len Q) (hT : TableAt w) :
    Calls Tryd.prog 4 #[.slice a0 len cap, .int .u8 (n : Int)] w fun e w' => e = .returned (.bool true) ∧ Below w.heap.size w w' := by
  have hg := hT.lt
  have HZ := Lib.hid hZ
  clear hZ
  obtain ⟨q, hq⟩ : ∃ q, q = n % 8 := ⟨_, rfl⟩
  have hqt : (n : Int).tmod 8 = (q : Int) := by rw [Int.tmod_eq_emod_of_nonneg (by omega)]; omega
  have hq8 : (q : Int) < 8 := by omega
  clear hq
  obtain ⟨M, hM6⟩ : ∃ M : Nat, 8 ≤ M := ⟨8, Nat.le_refl _⟩
  refine calls_of_wp_marks Tryd.func4 rfl M ?_
  simp only [Tryd.ntmps4, List.size_toArray, List.length_cons, List.length_nil, Nat.reduceAdd, Nat.reduceSub, Array.replicate_succ, Array.replicate_zero, List.push_toArray, List.append_toArray, List.nil_append, List.cons_append]
  gi_wp2_with fail
  refine ⟨trivial, fun h => (by cases h), ?_⟩
  have hL := (Blk.new w #[.int .u8 (n : Int)] 5).alloc (.cells #[.bool false] 4)
  have hR := Blk.new (w.alloc (.cells #[.int .u8 (n : Int)] 5)) #[.bool false] 4
  simp only [World.size_alloc] at hR
  have hBb := ((Below.refl w.heap.size w).alloc (Nat.le_refl _) (.cells #[.int .u8 (n : Int)] 5)).alloc (by simp) (.cells #[.bool false] 4)
  have hTb := hT.below hBb
  have hsb : ((w.alloc (.cells #[.int .u8 (n : Int)] 5)).alloc (.cells #[.bool false] 4)).heap.size = w.heap.size + 2 := by simp
  generalize (w.alloc (.cells #[.int .u8 (n : Int)] 5)).alloc (.cells #[.bool false] 4) = wb at *
  refine (callsIn_wide.2 (cefit_true wb hTb)).mono ?_
  rintro e w1 ⟨rfl, hB⟩
  have hR1 : w1.cell? ⟨w.heap.size + 1, 0, none⟩ = some (.bool false) := (hB.cell (p := ⟨w.heap.size + 1, 0, none⟩) hR.lt).trans (hR.cell 0)
  have hZ1 : w1.frozen? ⟨w.heap.size + 1, 0, none⟩ = false := (hB.frozen (p := ⟨w.heap.size + 1, 0, none⟩) hR.lt).trans (hR.free 0)
  by_cases hbig : 60 < (len : Int)
  · gi_wp2_with fail
    refine ⟨.bool true, ?_, rfl, (hBb.trans (hB.mono (by omega))).setCell (p := ⟨w.heap.size + 1, 0, none⟩) (by show w.heap.size ≤ w.heap.size + 1; omega) (.bool true)⟩
    have hc := World.cell?_setCell_same w1 ⟨w.heap.size + 1, 0, none⟩ (.bool true) hR1
    simp [results, Tryd.f4, go_sem, hc]
  clear hR1 hZ1
  have hl60 : len ≤ 60 := by omega
  gi_wp2_with fail
  refine ⟨trivial, fun h => (by cases h), ?_⟩
  refine (callsIn_wide.2 (new_in 8 8 (by decide) wb.heap.size wb _ hB (Nat.le_refl _) hTb (by omega))).mono ?_
  rintro e w2 ⟨X0, rfl, hA, _, _⟩
  clear hB
  have cM := made_any (a0 := a0) (len := len) (cap := cap) (Q := Q) hA (by omega) (HZ.out.under hBb (Nat.le_refl _))
  clear hA
  gi_wp2_with fail
  refine ⟨trivial, fun h => (by cases h), ?_⟩
  refine (callsIn_wide.2 cM).mono ?_
  rintro e w3 ⟨X, s, l, bs, vo, hX, rfl, hM, hll⟩
  clear cM
  rw [← hX]
  clear hX
  have hlr := hM.row.lenRun 3 w3
  have HLN := Lib.hid hM.len
  have hs3 := hM.ar.below.size
  gi_wp2_with fail
  refine wpIn_loop_grow (fun T u => spl (spl T u 9 6) u 31 58) (fun u ds W => ∃ i hi : Nat, i ≤ bs.length ∧ u 31 = .int .i64 (i : Int) ∧ Below w3.heap.size w3 W ∧ hi ≤ W.heap.size ∧ Marks w3.heap.size hi ds W) (fun u => bs.length - (intOf (u 31)).toNat) rfl ⟨0, 0, Nat.zero_le _, rfl, Below.refl _ w3, by omega, trivial⟩ ?_
  rintro u ds W ⟨i, hi, hil, hu, hBW, hhi, hMk⟩
  simp only [spl, List.take_succ_cons, List.take_zero, List.drop_succ_cons, List.drop_zero, List.cons_append, List.nil_append, List.range'_succ, List.range'_zero, List.map_cons, List.map_nil, Nat.reduceAdd, hu]
  have hi0 : (0 : Int) ≤ (i : Int) := by omega
  have HM := Lib.hid hM
  have HMK := Lib.hid hMk
  clear hMk
  have hb60 : bs.length ≤ 80 := by have := HLN.out; omega
  by_cases hlt : i < bs.length
  · have hi1 : (i : Int) < (bs.length : Int) := by omega
    rcases hM.row.is with ⟨_, e2⟩ | ⟨g, cap2, cur, rfl, hgb, hcell⟩
    · rw [e2] at hlt; simp at hlt
    obtain ⟨b, hb⟩ : ∃ b, bs[i]? = some b := ⟨_, List.getElem?_eq_getElem hlt⟩
    obtain ⟨x, hx⟩ := hM.hitB hb
    have e1 := (hBW.cell (p := ⟨g, i, none⟩) hgb.lt).trans (hcell i hlt)
    rw [show bs[i] = b by rw [List.getElem?_eq_getElem hlt] at hb; exact Option.some.inj hb] at e1
    have hV := hBW.alloc hBW.size (.cells #[.slice none 0 0] 32)
    have hth := ((hM.ask hV).th _ x b hx hb).1
    have f1 := hth.cell 1
    unfold thingV at f1
    simp only [List.getElem?_toArray, List.getElem?_cons_succ, List.getElem?_cons_zero] at f1
    have HX := Lib.hid (And.intro hx hb)
    have HBW := Lib.hid hBW
    have hO := (hM.ask hBW).ob.at_ _ x hx
    have hk6 : x.k ≤ 6 := hO.k6 (hM.ask hBW).ar.at_.fits
    have HO := Lib.hid hO
    have hW0 : WantI W.heap.size (W.alloc (.cells #[.slice none 0 0] 32)) ((elems (nz x.F) 0).map x.F) (.slice none 0 0) (W.alloc (.cells #[.slice none 0 0] 32)) :=
      ⟨Blk.new W _ _, ⟨rfl, .inl ⟨rfl, rfl⟩⟩, fun k e => (by cases e), Turn.refl _ _⟩
    clear hM hx hb hgb hcell hth hO hBW hV
    gi_wp2_with fail
    gi_loopw [40] (fun v40 wr => CpRel W x.k x.F v40 wr) (fun v40 _ => x.k - (intOf v40).toNat)
    case atStart => exact ⟨0, _, Nat.zero_le _, rfl, hW0⟩
    case round =>
      clear hW0 f1 e1
      obtain ⟨j, vw, hj, rfl, hW⟩ := hrel
      have hj0 : (0 : Int) ≤ (j : Int) := by omega
      have hBr : Below W.heap.size W wr := hW.under
      have hBW2 := HBW.out.trans (hBr.mono HBW.out.size)
      obtain ⟨hth, hrw⟩ := (HM.out.ask hBW2).th _ x b HX.out.1 HX.out.2
      by_cases hjk : j < x.k
      · have hj1 : (j : Int) < (x.k : Int) := by omega
        have d := hrw.cell j
        rw [row_get _ hjk] at d
        have ck := hW.box.cell 0
        simp only [List.getElem?_toArray, List.getElem?_cons_zero] at ck
        have HW := Lib.hid hW
        have HL := Lib.hid (show ((elems (nz x.F) j).map x.F).length ≤ 1000000 by have := elems_le (nz x.F) j; simp; omega)
        clear hW hBr hth hrw hBW2
        by_cases hz : x.F j = 0
        · have e3 : elems (nz x.F) (j + 1) = elems (nz x.F) j := elems_no (by unfold nz; simp [hz])
          have HE := Lib.hid e3
          clear e3
          rw [hz] at d
          gi_wp2_with fail
          go_roundw
          case rel => exact ⟨j + 1, vw, hjk, by go_num, by rw [HE.out]; exact HW.out⟩
          case measure => simp [intOf]; omega
        · have e3 : elems (nz x.F) (j + 1) = elems (nz x.F) j ++ [j] := elems_yes (by unfold nz; simp [hz])
          have HE := Lib.hid e3
          have hz2 : (x.F j != 0) = true := by simp [hz]
          clear e3 hz
          generalize hy : x.F j = y at *
          have HY := Lib.hid hy
          clear hy
          have hwx : W.heap.size < (W.alloc (.cells #[.slice none 0 0] 32)).heap.size := by simp
          gi_wp2_with (gi_at_builtin; refine wpListIn_pushW rfl _ _ rfl (HW.out.alloc (.cells #[.int .i64 y] 31)).row HL.out wr.heap.size 1 y ((Blk.new wr _ _).cell 0) rfl rfl ?_; intro g6 n6 c6 w6 hR6 hT6 hN6; obtain ⟨hb6, hG6⟩ := HW.out.push hwx hR6 hT6 hN6; have cb6 := hb6.cell 0; have zb6 := hb6.free 0; simp only [List.getElem?_toArray, List.getElem?_cons_zero] at cb6; have HG := Lib.hid hG6; clear hR6 hT6 hN6 hb6 hG6)
          go_roundw
          case rel => exact ⟨j + 1, _, hjk, by go_num, by rw [HE.out, List.map_append, List.map_cons, List.map_nil, HY.out]; exact HG.out.1⟩
          case measure => simp [intOf]; omega
      · obtain rfl : j = x.k := by omega
        have hV1 := hBW2.alloc hBW2.size (.cells #[.int .i64 0] 3)
        have f0 := ((HM.out.ask hV1).th _ x b HX.out.1 HX.out.2).1.cell 0
        unfold thingV at f0
        simp only [List.getElem?_toArray, List.getElem?_cons_zero] at f0
        have hrd : Reads s (x.r : Int) x.k x.F := HO.out.reads (HM.out.ask hBW2).ar.at_.fits
        have hA6 := (((HM.out.ask hBW2).ar.alloc (.cells #[.int .i64 0] 3)).alloc (.cells #[.pointer (some ⟨X.a, 0, none⟩)] 24)).alloc (.cells #[.int .i64 (x.r : Int)] 31)
        have hW6 := ((hW.alloc (.cells #[.int .i64 0] 3)).alloc (.cells #[.pointer (some ⟨X.a, 0, none⟩)] 24)).alloc (.cells #[.int .i64 (x.r : Int)] 31)
        have hbox : Blk (((wr.alloc (.cells #[.int .i64 0] 3)).alloc (.cells #[.pointer (some ⟨X.a, 0, none⟩)] 24)).alloc (.cells #[.int .i64 (x.r : Int)] 31)) wr.heap.size #[.int .i64 0] 3 := ((Blk.new wr _ _).alloc _).alloc _
        have b0 : ((((wr.alloc (.cells #[.int .i64 0] 3)).alloc (.cells #[.pointer (some ⟨X.a, 0, none⟩)] 24)).alloc (.cells #[.int .i64 (x.r : Int)] 31))).cell? ⟨wr.heap.size + 1, 0, none⟩ = some (.pointer (some ⟨X.a, 0, none⟩)) := by
          have := ((Blk.new (wr.alloc (.cells #[.int .i64 0] 3)) #[.pointer (some ⟨X.a, 0, none⟩)] 24).alloc (.cells #[.int .i64 (x.r : Int)] 31)).cell 0
          simpa using this
        have b1 : ((((wr.alloc (.cells #[.int .i64 0] 3)).alloc (.cells #[.pointer (some ⟨X.a, 0, none⟩)] 24)).alloc (.cells #[.int .i64 (x.r : Int)] 31))).cell? ⟨wr.heap.size + 1 + 1, 0, none⟩ = some (.int .i64 (x.r : Int)) := by
          have := (Blk.new ((wr.alloc (.cells #[.int .i64 0] 3)).alloc (.cells #[.pointer (some ⟨X.a, 0, none⟩)] 24)) #[.int .i64 (x.r : Int)] 31).cell 0
          simpa using this
        have hs6 : ((((wr.alloc (.cells #[.int .i64 0] 3)).alloc (.cells #[.pointer (some ⟨X.a, 0, none⟩)] 24)).alloc (.cells #[.int .i64 (x.r : Int)] 31))).heap.size = wr.heap.size + 3 := by simp
        have hXlt := (HM.out.ask HBW.out).ar.at_.lt
        have hWr := hBr.size
        have hwl0 : WantI W.heap.size (W.alloc (.cells #[.slice none 0 0] 32)) ((elems (nz x.F) x.k).map x.F) vw wr := hW
        have hWa : W.heap.size < wr.heap.size := hW.box.lt
        clear hwl0
        obtain ⟨wl, hwl⟩ : ∃ wl, wl = (elems (nz x.F) x.k).map x.F := ⟨_, rfl⟩
        rw [← hwl] at hW6
        have hwl6 : wl.length ≤ 6 := by
          have := elems_le (nz x.F) x.k
          rw [hwl]; simp; omega
        have HWL := Lib.hid hwl
        have htabB := (HM.out.ask HBW.out).ar.tabB
        clear hW hV1 hth hrw hwl hBr hBW2
        gi_wp2_with fail
        refine ⟨trivial, fun h => (by cases h), ?_⟩
        refine (callsIn_wide.2 (ptsfn_any X.a (x.r : Int) _)).mono ?_
        rintro e w' ⟨rfl, rfl⟩
        gi_wp2_with fail
        generalize (((wr.alloc (.cells #[.int .i64 0] 3)).alloc (.cells #[.pointer (some ⟨X.a, 0, none⟩)] 24)).alloc (.cells #[.int .i64 (x.r : Int)] 31)) = W6 at *
        generalize wr.heap.size = x1 at *
        refine wpIn_rangeFunc_ownF rfl (by omega) (gf := 42) (lb := #[.pointer (some ⟨x1 + 1, 0, none⟩), .pointer (some ⟨x1 + 1 + 1, 0, none⟩)]) rfl trivial (enters_of Tryd.func42 (by kernel_rfl) rfl)
          (pts_stops (X := X) (M - 1) (x1 + 1) x.k (x.r : Int) x.F hrd W6 hA6.at_ hA6.tabAt b0 b1) KpPt.trans (fun W l o o' hl _ _ _ => KpPt.putObj (n0 := W6.heap.size) (fun k hk => by have := hXlt k hk; omega) (by omega) (by omega) W l o' hl) (Below.refl _ _) (fun _ => rfl)
          (fun pre V => WantI W.heap.size (W.alloc (.cells #[.slice none 0 0] 32)) wl vw V ∧ Blk V x1 #[.int .i64 (pre.length : Int)] 3) (CpIx x.F wl q x1 W vw)
          (fun pre V V' row hs hg hr => ⟨hs.1.grown (m := W6.heap.size) (by simp; omega) hg hr, hs.2.kept hg (fun r e => (hr r e).2)⟩)
          (fun c pre V V' row hs hg hr => by
            rcases hs with hs | ⟨h1, h2, h3, h4⟩
            · exact .inl hs
            · exact .inr ⟨h1, h2, h3.grown (m := W6.heap.size) (by simp; omega) hg hr, h4.kept hg (fun r e => (hr r e).2)⟩) ⟨hW6, hbox⟩ ?a1 ?assign ?body ?done ?stop
        case assign =>
          intro l0 x W K hK
          unfold ptArgs
          gi_wp2
          exact hK
        case body =>
          rintro l0 pre z V ⟨hW, hK⟩ hpl
          have hBV := hW.under
          have hBV3 := HBW.out.trans (hBV.mono HBW.out.size)
          have ck := hW.box.cell 0
          have kc := hK.cell 0
          have kz := hK.free 0
          simp only [List.getElem?_toArray, List.getElem?_cons_zero] at ck kc
          have hRW : V.cell? ⟨w.heap.size + 1, 0, none⟩ = some (.bool false) := (((HM.out.ask hBV3).ar.below).cell (p := ⟨w.heap.size + 1, 0, none⟩) hR.lt).trans (hR.cell 0)
          have hZW : V.frozen? ⟨w.heap.size + 1, 0, none⟩ = false := (((HM.out.ask hBV3).ar.below).frozen (p := ⟨w.heap.size + 1, 0, none⟩) hR.lt).trans (hR.free 0)
          have hLW : V.cell? ⟨w.heap.size, 0, none⟩ = some (.int .u8 (n : Int)) := (((HM.out.ask hBV3).ar.below).cell (p := ⟨w.heap.size, 0, none⟩) hL.lt).trans (hL.cell 0)
          have hlr2 := hW.row.lenRun 3 V
          have hp0 : (0 : Int) ≤ (pre.length : Int) := by omega
          have hp6 : (pre.length : Int) ≤ 6 := by omega
          have hw6 : (wl.length : Int) ≤ 6 := by omega
          by_cases hp : pre.length < wl.length
          · have hpI : (pre.length : Int) < (wl.length : Int) := by omega
            rcases hW.row.is with ⟨_, e0⟩ | ⟨g2, cp2, cur2, rfl, _, _, _, _, hat⟩
            · rw [e0] at hp; simp at hp
            have ec := hat pre.length hp
            have eg : wl[pre.length]? = some wl[pre.length] := List.getElem?_eq_getElem hp
            generalize wl[pre.length] = y at *
            have HEG := Lib.hid eg
            clear eg hat
            by_cases he : y = x.F z.val
            · subst he
              have he2 : (x.F z.val != x.F z.val) = false := by simp
              have hTs : Turn (fun k => k = x1) V (V.setCell ⟨x1, 0, none⟩ (.int .i64 ((pre.length : Int) + 1))) := (Turn.refl _ V).set _ _ (.inr rfl)
              have hW2 := hW.other hK hTs (by simp; omega) (by omega)
              have hK2 : Blk (V.setCell ⟨x1, 0, none⟩ (.int .i64 ((pre.length : Int) + 1))) x1 #[.int .i64 ((pre ++ [z]).length : Int)] 3 := (hK.setAt 0 _).is (by simp)
              have hL2 : (V.setCell ⟨x1, 0, none⟩ (.int .i64 ((pre.length : Int) + 1))).cell? ⟨w.heap.size, 0, none⟩ = some (.int .u8 (n : Int)) := cell_setBlock hLW (by show w.heap.size ≠ x1; have := HBW.out.size; omega)
              have HW2 := Lib.hid hW2
              have HK2 := Lib.hid hK2
              clear hW hK hW2 hK2 hTs
              by_cases hq : pre.length + 1 = q
              · have hqI : (pre.length : Int) + 1 = (q : Int) := by omega
                have hE := And.intro HW2.out HK2.out
                rw [hqI] at hL2 hE
                have HE := Lib.hid hE
                have hql : (pre ++ [z]).length = q := by simp; omega
                have HQL := Lib.hid hql
                clear hE hq hql
                gi_wp2_with fail
                exact ⟨KeepsOthers.setCell _ _ _, .inr ⟨rfl, HQL.out, HE.out.1, HE.out.2⟩⟩
              · have hqI : ¬ (pre.length : Int) + 1 = (q : Int) := by omega
                gi_wp2_with fail
                exact ⟨KeepsOthers.setCell _ _ _, ⟨⟨fun k hk => Below.heap_setCell _ _ _ _ (fun e => by have := hXlt k hk; have e2 : k = x1 := e; omega), Below.heap_setCell _ _ _ _ (fun e => by have e2 : x1 + 1 = x1 := e; omega), Below.heap_setCell _ _ _ _ (fun e => by have e2 : x1 + 1 + 1 = x1 := e; omega)⟩, Below.heap_setCell _ _ _ _ (fun e => by have e2 : (0 : Nat) = x1 := e; omega)⟩, HW2.out, HK2.out⟩
            · have he2 : (y != x.F z.val) = true := by simp [he]
              have hbad : ¬ ((pre ++ [z]).map fun z => x.F z.val) <+: wl := bad_of (f := fun z : Fin 6 => x.F z.val) (by rw [HEG.out]; simpa using he)
              gi_wp2_with fail
              exact ⟨KeepsOthers.setCell _ _ _, .inl ⟨rfl, hbad⟩⟩
          · have hpI : ¬ (pre.length : Int) < (wl.length : Int) := by omega
            have hbad : ¬ ((pre ++ [z]).map fun z => x.F z.val) <+: wl := bad_of (f := fun z : Fin 6 => x.F z.val) (by rw [List.getElem?_eq_none (by omega)]; simp)
            have hpG : (wl.length : Int) ≤ (pre.length : Int) := by omega
            gi_wp2_with fail
            exact ⟨KeepsOthers.setCell _ _ _, .inl ⟨rfl, hbad⟩⟩
        case done =>
          rintro D xs V hD hxs ⟨hW, hK⟩ hDf
          have hlen : xs.length = wl.length := by
            have := congrArg List.length hxs
            rw [List.length_map] at this
            rw [this, HWL.out, List.length_map]
          rw [hlen] at hK
          have hBV := hW.under
          have ck := hW.box.cell 0
          have kc := hK.cell 0
          simp only [List.getElem?_toArray, List.getElem?_cons_zero] at ck kc
          have hlr2 := hW.row.lenRun 3 V
          have hee : ((wl.length : Int) != (wl.length : Int)) = false := by simp
          have hBV3 := HBW.out.trans (hBV.mono HBW.out.size)
          have hMV : Marks w3.heap.size hi ds V := HMK.out.keep fun k _ h1 h2 => (hBV.block k (by omega)).trans h2
          have hDV := (Array.getElem?_eq_some_iff.mp hDf).1
          clear hlen hxs
          gi_wp2_with fail
          refine ⟨_, rfl, rfl, ⟨i + 1, D + 1, by omega, ?_, hBV3, hDV, (hMV.mono (show hi ≤ D by omega)).push (by have := HBW.out.size; omega) (by omega) hDf⟩, ?_⟩
          · show Value.int .i64 ((i : Int) + 1) = _
            congr 1
          · show bs.length - (intOf (Value.int .i64 ((i : Int) + 1))).toNat < bs.length - (intOf (Value.int .i64 (i : Int))).toNat
            simp [intOf]; omega
        case stop =>
          rintro D c pre V hD ⟨j, hjk, hnz, hpre⟩ hs hDf
          rcases hs with ⟨rfl, hbad⟩ | ⟨rfl, hpq, hW, hK⟩
          · exfalso
            apply hbad
            have e4 : (pre.map fun z => x.F z.val) = (elems (nz x.F) (j + 1)).map x.F := by
              rw [← hpre, List.map_map]; rfl
            rw [e4, HWL.out]
            have := elems_pre (nz x.F) (j + 1) (x.k - (j + 1))
            rw [show j + 1 + (x.k - (j + 1)) = x.k by omega] at this
            exact this.map x.F
          · have hBV := hW.under
            have hBV3 := HBW.out.trans (hBV.mono HBW.out.size)
            rw [hpq] at hK
            have ck := hW.box.cell 0
            have kc := hK.cell 0
            simp only [List.getElem?_toArray, List.getElem?_cons_zero] at ck kc
            have hLW : V.cell? ⟨w.heap.size, 0, none⟩ = some (.int .u8 (n : Int)) := (((HM.out.ask hBV3).ar.below).cell (p := ⟨w.heap.size, 0, none⟩) hL.lt).trans (hL.cell 0)
            have hlr2 := hW.row.lenRun 3 V
            have hMV : Marks w3.heap.size hi ds V := HMK.out.keep fun k _ h1 h2 => (hBV.block k (by omega)).trans h2
            have hDV := (Array.getElem?_eq_some_iff.mp hDf).1
            have hqq : ((q : Int) != (q : Int)) = false := by simp
            have hq0 : (0 : Int) ≤ (q : Int) := by omega
            have HF := Lib.hid (show ∃ i0 hi0 : Nat, i0 ≤ bs.length ∧ Value.int .i64 ((i : Int) + 1) = .int .i64 (i0 : Int) ∧ Below w3.heap.size w3 V ∧ hi0 ≤ V.heap.size ∧ Marks w3.heap.size hi0 ({ target := .collected D, args := #[] } :: ds) V from ⟨i + 1, D + 1, by omega, rfl, hBV3, hDV, (hMV.mono (show hi ≤ D by omega)).push (by have := HBW.out.size; omega) (by omega) hDf⟩)
            have HMS := Lib.hid (show bs.length - (intOf (Value.int .i64 ((i : Int) + 1))).toNat < bs.length - (intOf (Value.int .i64 (i : Int))).toNat by simp [intOf]; omega)
            clear hpq hDf hDV hMV
            cases hbq : ((q : Int) != (wl.length : Int))
            · gi_wp2_with fail
              exact ⟨_, rfl, rfl, HF.out, HMS.out⟩
            · gi_wp2_with fail
              exact ⟨_, rfl, rfl, HF.out, HMS.out⟩
  · have hi1 : ¬ (i : Int) < (bs.length : Int) := by omega
    have hMW := hM.ask hBW
    have hA7 := (hMW.ar.alloc (.cells #[.pointer (some ⟨X.a, 0, none⟩)] 24)).alloc (.cells #[.int .i64 0] 31)
    have hrd : Reads s 0 0 (fun _ => 0) := reads_nil hMW.ar.at_.fits
    have b0 : ((W.alloc (.cells #[.pointer (some ⟨X.a, 0, none⟩)] 24)).alloc (.cells #[.int .i64 0] 31)).cell? ⟨W.heap.size, 0, none⟩ = some (.pointer (some ⟨X.a, 0, none⟩)) := by
      have := ((Blk.new W #[.pointer (some ⟨X.a, 0, none⟩)] 24).alloc (.cells #[.int .i64 0] 31)).cell 0
      simp
    have b1 : ((W.alloc (.cells #[.pointer (some ⟨X.a, 0, none⟩)] 24)).alloc (.cells #[.int .i64 0] 31)).cell? ⟨W.heap.size + 1, 0, none⟩ = some (.int .i64 0) := by
      have := (Blk.new (W.alloc (.cells #[.pointer (some ⟨X.a, 0, none⟩)] 24)) #[.int .i64 0] 31).cell 0
      simp
    have hs7 : ((W.alloc (.cells #[.pointer (some ⟨X.a, 0, none⟩)] 24)).alloc (.cells #[.int .i64 0] 31)).heap.size = W.heap.size + 2 := by simp
    have hB7 := ((Below.refl W.heap.size W).alloc (Nat.le_refl _) (.cells #[.pointer (some ⟨X.a, 0, none⟩)] 24)).alloc (by simp) (.cells #[.int .i64 0] 31)
    have hXlt := hMW.ar.at_.lt
    have htabB := hMW.ar.tabB
    have HBW := Lib.hid hBW
    clear hMW hM
    gi_wp2_with fail
    refine ⟨trivial, fun h => (by cases h), ?_⟩
    refine (callsIn_wide.2 (ptsfn_any X.a 0 _)).mono ?_
    rintro e w' ⟨rfl, rfl⟩
    gi_wp2_with fail
    generalize ((W.alloc (.cells #[.pointer (some ⟨X.a, 0, none⟩)] 24)).alloc (.cells #[.int .i64 0] 31)) = W7 at *
    refine wpIn_rangeFunc_ownF rfl (by omega) (gf := 42) (lb := #[.pointer (some ⟨W.heap.size, 0, none⟩), .pointer (some ⟨W.heap.size + 1, 0, none⟩)]) rfl trivial (enters_of Tryd.func42 (by kernel_rfl) rfl)
      (pts_stops (X := X) (M - 1) W.heap.size 0 0 (fun _ => 0) hrd W7 hA7.at_ hA7.tabAt b0 b1) KpPt.trans (fun W l o o' hl _ _ _ => KpPt.putObj (n0 := W7.heap.size) (fun k hk => by have := hXlt k hk; omega) (by omega) (by omega) W l o' hl) (Below.refl _ _) (fun _ => rfl)
      (fun pre V => Below W7.heap.size W7 V) (fun _ _ _ => True)
      (fun pre V V' row hs hg hr => hs.grown hg hs.size (fun r e => (hr r e).1))
      (fun _ _ _ _ _ hs _ _ => hs) (Below.refl _ _) ?a2 ?assign2 ?body2 ?done2 ?stop2
    case assign2 =>
      intro l0 x W K hK
      unfold ptArgs
      gi_wp2
      exact hK
    case body2 =>
      rintro l0 pre x1 V hs hpl
      have hBV3 := HBW.out.trans ((hB7.trans (hs.mono (by omega))).mono HBW.out.size)
      have hRW : V.cell? ⟨w.heap.size + 1, 0, none⟩ = some (.bool false) := (((HM.out.ask hBV3).ar.below).cell (p := ⟨w.heap.size + 1, 0, none⟩) hR.lt).trans (hR.cell 0)
      have hZW : V.frozen? ⟨w.heap.size + 1, 0, none⟩ = false := (((HM.out.ask hBV3).ar.below).frozen (p := ⟨w.heap.size + 1, 0, none⟩) hR.lt).trans (hR.free 0)
      gi_wp2_with fail
      exact ⟨KeepsOthers.setCell _ _ _, trivial⟩
    case done2 =>
      rintro D xs V hD hxs hs hDf
      have hBV := hB7.trans (hs.mono (by omega))
      have hBV3 := HBW.out.trans (hBV.mono HBW.out.size)
      have hAB := (HM.out.ask hBV3).ar.below
      have hRW : V.cell? ⟨w.heap.size + 1, 0, none⟩ = some (.bool false) := (hAB.cell (p := ⟨w.heap.size + 1, 0, none⟩) hR.lt).trans (hR.cell 0)
      have hZW : V.frozen? ⟨w.heap.size + 1, 0, none⟩ = false := (hAB.frozen (p := ⟨w.heap.size + 1, 0, none⟩) hR.lt).trans (hR.free 0)
      have hMV : Marks w3.heap.size hi ds V := HMK.out.keep fun k _ h1 h2 => (hBV.block k (by omega)).trans h2
      have hDV := (Array.getElem?_eq_some_iff.mp hDf).1
      have hMD := (hMV.mono (show hi ≤ D by omega)).push (by have := HBW.out.size; omega) (Nat.lt_succ_self D) hDf
      have hBF := (hBb.trans (hAB.mono (by omega))).setCell (p := ⟨w.heap.size + 1, 0, none⟩) (by show w.heap.size ≤ w.heap.size + 1; omega) (.bool true)
      have hR9 : (V.setCell ⟨w.heap.size + 1, 0, none⟩ (.bool true)).cell? ⟨w.heap.size + 1, 0, none⟩ = some (.bool true) := World.cell?_setCell_same _ _ _ hRW
      have hRl := hR.lt
      have hWs := hAB.size
      have hM9 : Marks w3.heap.size (D + 1) ({ target := .collected D, args := #[] } :: ds) (V.setCell ⟨w.heap.size + 1, 0, none⟩ (.bool true)) := hMD.keep fun k h0 _ h2 => (Below.heap_setCell _ _ _ _ (fun e => by have e2 : k = w.heap.size + 1 := e; omega)).trans h2
      have hs9 : (V.setCell ⟨w.heap.size + 1, 0, none⟩ (.bool true)).heap.size = V.heap.size := by simp
      clear hMV hMD
      gi_wp2_with fail
      generalize V.setCell ⟨w.heap.size + 1, 0, none⟩ (.bool true) = V9 at *
      refine leavesP_marks hM9 (by omega) fun w' hb _ hcs => ?_
      have hRF := hcs ⟨w.heap.size + 1, 0, none⟩ _ (by show w.heap.size + 1 < _; omega) hR9
      refine ⟨.bool true, ?_, rfl, hBF.trans (hb.mono (by omega))⟩
      simp [results, Tryd.f4, go_sem, hRF]
    case stop2 =>
      rintro D c pre V hD ⟨j, hj, _⟩ hs _
      omega
theorem u8_natP {a : Int} (h : (Lit.int .u8 a).wf = true) : ∃ n : Nat, a = (n : Int) ∧ n < 256 := by
  have h2 : 0 ≤ a ∧ a ≤ 255 := by
    simp [Lit.wf, IntKind.min, IntKind.max, IntKind.signed, IntKind.bits] at h
    omega
  exact ⟨a.toNat, by omega, by omega⟩
theorem points_frame (a0 : Option Addr) (len cap : Nat) (Q : Nat → Nat → Int) (n : Int) (hn : (Lit.int .u8 n).wf = true) (w : World) (hl : len ≤ 9223372036854775807) (hZ : DeedsAt w a0 len Q) (hT : TableAt w) :
    Calls Tryd.prog 4 #[.slice a0 len cap, .int .u8 n] w fun e w' => e = .returned (.bool true) ∧ Below w.heap.size w w' := by
  obtain ⟨m, rfl, hm⟩ := u8_natP hn
  exact points_true a0 len cap Q m hm w hl hZ hT
end Go.Proofs.YtoemfehlnnbjdaaDoor
