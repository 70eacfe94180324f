/- CellNumbers, walked, at this seat's numbers. -/
import Derived.Test.YtcpimoepbmlmdaaDoorCeD
import Derived.Test.YtcpimoepbmlmdaaDoorArPa
import Derived.Test.YtcpimoepbmlmdaaDoorArgsI
import Derived.RangeFuncBox
namespace Go.Proofs.YtcpimoepbmlmdaaDoor
open Go Go.RowKit Go.Shelf Go.MuLone Go.RwLone
set_option linter.unusedSimpArgs false
set_option linter.unusedVariables false
attribute [local go_sem] Oper.semAt_some

/-- Two objects of k fields: the first one points to the other one by its first i fields. -/
structure Pair2 (s : ArS) (x k i : Nat) (v : Int) : Prop where
  one : ∃ F, ObjAt s 1 k v F ∧ ∀ j, j < i → F j = (x : Int)
  two : ObjAt s x k 0 (fun _ => 0)
  ne : x ≠ 1
theorem Pair2.setF {s : ArS} {x k i : Nat} {v : Int} (h : Pair2 s x k i v) (hF : Fits s) (hi : i < k) : Pair2 (s.setW ((1 : Nat) : Int) (2 + (i : Int)) (x : Int)) x k (i + 1) v := by
  obtain ⟨F, o, hx⟩ := h.one
  refine ⟨⟨upd F i (x : Int), o.setF hF hi _, fun j hj => ?_⟩, h.two.otherF hF o (fun e => h.ne e.symm) hi _, h.ne⟩
  unfold upd
  by_cases e : j = i
  · rw [if_pos e]
  · rw [if_neg e]; exact hx j (by omega)
theorem Pair2.setSc {s : ArS} {x k i : Nat} {v : Int} (h : Pair2 s x k i v) (hF : Fits s) (y : Int) : Pair2 (s.setW ((1 : Nat) : Int) 1 y) x k i y := by
  obtain ⟨F, o, hx⟩ := h.one
  exact ⟨⟨F, o.setSc hF y, hx⟩, h.two.otherSc hF o (fun e => h.ne e.symm) y, h.ne⟩
theorem Pair2.full {s : ArS} {x k : Nat} {v : Int} (h : Pair2 s x k k v) : ObjAt s 1 k v (fun _ => (x : Int)) := by
  obtain ⟨F, o, hx⟩ := h.one
  exact ⟨o.S, o.fit, o.nf, o.sc, fun i hi => by rw [o.fs i hi, hx i hi]⟩
theorem elems_all {T : Nat → Bool} (h : ∀ j, T j = true) : ∀ n, (elems T n).length = n
  | 0 => rfl
  | n + 1 => by rw [elems_yes (h n), List.length_append, elems_all h n]; rfl

/-- Between two fields. -/
def NumRel (B : Nat) (X : ArB) (wb : World) (x k b9 : Nat) (v : Value) (wr : World) : Prop :=
  ∃ (i : Nat) (lo : Option Nat) (s : ArS), i ≤ k ∧ v = .int .i64 (i : Int) ∧ ArIn B (X.with lo) s wb wr ∧ Pair2 s x k i 0 ∧ Blk wr b9 #[.int .i64 (x : Int)] 30
/-- Between two numbers. -/
def NumRel2 (B : Nat) (X : ArB) (wb : World) (x k b9 n : Nat) (v : Value) (wr : World) : Prop :=
  ∃ (i : Nat) (lo : Option Nat) (s : ArS) (y : Int), i ≤ n ∧ v = .int .i64 (i : Int) ∧ ArIn B (X.with lo) s wb wr ∧ Pair2 s x k k y ∧ Blk wr b9 #[.int .i64 (x : Int)] 30
theorem Blk.step1 {B : Nat} {X X' : ArB} {s s' : ArS} {wb wr w' : World} {b : Nat} {cs : Array Value} (hb : Blk wr b cs 30) (h : ArIn B X s wb wr) (h2 : ArStep X wr X' w') : Blk w' b cs 30 :=
  (hb.step h2 (h.at_.far hb (by decide) (by decide) (by decide) (by decide))).1

set_option maxRecDepth 100000 in
set_option maxHeartbeats 8000000 in
theorem numbers_true (a0 : Option Addr) (zs : List Int) (cap : Nat) (n : Nat) (hn : n < 256) (w : World) (_ : zs.length ≤ 9223372036854775807) (hZ : NumsAt w a0 zs) (hT : TableAt w) :
    Calls Tryd.prog 13 #[.slice a0 zs.length cap, .int .u8 (n : Int)] w fun e w' => e = .returned (.bool true) ∧ Below w.heap.size w w' := by
  have hg := hT.lt
  have HZ := Lib.hid hZ
  clear hZ
  obtain ⟨k, hk⟩ : ∃ k, k = n % 7 := ⟨_, rfl⟩
  have hk6 : k ≤ 6 := by omega
  have hkt : (n : Int).tmod 7 = (k : Int) := by rw [Int.tmod_eq_emod_of_nonneg (by omega)]; omega
  clear hk
  have k0 : (0 : Int) ≤ (k : Int) := by omega
  obtain ⟨q1, q2, q3⟩ : newR (.new 2) (k : Int) = 1 ∧ newE (.new 2) (k : Int) = 0 ∧ ObjAt ((ArS.new 2).newS (k : Int)) 1 k 0 (fun _ => 0) := by
    have e1 := seek_empty (s := .new 2) (clsK_ok (k : Int)) (by decide) (fun _ _ => rfl)
    have e2 : newE (.new 2) (k : Int) = 0 := by rw [newE_mid (by omega) (by omega), e1]; rfl
    have e3 : newR (.new 2) (k : Int) = 1 := by rw [(newE_zero e2).2.2.2, e1]
    have o := new_obj (fits_new (P := 2) (by decide)) (k := k) e2
    rw [e3] at o
    exact ⟨e3, e2, o⟩
  have hfr : 0 < freeTo ((ArS.new 2).newS (k : Int)) ((ArS.new 2).newS (k : Int)).P := by
    have := free_new (s := .new 2) (k : Int)
    rw [show freeTo (.new 2) (ArS.new 2).P = 2 from freeTo_new 2] at this
    omega
  obtain ⟨M, hM6⟩ : ∃ M : Nat, 8 ≤ M := ⟨8, Nat.le_refl _⟩
  refine calls_of_wp_marks Tryd.func13 rfl M ?_
  simp only [Tryd.ntmps13, List.size_toArray, List.length_cons, List.length_nil, Nat.reduceAdd, Nat.reduceSub, Array.replicate_succ, Array.replicate_zero, List.push_toArray, List.append_toArray, List.nil_append, List.cons_append]
  gi_wp2_with fail
  refine ⟨trivial, fun h => (by cases h), ?_⟩
  have hR := Blk.new w #[.bool false] 4
  have hBb := (Below.refl w.heap.size w).alloc (Nat.le_refl _) (.cells #[.bool false] 4)
  have hTb : TableAt (w.alloc (.cells #[.bool false] 4)) := hT.below ((Below.refl w.heap.size w).alloc (Nat.le_refl _) _)
  have hsb : (w.alloc (.cells #[.bool false] 4)).heap.size = w.heap.size + 1 := by simp
  generalize w.alloc (.cells #[.bool false] 4) = wb at *
  refine (callsIn_wide.2 (cefit_true wb hTb)).mono ?_
  rintro e w1 ⟨rfl, hB⟩
  have hR1 : w1.cell? ⟨w.heap.size, 0, none⟩ = some (.bool false) := (hB.cell (p := ⟨w.heap.size, 0, none⟩) hR.lt).trans (hR.cell 0)
  have hZ1 : w1.frozen? ⟨w.heap.size, 0, none⟩ = false := (hB.frozen (p := ⟨w.heap.size, 0, none⟩) hR.lt).trans (hR.free 0)
  by_cases hbig : 60 < (zs.length : Int)
  · gi_wp2_with fail
    refine ⟨.bool true, ?_, rfl, (hBb.trans (hB.mono (by omega))).setCell (p := ⟨w.heap.size, 0, none⟩) (Nat.le_refl _) (.bool true)⟩
    have hc := World.cell?_setCell_same w1 ⟨w.heap.size, 0, none⟩ (.bool true) hR1
    simp [results, Tryd.f13, go_sem, hc]
  clear hR1 hZ1
  gi_wp2_with fail
  refine ⟨trivial, fun h => (by cases h), ?_⟩
  refine (callsIn_wide.2 (new_in 2 2 (by decide) wb.heap.size wb _ hB (Nat.le_refl _) hTb (by omega))).mono ?_
  rintro e w2 ⟨X, rfl, h2, _, _⟩
  clear hB
  gi_wp2_with fail
  refine ⟨trivial, fun h => (by cases h), ?_⟩
  refine (callsIn_wide.2 (ceNewOk h2 (k : Int) 1 q1 q2)).mono ?_
  rintro e w3 ⟨rfl, lo3, h3, _⟩
  have hF3 := h3.at_.fits
  generalize (ArS.new 2).newS (k : Int) = s3 at *
  clear h2 q1 q2 hkt
  have he : newE s3 (k : Int) = 0 := new_room k0 (by omega) hfr
  have o1 := q3.new hF3 (k : Int)
  have o2 := new_obj hF3 he
  have hne := new_apart hF3 he q3.S
  gi_wp2_with fail
  refine ⟨trivial, fun h => (by cases h), ?_⟩
  refine (callsIn_wide.2 (ceNewOk h3 (k : Int) (newR s3 (k : Int)) rfl he)).mono ?_
  rintro e w4 ⟨rfl, lo4, h4, _⟩
  generalize newR s3 (k : Int) = x at *
  generalize s3.newS (k : Int) = s4 at *
  clear h3 he q3 hfr hF3
  have hx1 := (o2.pos h4.at_.fits).1
  have hP2 : Pair2 s4 x k 0 0 := ⟨⟨_, o1, fun j hj => absurd hj (by omega)⟩, o2, hne⟩
  have hXlt := h4.at_.lt
  have h5 := h4.alloc (.cells #[.int .i64 (x : Int)] 30)
  have hb5 := Blk.new w4 #[.int .i64 (x : Int)] 30
  gi_wp2_with fail
  generalize w4.alloc (.cells #[.int .i64 (x : Int)] 30) = w5 at *
  generalize w4.heap.size = b9 at *
  clear h4 o1 o2 hne hXlt
  gi_loopw [48] (fun v48 wr => NumRel wb.heap.size X wb x k b9 v48 wr) (fun v48 _ => k - (intOf v48).toNat)
  case atStart => exact ⟨0, lo4, s4, Nat.zero_le _, rfl, h5, hP2, hb5⟩
  case round =>
    clear h5 hP2 hb5
    obtain ⟨i, lo, s, hi, rfl, hI, hP, hb⟩ := hrel
    have hc9 := hb.cell 0
    simp only [List.getElem?_toArray, List.getElem?_cons_zero] at hc9
    by_cases hik : i < k
    · have hI1 : (i : Int) < (k : Int) := by omega
      have hI0 : (0 : Int) ≤ (i : Int) := by omega
      have hP3 := hP.setF hI.at_.fits hik
      obtain ⟨F, o, _⟩ := hP.one
      gi_wp2_with fail
      refine ⟨trivial, fun h => (by cases h), ?_⟩
      refine (callsIn_wide.2 (ceSetFieldOk hI o i hik (x : Int))).mono ?_
      rintro e w6 ⟨rfl, lo6, h6, k6⟩
      have hb6 := hb.step1 (s' := s) hI k6
      generalize s.setW ((1 : Nat) : Int) (2 + (i : Int)) (x : Int) = s6 at *
      clear hI hP o hb hc9 k6
      gi_wp2_with fail
      go_roundw
      case rel => exact ⟨i + 1, lo6, s6, by omega, by go_num, h6, hP3, hb6⟩
      case measure => simp [intOf]; omega
    · obtain rfl : i = k := by omega
      gi_wp2_with fail
      gi_loopw [59] (fun v59 wr => NumRel2 wb.heap.size X wb x i b9 zs.length v59 wr) (fun v59 _ => zs.length - (intOf v59).toNat)
      case atStart => exact ⟨0, lo, s, 0, Nat.zero_le _, rfl, hI, hP, hb⟩
      case round =>
        clear hI hP hb hc9
        obtain ⟨j, lo, s, y, hj, rfl, hI, hP, hb⟩ := hrel
        have hc9 := hb.cell 0
        simp only [List.getElem?_toArray, List.getElem?_cons_zero] at hc9
        have hj0 : (0 : Int) ≤ (j : Int) := by omega
        by_cases hjl : j < zs.length
        · have hj1 : (j : Int) < (zs.length : Int) := by omega
          obtain ⟨bk, off, rfl, hbk, hc0, hwz⟩ := HZ.out j hjl
          replace hc0 := ((hBb.trans (hI.below.mono (by omega))).cell (p := ⟨bk, off + j, none⟩) hbk).trans hc0
          generalize zs.getD j 0 = z at *
          have hP3 := hP.setSc hI.at_.fits z
          have o := hP.full
          gi_wp2_with fail
          refine ⟨trivial, fun h => (by cases h), ?_⟩
          refine (callsIn_wide.2 (ceSetScalarOk hI o z)).mono ?_
          rintro e w6 ⟨rfl, lo6, h6, k6⟩
          have hb6 := hb.step1 (s' := s) hI k6
          generalize s.setW ((1 : Nat) : Int) 1 z = s6 at *
          clear hI hP o hb hc9 k6 hc0
          have o6 := hP3.full
          gi_wp2_with fail
          refine ⟨trivial, fun h => (by cases h), ?_⟩
          refine (callsIn_wide.2 (ceScalarOk h6 o6)).mono ?_
          rintro e w7 ⟨rfl, hB7⟩
          have h7 := h6.ask hB7
          have hb7 := hb6.below hB7
          have hc9 := hb7.cell 0
          simp only [List.getElem?_toArray, List.getElem?_cons_zero] at hc9
          clear h6 hb6 hB7
          gi_wp2_with fail
          refine ⟨trivial, fun h => (by cases h), ?_⟩
          refine (callsIn_wide.2 (ceScalarOk h7 hP3.two)).mono ?_
          rintro e w8 ⟨rfl, hB8⟩
          have h8 := h7.ask hB8
          have hb8 := hb7.below hB8
          clear h7 hb7 hB8 hc9
          gi_wp2_with fail
          refine ⟨trivial, fun h => (by cases h), ?_⟩
          refine (callsIn_wide.2 (ceFieldsOk h8 o6)).mono ?_
          rintro e w9 ⟨rfl, hB9⟩
          have h9 := h8.ask hB9
          have hb9 := hb8.below hB9
          clear h8 hb8 hB9 o6
          gi_wp2_with fail
          go_roundw
          case rel => exact ⟨j + 1, lo6, s6, z, by omega, by go_num, h9, hP3, hb9⟩
          case measure => simp [intOf]; omega
        · obtain rfl : j = zs.length := by omega
          have o := hP.full
          have hrd : Reads s 1 i (fun _ => (x : Int)) := o.reads hI.at_.fits
          have hXlt := hI.at_.lt
          have hsB := hI.size
          have htab := hI.tabB
          have hb9lt := hb.lt
          have hI6 := ((hI.alloc (.cells #[.int .i64 0] 3)).alloc (.cells #[.pointer (some ⟨X.a, 0, none⟩)] 24)).alloc (.cells #[.int .i64 1] 30)
          have hb6 := ((hb.alloc (.cells #[.int .i64 0] 3)).alloc (.cells #[.pointer (some ⟨X.a, 0, none⟩)] 24)).alloc (.cells #[.int .i64 1] 30)
          have hbox : Blk (((wr.alloc (.cells #[.int .i64 0] 3)).alloc (.cells #[.pointer (some ⟨X.a, 0, none⟩)] 24)).alloc (.cells #[.int .i64 1] 30)) wr.heap.size #[.int .i64 0] 3 := ((Blk.new wr _ _).alloc _).alloc _
          have b0 : ((((wr.alloc (.cells #[.int .i64 0] 3)).alloc (.cells #[.pointer (some ⟨X.a, 0, none⟩)] 24)).alloc (.cells #[.int .i64 1] 30))).cell? ⟨wr.heap.size + 1, 0, none⟩ = some (.pointer (some ⟨X.a, 0, none⟩)) := by
            have := ((Blk.new (wr.alloc (.cells #[.int .i64 0] 3)) #[.pointer (some ⟨X.a, 0, none⟩)] 24).alloc (.cells #[.int .i64 1] 30)).cell 0
            simpa using this
          have b1 : ((((wr.alloc (.cells #[.int .i64 0] 3)).alloc (.cells #[.pointer (some ⟨X.a, 0, none⟩)] 24)).alloc (.cells #[.int .i64 1] 30))).cell? ⟨wr.heap.size + 1 + 1, 0, none⟩ = some (.int .i64 1) := by
            have := (Blk.new ((wr.alloc (.cells #[.int .i64 0] 3)).alloc (.cells #[.pointer (some ⟨X.a, 0, none⟩)] 24)) #[.int .i64 1] 30).cell 0
            simpa using this
          have hs6 : ((((wr.alloc (.cells #[.int .i64 0] 3)).alloc (.cells #[.pointer (some ⟨X.a, 0, none⟩)] 24)).alloc (.cells #[.int .i64 1] 30))).heap.size = wr.heap.size + 3 := by simp
          have HS := Lib.hid hsb
          have hRw : w.heap.size < wb.heap.size := by omega
          clear hc9 o hP hI hb hsb
          gi_wp2_with fail
          refine ⟨trivial, fun h => (by cases h), ?_⟩
          refine (callsIn_wide.2 (ptsfn_any X.a 1 _)).mono ?_
          rintro e w' ⟨rfl, rfl⟩
          gi_wp2_with fail
          generalize (((wr.alloc (.cells #[.int .i64 0] 3)).alloc (.cells #[.pointer (some ⟨X.a, 0, none⟩)] 24)).alloc (.cells #[.int .i64 1] 30)) = W6 at *
          generalize wr.heap.size = s0 at *
          have hxx : ((x : Int) != (x : Int)) = false := by simp
          refine wpIn_rangeFunc_ownF rfl (by omega) (gf := 58) (lb := #[.pointer (some ⟨s0 + 1, 0, none⟩), .pointer (some ⟨s0 + 1 + 1, 0, none⟩)]) rfl trivial (enters_of Tryd.func58 (by kernel_rfl) rfl)
            (pts_stops (X := X.with lo) (M - 1) (s0 + 1) i 1 (fun _ => (x : Int)) hrd W6 hI6.at_ hI6.tabAt b0 b1) KpPt.trans (fun W l o o' hl _ _ _ => KpPt.putObj (n0 := W6.heap.size) (fun k hk => by have := hXlt k hk; omega) (by omega) (by omega) W l o' hl) (Below.refl _ _) (fun _ => rfl)
            (fun pre W => ArIn wb.heap.size (X.with lo) s wb W ∧ Blk W s0 #[.int .i64 (pre.length : Int)] 3 ∧ Blk W b9 #[.int .i64 (x : Int)] 30) (fun _ _ _ => False)
            (fun pre W W' row hs hg hr => ⟨hs.1.far hg (fun r e => ⟨by have := (hr r e).1; omega, (hr r e).2⟩), hs.2.1.kept hg (fun r e => (hr r e).2), hs.2.2.kept hg (fun r e => (hr r e).2)⟩)
            (fun _ _ _ _ _ hs _ _ => hs) ⟨hI6, hbox, hb6⟩ ?a1 ?assign ?body ?done ?stop
          case assign =>
            intro l0 x W K hK
            unfold ptArgs
            gi_wp2
            exact hK
          case body =>
            rintro l0 pre x1 W ⟨hI, hbW, hb9⟩ hpl
            have hcb := hbW.cell 0
            have hzb := hbW.free 0
            have hc9 := hb9.cell 0
            simp only [List.getElem?_toArray, List.getElem?_cons_zero] at hcb hc9
            have hp0 : (pre.length : Int) ≤ 4096 := by omega
            have hp1 : (0 : Int) ≤ (pre.length : Int) := by omega
            have hbW2 := Lib.hid hbW
            clear hbW
            gi_wp2
            have hTs : Turn (fun k => k = s0) W (W.setCell ⟨s0, 0, none⟩ (.int .i64 ((pre.length : Int) + 1))) := (Turn.refl _ W).set _ _ (.inr rfl)
            refine ⟨KeepsOthers.setCell _ _ _, ⟨⟨fun k hk => Below.heap_setCell _ _ _ _ (fun e => by have := hXlt k hk; have e2 : k = s0 := e; omega), Below.heap_setCell _ _ _ _ (fun e => by have e2 : s0 + 1 = s0 := e; omega), Below.heap_setCell _ _ _ _ (fun e => by have e2 : s0 + 1 + 1 = s0 := e; omega)⟩, Below.heap_setCell _ _ _ _ (fun e => by have e2 : (0 : Nat) = s0 := e; omega)⟩, ?_, ?_, hb9.turn hTs (by omega)⟩
            · exact hI.turned hTs (fun k hk e => by have := hXlt k hk; omega) (fun k hk e => by omega)
            · refine (hbW2.out.setAt 0 _).is ?_
              simp
          case done =>
            rintro D xs W hD hxs ⟨hI, hbW, hb9⟩ hK
            have hlen : xs.length = i := by
              have := congrArg List.length hxs
              rw [List.length_map, elems_all (fun j => by unfold nz; rw [decide_eq_false (show ¬ ((x : Int) = 0) by omega)]; rfl)] at this
              exact this
            rw [hlen] at hbW
            have hcm := hbW.cell 0
            simp only [List.getElem?_toArray, List.getElem?_cons_zero] at hcm
            have hRW : W.cell? ⟨w.heap.size, 0, none⟩ = some (.bool false) := (hI.below.cell (p := ⟨w.heap.size, 0, none⟩) hR.lt).trans (hR.cell 0)
            have hZW : W.frozen? ⟨w.heap.size, 0, none⟩ = false := (hI.below.frozen (p := ⟨w.heap.size, 0, none⟩) hR.lt).trans (hR.free 0)
            have hBW := hBb.trans (hI.below.mono (by omega))
            have hii : ((i : Int) == (i : Int)) = true := by simp
            clear hlen hxs hbW
            gi_wp2_with fail
            have hK9 := (KeepsOthers.setCell W ⟨w.heap.size, 0, none⟩ (.bool true)).same D _ hK rfl
            have hR9 : (W.setCell ⟨w.heap.size, 0, none⟩ (.bool true)).cell? ⟨w.heap.size, 0, none⟩ = some (.bool true) := World.cell?_setCell_same _ _ _ hRW
            have hB9 := hBW.setCell (p := ⟨w.heap.size, 0, none⟩) (Nat.le_refl _) (.bool true)
            generalize W.setCell ⟨w.heap.size, 0, none⟩ (.bool true) = V at *
            refine ⟨by simp, .inl ⟨D, _, rfl, run_takeDeferred hK9, ?_⟩⟩
            have hRF : (V.putObj D (.deferred none)).cell? ⟨w.heap.size, 0, none⟩ = some (.bool true) := (World.cell?_of_block (w := V) (World.putObj_heap_other (by simp; omega))).trans hR9
            have hBF := take_end hK9 (by omega) hB9
            generalize V.putObj D (.deferred none) = V2 at *
            refine ⟨.bool true, ?_, rfl, hBF⟩
            simp [results, Tryd.f13, go_sem, hRF]
          case stop =>
            rintro D c pre W hD _ hs _
            exact hs.elim
theorem numbers_frame (a0 : Option Addr) (zs : List Int) (cap : Nat) (n : Int) (hn : (Lit.int .u8 n).wf = true) (w : World) (hl : zs.length ≤ 9223372036854775807) (hZ : NumsAt w a0 zs) (hT : TableAt w) :
    Calls Tryd.prog 13 #[.slice a0 zs.length cap, .int .u8 n] w fun e w' => e = .returned (.bool true) ∧ Below w.heap.size w w' := by
  obtain ⟨m, rfl, hm⟩ := u8_nat hn
  exact numbers_true a0 zs cap m hm w hl hZ hT
end Go.Proofs.YtcpimoepbmlmdaaDoor
