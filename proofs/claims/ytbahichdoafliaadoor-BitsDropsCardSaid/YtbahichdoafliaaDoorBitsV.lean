/- BitsDrops, walked, at this seat's numbers. -/
import Derived.Test.YtbahichdoafliaaDoorBitsU
import Derived.Test.YtbahichdoafliaaDoorArgsB
import Derived.Test.YtbahichdoafliaaDoorSetMap
import Derived.Test.YtbahichdoafliaaDoorDropMath
import Derived.Deep.RegionHeld3
import Derived.IntWalk
namespace Go.Proofs.YtbahichdoafliaaDoor
open Go.RowKit Go.Shelf Go.MuLone Go.RwLone Go.Maps
attribute [local go_sem] Oper.semAt_some

/-- The numbers among the first k of a list. -/
def inFirst (zs : List Int) (k : Nat) : Nat → Bool := fun j => decide ((j : Int) ∈ zs.take k)
def atFirst (zs : List Int) (k : Nat) : Int → Int := fun y => if y ∈ zs.take k then 1 else 0

theorem inFirst_zero (zs : List Int) : inFirst zs 0 = fun _ => false := by funext j; simp [inFirst]
theorem atFirst_zero (zs : List Int) : atFirst zs 0 = fun _ => 0 := by funext j; simp [atFirst]
theorem first_same (zs : List Int) (k : Nat) (x : Int) (h0 : 0 ≤ x) (h1 : x ≤ 255) : (may 256 x && !inFirst zs k x.toNat) = (atFirst zs k x == 0) := by
  have hm : may 256 x = true := by simp only [may, Bool.and_eq_true, decide_eq_true_eq]; omega
  have e : ((x.toNat : Nat) : Int) = x := by omega
  rw [hm]
  unfold inFirst atFirst
  rw [e]
  by_cases h : x ∈ zs.take k
  · rw [decide_eq_true h, if_pos h]; rfl
  · rw [decide_eq_false h, if_neg h]; rfl
theorem inFirst_succ (zs : List Int) (k : Nat) (hk : k < zs.length) (h0 : 0 ≤ zs.getD k 0) (h1 : zs.getD k 0 ≤ 255) : putS 256 (inFirst zs k) (zs.getD k 0) = inFirst zs (k + 1) := by
  have hg : zs.getD k 0 = zs[k] := by simp [List.getD, hk]
  have hm : may 256 (zs.getD k 0) = true := by simp only [may, Bool.and_eq_true, decide_eq_true_eq]; omega
  funext j
  have e : (j = (zs.getD k 0).toNat) ↔ ((j : Int) = zs[k]) := by omega
  simp only [putS, hm, inFirst, List.take_succ_eq_append_getElem hk, List.mem_append, List.mem_singleton, Bool.true_and, e]
  rw [Bool.eq_iff_iff]; simp
theorem atFirst_succ (zs : List Int) (k : Nat) (hk : k < zs.length) : (fun y => if y = zs.getD k 0 then 1 else atFirst zs k y) = atFirst zs (k + 1) := by
  have hg : zs.getD k 0 = zs[k] := by simp [List.getD, hk]
  funext y
  unfold atFirst
  rw [List.take_succ_eq_append_getElem hk, hg]
  by_cases h : y = zs[k]
  · rw [if_pos h, if_pos (List.mem_append_right _ (List.mem_singleton.2 h))]
  · rw [if_neg h]
    by_cases h2 : y ∈ zs.take k
    · rw [if_pos h2, if_pos (List.mem_append_left _ h2)]
    · rw [if_neg h2, if_neg (fun h3 => (List.mem_append.1 h3).elim h2 (fun h4 => h (List.mem_singleton.1 h4)))]

/-- What holds at the head of the first loop. -/
def DropRel1 (B a mb : Nat) (wb : World) (zs : List Int) (c : Value) (wr : World) : Prop :=
  ∃ (k : Nat) (la : Option Nat), k ≤ zs.length ∧ c = .int .i64 (k : Int) ∧ SetMap B a la 256 mb k (atFirst zs k) wb wr (inFirst zs k)
/-- What holds at the head of the second one. -/
def DropRel2 (B a mb : Nat) (wb : World) (zs : List Int) (t : Nat) (c : Value) (wr : World) : Prop :=
  ∃ (k : Nat) (la : Option Nat), k ≤ zs.length ∧ c = .int .i64 (k : Int) ∧ SetMap B a la 256 mb (zs.length + k) (leftF zs (goneL zs t k)) wb wr (leftS zs (goneL zs t k))

theorem rel2_start (zs : List Int) (t : Nat) : atFirst zs zs.length = leftF zs (goneL zs t 0) ∧ inFirst zs zs.length = leftS zs (goneL zs t 0) := by
  refine ⟨?_, ?_⟩
  · funext y; simp [atFirst, leftF, goneL_zero]
  · funext y; simp [inFirst, leftS, goneL_zero]

set_option maxRecDepth 100000 in
set_option maxHeartbeats 800000 in
theorem drops_true (a1 : Option Addr) (zs : List Int) (cap1 : Nat) (turn : Int) (hturn : (Lit.int .u8 turn).wf = true) (w : World) (hl1 : zs.length ≤ 9223372036854775807) (hz1 : BytesAt w a1 zs) (hT : TabAt w) :
    Calls Tryd.prog 5 #[.slice a1 zs.length cap1, .int .u8 turn] w fun e w' => e = .returned (.bool true) ∧ Below w.heap.size w w' := by
  have H1 : Hid (BytesAt w a1 zs) := hz1
  obtain ⟨T, hT255, rfl⟩ : ∃ T : Nat, T ≤ 255 ∧ turn = (T : Int) := by
    simp [Lit.wf, IntKind.min, IntKind.max, IntKind.signed, IntKind.bits] at hturn
    exact ⟨turn.toNat, by omega, by omega⟩
  clear hturn
  clear hz1
  have hmm := @run_makeMap Tryd.prog
  obtain ⟨N, h1⟩ : ∃ N : Nat, 6 ≤ N := ⟨6, Nat.le_refl _⟩
  refine calls_of_wp_marks Tryd.func5 rfl N ?_
  simp only [Tryd.ntmps5, List.size_toArray, List.length_cons, List.length_nil, Nat.reduceAdd, Nat.reduceSub, Array.replicate_succ, Array.replicate_zero, List.push_toArray, List.append_toArray, List.nil_append, List.cons_append]
  gi_wp2_with fail
  refine ⟨trivial, fun h => (by cases h), ?_⟩
  have hR := Blk.new w #[.bool false] 4
  have hsb : (w.alloc (.cells #[.bool false] 4)).heap.size = w.heap.size + 1 := by simp
  have hBb := (Below.refl w.heap.size w).alloc (Nat.le_refl _) (.cells #[.bool false] 4)
  have hTb : TabAt (w.alloc (.cells #[.bool false] 4)) := fun j hj => cell_allocKeep (hT j hj) _
  clear hT
  generalize w.alloc (.cells #[.bool false] 4) = wb at *
  refine (callsIn_wide.2 (fit_true _)).mono ?_
  rintro e w1 ⟨rfl, hB⟩
  have hR1 : w1.cell? ⟨w.heap.size, 0, none⟩ = some (.bool false) := (hB.cell (p := ⟨w.heap.size, 0, none⟩) hR.lt).trans (hR.cell 0)
  have hZ1 : w1.frozen? ⟨w.heap.size, 0, none⟩ = false := (hB.frozen (p := ⟨w.heap.size, 0, none⟩) hR.lt).trans (hR.free 0)
  by_cases hbig : 100 < (zs.length : Int)
  · gi_wp2_with fail
    refine ⟨.bool true, ?_, rfl, (hBb.trans (hB.mono (by omega))).setCell (p := ⟨w.heap.size, 0, none⟩) (Nat.le_refl _) (.bool true)⟩
    have hc := World.cell?_setCell_same w1 ⟨w.heap.size, 0, none⟩ (.bool true) hR1
    simp [results, Tryd.f5, go_sem, hc]
  clear hR1 hZ1
  gi_wp2_with fail
  refine ⟨trivial, fun h => (by cases h), ?_⟩
  refine (callsIn_wide.2 (new_at 256 (by decide) _ 256 rfl)).mono ?_
  rintro e w2 ⟨a, ha, rfl, hA, hTn⟩
  have hs := hB.size
  have ho : OwnSet wb.heap.size a none := ⟨by omega, fun l e => (by cases e)⟩
  replace hB := hB.trans (hTn.below wb.heap.size (by omega) (fun _ _ h => h))
  clear hTn hs ha
  gi_wp2_with fail
  have hSM : SetMap wb.heap.size a none 256 w2.heap.size 0 (atFirst zs 0) wb (w2.alloc (.map #[] 0)) (inFirst zs 0) := by
    rw [atFirst_zero, inFirst_zero]
    exact ⟨hA.turn ((Turn.refl (fun _ => False) w2).alloc _) (fun h => h) (fun _ _ h => h), ho, MapAt.made w2, by have := hA.lt.1; omega, fun h => (by cases h), hB.size, hB.alloc hB.size _, Nat.le_refl _⟩
  clear hA ho hB
  generalize w2.alloc (.map #[] 0) = w3 at *
  generalize w2.heap.size = mb at *
  gi_loopw [20] (fun c wr => DropRel1 wb.heap.size a mb wb zs c wr) (fun c _ => zs.length - (intOf c).toNat)
  case atStart => exact ⟨0, none, Nat.zero_le _, rfl, hSM⟩
  case round =>
    clear hSM
    obtain ⟨k, la, hk, rfl, hSM⟩ := hrel
    by_cases hlt : k < zs.length
    · obtain ⟨bk, off, rfl, hbk, hc, hx0, hx1⟩ := H1.out k hlt
      replace hc := ((hBb.trans (hSM.below.mono (by omega))).cell (p := ⟨bk, off + k, none⟩) hbk).trans hc
      have k0 : 0 ≤ (k : Int) := by omega
      have k1 : (k : Int) < (zs.length : Int) := by omega
      have hsame := first_same zs k _ hx0 hx1
      have hS2 := inFirst_succ zs k hlt hx0 hx1
      have hF2 := atFirst_succ zs k hlt
      generalize zs.getD k 0 = x at hc hx0 hx1 hsame hS2 hF2
      have hw : (Lit.int .i64 x).wf = true := WalkArith.wf_i64 (by omega)
      have hwx : IntKind.i64.wrap x = x := IntWalk.i64_in _ (by omega)
      have cP := hSM.drew.put x
      rw [hsame, hS2] at cP
      have hlook := hSM.map.look x hw
      have hlookD := hSM.drew.map.look x hw
      have KEEP : Hid ((fun y => if y = x then 1 else atFirst zs k y) = atFirst zs (k + 1)) := hF2
      clear hsame hS2 hF2
      have HL : ∀ la4 w4 S4, SetMap wb.heap.size a la4 256 mb k (atFirst zs k) wb w4 S4 → (Instr.lookup 28 (.map (some mb)) (.int .i64 x) false).run Tryd.prog w4 = .ok (.int .i64 (atFirst zs k x)) w4 := fun _ _ _ h => h.map.look x hw
      generalize atFirst zs k x = cx at cP hlook hlookD HL
      gi_wp2_with fail
      refine wpIn_wide.2 ?_
      go_region_held3 (fun w' => (Instr.lookup 28 (.map (some mb)) (.int .i64 x) false).run Tryd.prog w' = .ok (.int .i64 cx) w') (first | exact hlook | exact hlookD | exact hk2)
        (first
          | (go_at_call 12; refine cP.mono ?_; rintro e w4 ⟨rfl, la4, h4⟩; have hk2 := HL _ _ _ h4))
      all_goals
        clear hk2 HL cP hlook hlookD hc
        obtain ⟨w5, hst, h5⟩ := h4.store (by omega) x 1 hw (by decide)
        rw [KEEP.out] at h5
        clear h4 KEEP hw
        gi_wp2_with fail
        clear hst
        go_roundw
        case rel => exact ⟨k + 1, la4, by omega, by go_num, h5⟩
        case measure => simp [intOf]; omega
    · obtain rfl : k = zs.length := by omega
      rw [(rel2_start zs T).1, (rel2_start zs T).2] at hSM
      gi_wp2_with fail
      generalize wr = w6 at *
      gi_loopw [40] (fun c wr => DropRel2 wb.heap.size a mb wb zs T c wr) (fun c _ => zs.length - (intOf c).toNat)
      case atStart => exact ⟨0, la, Nat.zero_le _, rfl, hSM⟩
      case round =>
        clear hSM la
        obtain ⟨k, la, hk, rfl, hSM⟩ := hrel
        by_cases hlt : k < zs.length
        · have hp : (k + T) % zs.length < zs.length := Nat.mod_lt _ (by omega)
          obtain ⟨bk, off, rfl, hbk, hc, hx0, hx1⟩ := H1.out _ hp
          replace hc := ((hBb.trans (hSM.below.mono (by omega))).cell (p := ⟨bk, off + (k + T) % zs.length, none⟩) hbk).trans hc
          have hmem := goneL_mem zs T k hlt
          have hnext := goneL_succ zs T k
          have hpe : ((k : Int) + (T : Int)) % (zs.length : Int) = (((k + T) % zs.length : Nat) : Int) := by rw [Int.natCast_emod, Int.natCast_add]
          generalize (k + T) % zs.length = p at *
          generalize zs.getD p 0 = x at *
          have k0 : 0 ≤ (k : Int) := by omega
          have k1 : (k : Int) < (zs.length : Int) := by omega
          have hw : (Lit.int .i64 x).wf = true := WalkArith.wf_i64 (by omega)
          have hmay : may 256 x = true := by simp only [may, Bool.and_eq_true, decide_eq_true_eq]; omega
          have cP := hSM.drew.drop x
          rw [hmay, leftF_same zs _ x hmem hx0, Bool.true_and, show dropS (leftS zs (goneL zs T k)) x = leftS zs (goneL zs T (k + 1)) from (leftS_next zs _ x).trans (by rw [hnext])] at cP
          have hlook := hSM.map.look x hw
          have hlookD := hSM.drew.map.look x hw
          have KEEP : Hid ((fun y => if y = x then 2 else leftF zs (goneL zs T k) y) = leftF zs (goneL zs T (k + 1))) := (leftF_next zs _ x).trans (by rw [hnext])
          have HL : ∀ la4 w4 S4, SetMap wb.heap.size a la4 256 mb (zs.length + k) (leftF zs (goneL zs T k)) wb w4 S4 → (Instr.lookup 28 (.map (some mb)) (.int .i64 x) false).run Tryd.prog w4 = .ok (.int .i64 (leftF zs (goneL zs T k) x)) w4 := fun _ _ _ h => h.map.look x hw
          generalize leftF zs (goneL zs T k) x = cx at cP hlook hlookD HL
          clear hmay hnext hmem
          gi_wp2_with fail
          refine wpIn_wide.2 ?_
          go_region_held3 (fun w' => (Instr.lookup 28 (.map (some mb)) (.int .i64 x) false).run Tryd.prog w' = .ok (.int .i64 cx) w') (first | exact hlook | exact hlookD | exact hk2)
            (first
              | (go_at_call 11; refine cP.mono ?_; rintro e w4 ⟨rfl, la4, h4⟩; have hk2 := HL _ _ _ h4))
          all_goals
            clear hk2 HL cP hlook hlookD hc
            obtain ⟨w5, hst, h5⟩ := h4.store (by omega) x 2 hw (by decide)
            rw [KEEP.out] at h5
            clear h4 KEEP hw hpe
            gi_wp2_with fail
            clear hst
            go_roundw
            case rel => exact ⟨k + 1, la4, by omega, by go_num, by rw [← Nat.add_assoc]; exact h5⟩
            case measure => simp [intOf]; omega
        · obtain rfl : k = zs.length := by omega
          rw [leftS_end] at hSM
          gi_wp2_with fail
          refine ⟨trivial, fun h => (by cases h), ?_⟩
          refine (callsIn_wide.2 (all_any a _)).mono ?_
          rintro e w' ⟨rfl, rfl⟩
          have hs5 := hSM.below.size
          have ho5 := hSM.own
          have hA5 := hSM.one
          have hB5 := hSM.below
          clear hSM
          have hx : (wr.alloc (.cells #[.pointer (some ⟨a, 0, none⟩)] 26)).cell? ⟨wr.heap.size, 0, none⟩ = some (.pointer (some ⟨a, 0, none⟩)) := (Blk.new wr _ _).cell 0
          have hA6 : SetAt (wr.alloc (.cells #[.pointer (some ⟨a, 0, none⟩)] 26)) a la 256 (fun _ => false) := hA5.turn ((Turn.refl (fun _ => False) wr).alloc _) (fun h => h) (fun _ _ h => h)
          have hB6 := hB5.trans ((Below.refl wb.heap.size wr).alloc hs5 (.cells #[.pointer (some ⟨a, 0, none⟩)] 26))
          have hs6 : (wr.alloc (.cells #[.pointer (some ⟨a, 0, none⟩)] 26)).heap.size = wr.heap.size + 1 := by simp
          have hT6 : TabAt (wr.alloc (.cells #[.pointer (some ⟨a, 0, none⟩)] 26)) := fun j hj => (hB6.cell (p := ⟨0, j, none⟩) hTb.lt).trans (hTb j hj)
          have hR6 : Blk (wr.alloc (.cells #[.pointer (some ⟨a, 0, none⟩)] 26)) w.heap.size #[.bool false] 4 := by unfold Blk; rw [hB6.block _ hR.lt]; exact hR
          generalize wr.alloc (.cells #[.pointer (some ⟨a, 0, none⟩)] 26) = W6 at *
          gi_wp2_with fail
          refine wpIn_rangeFunc_ownF rfl (by omega) (gf := 32) (lb := #[.pointer (some ⟨wr.heap.size, 0, none⟩)]) rfl trivial (enters_of Tryd.func32 (by kernel_rfl) rfl)
            (all_stops (N - 1) a la wr.heap.size 256 (fun _ => false) W6 hA6 hT6 hx) KpSet.trans (fun W l o o' hl _ _ _ => KpSet.putObj (n0 := W6.heap.size) hA6.lt.1 hA6.lt.2 (by omega) hT6.lt W l o' hl) (Below.refl _ _) (fun _ => rfl)
            (fun _ W => Below W6.heap.size W6 W) (fun _ _ _ => True) (ownFrom_below (Nat.le_refl _) (Nat.le_refl _)) (fun _ _ _ _ _ _ _ _ => trivial) (Below.refl _ _) ?a1 ?assign ?body ?done ?stop
          case assign =>
            intro l0 x W K hK
            gi_wp2
            exact hK
          case body =>
            rintro l0 pre x W hI _
            have hRW : W.cell? ⟨w.heap.size, 0, none⟩ = some (.bool false) := (hI.cell (p := ⟨w.heap.size, 0, none⟩) hR6.lt).trans (hR6.cell 0)
            have hZW : W.frozen? ⟨w.heap.size, 0, none⟩ = false := (hI.frozen (p := ⟨w.heap.size, 0, none⟩) hR6.lt).trans (hR6.free 0)
            gi_wp2
            exact ⟨KeepsOthers.setCell _ _ _, trivial⟩
          case done =>
            rintro D xs W hD _ hI hK
            have hA7 := hA6.below hI hA6.lt.1 hA6.lt.2
            have hB7 := hB6.trans (hI.mono hB6.size)
            gi_wp2_with fail
            refine ⟨trivial, fun h => (by cases h), ?_⟩
            refine (callsIn_wide.2 (count_at a la 256 _ 0 _ hA7 (by rw [card_none _ (fun _ => rfl)]; rfl))).mono ?_
            intro e w8 hP
            have hSB := same_below hA7 hP.2.1 hP.2.2
            obtain ⟨rfl, hA8, hB8, _⟩ := hP.open ho5 hB7.size
            replace hB8 := hB7.trans hB8
            have hDl : D < W.heap.size := (Array.getElem?_eq_some_iff.mp hK).1
            have hK8 : w8.heap[D]? = some (.deferred (some [])) := (hSB.block D hDl).trans hK
            have hR8 : w8.cell? ⟨w.heap.size, 0, none⟩ = some (.bool false) := (hB8.cell (p := ⟨w.heap.size, 0, none⟩) hR.lt).trans (hR.cell 0)
            have hZ8 : w8.frozen? ⟨w.heap.size, 0, none⟩ = false := (hB8.frozen (p := ⟨w.heap.size, 0, none⟩) hR.lt).trans (hR.free 0)
            clear hSB hA8 hP
            gi_wp2_with fail
            have hK9 := (KeepsOthers.setCell w8 ⟨w.heap.size, 0, none⟩ (.bool true)).same D _ hK8 rfl
            have hR9 : (w8.setCell ⟨w.heap.size, 0, none⟩ (.bool true)).cell? ⟨w.heap.size, 0, none⟩ = some (.bool true) := World.cell?_setCell_same _ _ _ hR8
            have hBb9 := (hBb.trans (hB8.mono (by omega))).setCell (p := ⟨w.heap.size, 0, none⟩) (Nat.le_refl _) (.bool true)
            generalize w8.setCell ⟨w.heap.size, 0, none⟩ (.bool true) = V at *
            have hDD : w.heap.size < D := by omega
            refine ⟨by simp, .inl ⟨D, _, rfl, run_takeDeferred hK9, ?_⟩⟩
            have hRF : (V.putObj D (.deferred none)).cell? ⟨w.heap.size, 0, none⟩ = some (.bool true) := by
              exact (World.cell?_of_block (w := V) (World.putObj_heap_other (by simp; omega))).trans hR9
            have hBF : Below w.heap.size w (V.putObj D (.deferred none)) :=
              ⟨hBb9.os, hBb9.tape, hBb9.output, by have := hBb9.size; simp; omega, fun k hk => by rw [World.putObj_heap_other (by omega), hBb9.block k hk]⟩
            generalize V.putObj D (.deferred none) = V2 at *
            refine ⟨.bool true, ?_, rfl, hBF⟩
            simp [results, Tryd.f5, go_sem, hRF]
          case stop =>
            rintro D c pre W hD ⟨i, j, hj, _⟩ _ hK
            exact absurd hj.2.1 (by simp)
end Go.Proofs.YtbahichdoafliaaDoor
