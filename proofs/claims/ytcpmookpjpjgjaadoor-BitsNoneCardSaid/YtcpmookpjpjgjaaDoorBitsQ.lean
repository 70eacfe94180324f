/- BitsNone, walked, at this seat's numbers. -/
import Derived.Test.YtcpmookpjpjgjaaDoorBitsP
namespace Go.Proofs.YtcpmookpjpjgjaaDoor
open Go.RowKit Go.Shelf Go.MuLone Go.RwLone
attribute [local go_sem] Oper.semAt_some

theorem neg_mask (r : Nat) (hr : r ≤ 65535) : (-(r : Int)).toNat = 0 := by omega

set_option maxRecDepth 100000 in
set_option maxHeartbeats 4000000 in
theorem none_true (n i : Int) (w : World) (hT : TabAt w) : Calls Tryd.prog 4 #[.int .i64 n, .int .i64 i] w fun e w' => e = .returned (.bool true) ∧ Below w.heap.size w w' := by
  obtain ⟨r, hr, he⟩ := i64_and_mask n 65535 (by decide)
  replace he : bits .and .i64 n 65535 = (r : Int) := he
  obtain ⟨q, hq, he2⟩ := i64_and_mask n 255 (by decide)
  replace he2 : bits .and .i64 n 255 = (q : Int) := he2
  obtain ⟨N, h1⟩ : ∃ N : Nat, 6 ≤ N := ⟨6, Nat.le_refl _⟩
  refine calls_of_wp_marks Tryd.func4 rfl N ?_
  simp only [Tryd.ntmps4, List.size_toArray, List.length_cons, List.length_nil, Nat.reduceAdd, Nat.reduceSub, Array.replicate_succ, Array.replicate_zero, List.push_toArray, List.append_toArray, List.nil_append, List.cons_append]
  gi_wp2_with fail
  refine ⟨trivial, fun h => (by cases h), ?_⟩
  have hR := Blk.new w #[.bool false] 4
  have hsb : (w.alloc (.cells #[.bool false] 4)).heap.size = w.heap.size + 1 := by simp
  have hBb := (Below.refl w.heap.size w).alloc (Nat.le_refl _) (.cells #[.bool false] 4)
  have hTb : TabAt (w.alloc (.cells #[.bool false] 4)) := fun j hj => cell_allocKeep (hT j hj) _
  generalize w.alloc (.cells #[.bool false] 4) = wb at *
  refine (callsIn_wide.2 (fit_true _)).mono ?_
  rintro e w1 ⟨rfl, hB⟩
  gi_wp2_with fail
  refine ⟨trivial, fun h => (by cases h), ?_⟩
  refine (callsIn_wide.2 (new_at _ (by omega) _ 0 (by omega))).mono ?_
  rintro e w2 ⟨b, hb, rfl, hA, hTn⟩
  have hs := hB.size
  have ho : OwnSet wb.heap.size b none := ⟨by omega, fun l e => (by cases e)⟩
  replace hB := hB.trans (hTn.below wb.heap.size (by omega) (fun _ _ h => h))
  clear hTn hs hb
  gi_wp2_with fail
  refine ⟨trivial, fun h => (by cases h), ?_⟩
  refine (callsIn_wide.2 (len_any b none 0 _ _ hA)).mono ?_
  rintro e w' ⟨rfl, rfl⟩
  gi_wp2_with fail
  refine ⟨trivial, fun h => (by cases h), ?_⟩
  refine (callsIn_wide.2 (put_no b none 0 _ i _ (by omega) hA)).mono ?_
  rintro e w' ⟨rfl, rfl⟩
  gi_wp2_with fail
  refine ⟨trivial, fun h => (by cases h), ?_⟩
  refine (callsIn_wide.2 (has_no b none 0 _ i _ (by omega) hA)).mono ?_
  rintro e w' ⟨rfl, rfl⟩
  gi_wp2_with fail
  refine ⟨trivial, fun h => (by cases h), ?_⟩
  refine (callsIn_wide.2 (drop_no b none 0 _ i _ (by omega) hA)).mono ?_
  rintro e w' ⟨rfl, rfl⟩
  gi_wp2_with fail
  refine ⟨trivial, fun h => (by cases h), ?_⟩
  refine (callsIn_wide.2 (count_at b none 0 _ 0 _ hA (by rw [card_none _ (fun _ => rfl)]; rfl))).mono ?_
  intro e w3 hP
  obtain ⟨rfl, _, hB3, _⟩ := hP.open ho hB.size
  replace hB := hB.trans hB3
  clear hP hB3 hA ho
  gi_wp2_with fail
  refine ⟨trivial, fun h => (by cases h), ?_⟩
  refine (callsIn_wide.2 (new_at _ (by omega) _ q (by omega))).mono ?_
  rintro e w4 ⟨t, ht, rfl, hA, hTn⟩
  have hs := hB.size
  have ho : OwnSet wb.heap.size t none := ⟨by omega, fun l e => (by cases e)⟩
  replace hB := hB.trans (hTn.below wb.heap.size (by omega) (fun _ _ h => h))
  clear hTn hs ht
  gi_wp2_with fail
  have hS5 := Blk.new w4 #[.int .i64 (-1), .int .i64 (q : Int), .int .i64 (-9223372036854775808), .int .i64 9223372036854775807] 3
  have hA5 : SetAt (w4.alloc (.cells #[.int .i64 (-1), .int .i64 (q : Int), .int .i64 (-9223372036854775808), .int .i64 9223372036854775807] 3)) t none q (fun _ => false) :=
    hA.turn ((Turn.refl (fun _ => False) w4).alloc _) (fun h => h) (fun _ _ h => h)
  have hB5 := hB.trans ((Below.refl wb.heap.size w4).alloc hB.size (.cells #[.int .i64 (-1), .int .i64 (q : Int), .int .i64 (-9223372036854775808), .int .i64 9223372036854775807] 3))
  generalize w4.alloc (.cells #[.int .i64 (-1), .int .i64 (q : Int), .int .i64 (-9223372036854775808), .int .i64 9223372036854775807] 3) = V5 at *
  generalize w4.heap.size = sb at *
  have hval : ∀ k : Nat, k < 4 → ∃ v : Int, V5.cell? ⟨sb, k, none⟩ = some (.int .i64 v) ∧ (v < 0 ∨ (q : Int) ≤ v) := fun k hk => by
    match k, hk with
    | 0, _ => exact ⟨-1, hS5.cell 0, by omega⟩
    | 1, _ => exact ⟨q, hS5.cell 1, by omega⟩
    | 2, _ => exact ⟨-9223372036854775808, hS5.cell 2, by omega⟩
    | 3, _ => exact ⟨9223372036854775807, hS5.cell 3, by omega⟩
  have HV : Hid (∀ k : Nat, k < 4 → ∃ v : Int, V5.cell? ⟨sb, k, none⟩ = some (.int .i64 v) ∧ (v < 0 ∨ (q : Int) ≤ v)) := hval
  clear hval hS5 hA hB
  gi_loopw [45] (fun c wr => ∃ k : Nat, k ≤ 4 ∧ c = .int .i64 (k : Int) ∧ wr = V5) (fun c _ => 4 - (intOf c).toNat)
  case atStart => exact ⟨0, by omega, rfl, rfl⟩
  case round =>
    obtain ⟨k, hk, rfl, rfl⟩ := hrel
    by_cases hlt : k < 4
    · obtain ⟨v, hv, hvq⟩ := HV.out k hlt
      have k0 : 0 ≤ (k : Int) := by omega
      have k1 : (k : Int) < 4 := by omega
      gi_wp2_with fail
      refine ⟨trivial, fun h => (by cases h), ?_⟩
      refine (callsIn_wide.2 (put_no t none q _ v _ hvq hA5)).mono ?_
      rintro e w' ⟨rfl, rfl⟩
      gi_wp2_with fail
      refine ⟨trivial, fun h => (by cases h), ?_⟩
      refine (callsIn_wide.2 (has_no t none q _ v _ hvq hA5)).mono ?_
      rintro e w' ⟨rfl, rfl⟩
      gi_wp2_with fail
      refine ⟨trivial, fun h => (by cases h), ?_⟩
      refine (callsIn_wide.2 (drop_no t none q _ v _ hvq hA5)).mono ?_
      rintro e w' ⟨rfl, rfl⟩
      gi_wp2_with fail
      go_roundw
      case rel => exact ⟨k + 1, by omega, by go_num, trivial⟩
      case measure => simp [intOf]; omega
    · obtain rfl : k = 4 := by omega
      gi_wp2_with fail
      refine ⟨trivial, fun h => (by cases h), ?_⟩
      refine (callsIn_wide.2 (all_any t _)).mono ?_
      rintro e w' ⟨rfl, rfl⟩
      have hs5 := hB5.size
      have ho5 : OwnSet wb.heap.size t none := ho
      have hx : (wr.alloc (.cells #[.pointer (some ⟨t, 0, none⟩)] 26)).cell? ⟨wr.heap.size, 0, none⟩ = some (.pointer (some ⟨t, 0, none⟩)) := (Blk.new wr _ _).cell 0
      have hA6 : SetAt (wr.alloc (.cells #[.pointer (some ⟨t, 0, none⟩)] 26)) t none q (fun _ => false) := hA5.turn ((Turn.refl (fun _ => False) wr).alloc _) (fun h => h) (fun _ _ h => h)
      have hB6 := hB5.trans ((Below.refl wb.heap.size wr).alloc hs5 (.cells #[.pointer (some ⟨t, 0, none⟩)] 26))
      have hs6 : (wr.alloc (.cells #[.pointer (some ⟨t, 0, none⟩)] 26)).heap.size = wr.heap.size + 1 := by simp
      have hT6 : TabAt (wr.alloc (.cells #[.pointer (some ⟨t, 0, none⟩)] 26)) := fun j hj => (hB6.cell (p := ⟨0, j, none⟩) hTb.lt).trans (hTb j hj)
      have hR6 : Blk (wr.alloc (.cells #[.pointer (some ⟨t, 0, none⟩)] 26)) w.heap.size #[.bool false] 4 := by unfold Blk; rw [hB6.block _ hR.lt]; exact hR
      generalize wr.alloc (.cells #[.pointer (some ⟨t, 0, none⟩)] 26) = W6 at *
      gi_wp2_with fail
      refine wpIn_rangeFunc_ownF rfl (by omega) (gf := 32) (lb := #[.pointer (some ⟨wr.heap.size, 0, none⟩)]) rfl trivial (enters_of Tryd.func32 (by kernel_rfl) rfl)
        (all_stops (N - 1) t none wr.heap.size q (fun _ => false) W6 hA6 hT6 hx) KpSet.trans (fun W l o o' hl _ _ _ => KpSet.putObj (n0 := W6.heap.size) hA6.lt.1 hA6.lt.2 (by omega) hT6.lt W l o' hl) (Below.refl _ _) (fun _ => rfl)
        (fun _ W => Below W6.heap.size W6 W) (fun _ _ _ => True) (ownFrom_below (Nat.le_refl _) (Nat.le_refl _)) (fun _ _ _ _ _ _ _ _ => trivial) (Below.refl _ _) ?a1 ?assign ?body ?done ?stop
      case assign =>
        intro l0 x W K hK
        gi_wp2
        exact hK
      case body =>
        rintro l0 pre x W hI _
        have hRW : W.cell? ⟨w.heap.size, 0, none⟩ = some (.bool false) := (hI.cell (p := ⟨w.heap.size, 0, none⟩) hR6.lt).trans (hR6.cell 0)
        have hZW : W.frozen? ⟨w.heap.size, 0, none⟩ = false := (hI.frozen (p := ⟨w.heap.size, 0, none⟩) hR6.lt).trans (hR6.free 0)
        gi_wp2
        exact ⟨KeepsOthers.setCell _ _ _, trivial⟩
      case done =>
        rintro D xs W hD _ hI hK
        have hA7 := hA6.below hI hA6.lt.1 hA6.lt.2
        have hB7 := hB6.trans (hI.mono hB6.size)
        gi_wp2_with fail
        refine ⟨trivial, fun h => (by cases h), ?_⟩
        refine (callsIn_wide.2 (count_at t none q _ 0 _ hA7 (by rw [card_none _ (fun _ => rfl)]; rfl))).mono ?_
        intro e w8 hP
        have hSB := same_below hA7 hP.2.1 hP.2.2
        obtain ⟨rfl, hA8, hB8, _⟩ := hP.open ho hB7.size
        replace hB8 := hB7.trans hB8
        have hDl : D < W.heap.size := (Array.getElem?_eq_some_iff.mp hK).1
        have hK8 : w8.heap[D]? = some (.deferred (some [])) := (hSB.block D hDl).trans hK
        have hR8 : w8.cell? ⟨w.heap.size, 0, none⟩ = some (.bool false) := (hB8.cell (p := ⟨w.heap.size, 0, none⟩) hR.lt).trans (hR.cell 0)
        have hZ8 : w8.frozen? ⟨w.heap.size, 0, none⟩ = false := (hB8.frozen (p := ⟨w.heap.size, 0, none⟩) hR.lt).trans (hR.free 0)
        clear hSB hA8 hP
        gi_wp2_with fail
        have hK9 := (KeepsOthers.setCell w8 ⟨w.heap.size, 0, none⟩ (.bool true)).same D _ hK8 rfl
        have hR9 : (w8.setCell ⟨w.heap.size, 0, none⟩ (.bool true)).cell? ⟨w.heap.size, 0, none⟩ = some (.bool true) := World.cell?_setCell_same _ _ _ hR8
        have hBb9 := (hBb.trans (hB8.mono (by omega))).setCell (p := ⟨w.heap.size, 0, none⟩) (Nat.le_refl _) (.bool true)
        generalize w8.setCell ⟨w.heap.size, 0, none⟩ (.bool true) = V at *
        have hDD : w.heap.size < D := by omega
        refine ⟨by simp, .inl ⟨D, _, rfl, run_takeDeferred hK9, ?_⟩⟩
        have hRF : (V.putObj D (.deferred none)).cell? ⟨w.heap.size, 0, none⟩ = some (.bool true) := by
          exact (World.cell?_of_block (w := V) (World.putObj_heap_other (by simp; omega))).trans hR9
        have hBF : Below w.heap.size w (V.putObj D (.deferred none)) :=
          ⟨hBb9.os, hBb9.tape, hBb9.output, by have := hBb9.size; simp; omega, fun k hk => by rw [World.putObj_heap_other (by omega), hBb9.block k hk]⟩
        generalize V.putObj D (.deferred none) = V2 at *
        refine ⟨.bool true, ?_, rfl, hBF⟩
        simp [results, Tryd.f4, go_sem, hRF]
      case stop =>
        rintro D c pre W hD ⟨i, j, hj, _⟩ _ hK
        exact absurd hj.2.1 (by simp)
end Go.Proofs.YtcpmookpjpjgjaaDoor
