/- slices.Repeat of one number, at this seat's numbers. -/
import Derived.Test.YtoemfehlnnbjdaaDoorArA
import Derived.Laws.Bits64b
import Derived.Laws.CopyOwn
import Derived.Laws.OwnMore
import Derived.OwnWalk
import Derived.Deep.RegionHeld3
import Derived.IntWalk
namespace Go.Proofs.YtoemfehlnnbjdaaDoor
open Go Go.RowKit Go.Shelf Go.MuLone Go.RwLone
set_option linter.unusedSimpArgs false
set_option linter.unusedVariables false

theorem maskN (a : Nat) (ha : a < 18446744073709551616) : bits .and .u64 (a : Int) 4294967295 = ((a % 4294967296 : Nat) : Int) := by
  have h := u64_and_nat a 4294967295 ha (by omega)
  have e : a &&& 4294967295 = a % 4294967296 := Nat.and_two_pow_sub_one_eq_mod a 32
  rw [e] at h
  exact h
theorem wrapN (a : Nat) (ha : a < 18446744073709551616) : IntKind.u64.wrap (a : Int) = (a : Int) := by rw [IntKind.wrap_u64]; omega

set_option maxHeartbeats 1000000 in
theorem mul64_one (c : Nat) (hc : c ≤ 64) (w : World) :
    Calls Tryd.prog 94 #[.int .u64 1, .int .u64 (c : Int)] w fun e w' => e = .returned (.tuple #[.int .u64 0, .int .u64 (c : Int)]) ∧ w = w' := by
  have m1 : bits .and .u64 1 4294967295 = 1 := by decide
  have m2 : bits .and .u64 (c : Int) 4294967295 = (c : Int) := by rw [maskN c (by omega), Nat.mod_eq_of_lt (by omega)]
  have m3 : (c : Int) / 4294967296 = 0 := by omega
  have m4 : bits .and .u64 0 4294967295 = 0 := by decide
  have m5 : (0 : Int) ≤ c := by omega
  have m6 : (c : Int) ≤ 64 := by omega
  have m7 := wrapN c (by omega)
  go_enter Tryd.func94, Tryd.ntmps94
  go_wp2
  go_ret2
  exact ⟨rfl, rfl⟩

theorem mul_one (c : Nat) (hc : c ≤ 64) (w : World) :
    Calls Tryd.prog 61 #[.int .u64 1, .int .u64 (c : Int)] w fun e w' => e = .returned (.tuple #[.int .u64 0, .int .u64 (c : Int)]) ∧ w = w' := by
  go_enter Tryd.func61, Tryd.ntmps61
  go_wp2_with fail
  refine (mul64_one c hc _).mono ?_
  rintro e w' ⟨rfl, rfl⟩
  go_wp2_with fail
  go_ret2
  exact ⟨rfl, rfl⟩

theorem infoInt : (Tryd.prog.info? 3).map (fun i => (i.zero, i.size, i.bytes)) = some (some (.int .i64 0), 1, 8) := by kernel_rfl
theorem sizeInt : (Tryd.prog.info? 3).map (·.size) = some 1 := by kernel_rfl
theorem make_ints (n : Nat) (hn : n ≤ 4096) (w : World) : (Instr.makeSlice 68 (.int .i64 (n : Int)) (.int .i64 (n : Int))).run Tryd.prog w = .ok (.slice (some ⟨w.heap.size, 0, none⟩) n n) (w.alloc (.cells (row n fun _ => 0) 3)) := by
  obtain ⟨i0, hi, hz0, hz1, hz2⟩ := info_parts infoInt
  have h := run_make (P := Tryd.prog) w 68 3 i0 (.int .i64 0) Tryd.underlying68 hi hz0 .i64 .i64 (n : Int) (n : Int) (by omega) (Int.le_refl _) (by rw [hz2]; omega) (by omega)
  simp only [Int.toNat_natCast, hz1] at h
  rw [h]
  have e : madeCells (Value.int .i64 0).cells (n * 1) = row n fun _ => 0 := by
    apply Array.ext'
    rw [Nat.mul_one]
    refine (toList_madeCells_one (Value.int .i64 0) n).trans ?_
    rw [← row_const]; simp
  rw [e]

/-- The first n places hold v, the others 0. -/
def fill (v : Int) (n : Nat) : Nat → Int := fun k => if k < n then v else 0
theorem splice_fill (v : Int) (c n m : Nat) (h : n + m ≤ c) : (splice (row c (fill v n)).toList n (List.replicate m (.int .i64 v))).toArray = row c (fill v (n + m)) := by
  apply Array.ext_getElem?
  intro j
  have hl : (row c (fill v n)).toList.length = c := by simp [row]
  simp only [splice, List.length_replicate, List.getElem?_toArray]
  by_cases h1 : j < n
  · rw [List.getElem?_append_left (by rw [List.length_take, hl]; omega), List.getElem?_take_of_lt h1, Array.getElem?_toList, row_get _ (by omega), row_get _ (by omega)]
    simp [fill, h1, show j < n + m by omega]
  · rw [List.getElem?_append_right (by rw [List.length_take, hl]; omega), List.length_take, hl, Nat.min_eq_left (by omega)]
    by_cases h2 : j < n + m
    · rw [List.getElem?_append_left (by simp; omega), List.getElem?_replicate, if_pos (by omega), row_get _ (by omega)]
      simp [fill, h2]
    · rw [List.getElem?_append_right (by simp; omega), List.length_replicate, List.getElem?_drop, Array.getElem?_toList, show n + m + (j - n - m) = j by omega]
      by_cases h3 : j < c
      · rw [row_get _ h3, row_get _ h3]; simp [fill, h1, h2]
      · rw [Array.getElem?_eq_none (by rw [row_size]; omega), Array.getElem?_eq_none (by rw [row_size]; omega)]

theorem natMin (a b : Nat) : Nat.min a b ≤ a ∧ Nat.min a b ≤ b ∧ (Nat.min a b = a ∨ Nat.min a b = b) := by
  show min a b ≤ a ∧ min a b ≤ b ∧ (min a b = a ∨ min a b = b); omega
/-- Some of a row copied into itself, or into another one. -/
theorem copy_fill {w : World} {g : Nat} {v : Int} {c n m : Nat} (hg : Blk w g (row c (fill v n)) 3) (sb sLen sCap dLen dCap : Nat) (hm : m = Nat.min sLen dLen) (hsrc : ∀ j, j < m → w.cell? ⟨sb, j, none⟩ = some (.int .i64 v)) (hfit : n + m ≤ c) (ty : TypeId) :
    (Builtin.copy_ #[68, 68] ty #[.slice (some ⟨g, n, none⟩) dLen dCap, .slice (some ⟨sb, 0, none⟩) sLen sCap]).run Tryd.prog w = .ok (.int .i64 (m : Int)) (w.setRow g (row c (fill v (n + m)))) := by
  have h := run_copy_row (P := Tryd.prog) w 68 68 ty 3 g n dLen dCap ⟨sb, 0, none⟩ sLen sCap (row c (fill v n)) 3 (List.replicate m (.int .i64 v)) Tryd.underlying68 sizeInt hg (by simpa using hm) (fun j u hj => by
    rw [List.getElem?_replicate] at hj
    by_cases h : j < m
    · rw [if_pos h] at hj
      cases hj
      have := hsrc j h
      show w.cell? ((⟨sb, 0, none⟩ : Addr).add j) = _
      unfold Addr.add
      split
      · rename_i h0; subst h0; exact this
      · simpa using this
    · rw [if_neg h] at hj; cases hj) (by simp [row]; omega) (by intro u hu; rw [List.eq_of_mem_replicate hu]; rfl)
  rw [h]
  have e := splice_fill v c n m hfit
  unfold splice at e
  rw [List.append_assoc, e]
  simp [goInt]
theorem blk_setRow {w : World} {g : Nat} {cs cs' : Array Value} {T : TypeId} (h : Blk w g cs T) : Blk (w.setRow g cs') g cs' T := setRow_heap w g cs cs' T (0, 0) h

set_option maxRecDepth 100000 in
set_option maxHeartbeats 4000000 in
/-- Repeat, of one number. -/
theorem repeat_any (xb : Nat) (v : Int) (c : Nat) (hc : c ≤ 64) (w : World) (hx : Blk w xb #[.int .i64 v] 3) :
    Calls Tryd.prog 37 #[.slice (some ⟨xb, 0, none⟩) 1 1, .int .i64 (c : Int)] w fun e w' => ∃ g, e = .returned (.slice (some ⟨g, 0, none⟩) c c) ∧ w.heap.size ≤ g ∧ Blk w' g (row c fun _ => v) 3 ∧ Below w.heap.size w w' := by
  have m5 : (0 : Int) ≤ c := by omega
  have m6 : (c : Int) ≤ 64 := by omega
  have e0 : (fun _ : Nat => (0 : Int)) = fill v 0 := by funext k; simp [fill]
  have hmk := make_ints c (by omega)
  rw [e0] at hmk
  clear e0
  have hxl := hx.lt
  have hg : Blk (w.alloc (.cells (row c (fill v 0)) 3)) w.heap.size (row c (fill v 0)) 3 := Blk.new w _ _
  have hBl := (Below.refl w.heap.size w).alloc (Nat.le_refl _) (.cells (row c (fill v 0)) 3)
  have hcp := fun ty => copy_fill (m := Nat.min 1 c) hg xb 1 1 c c rfl (fun j hj => by
    have h0 : j = 0 := by have := natMin 1 c; omega
    subst h0
    exact (hx.alloc _).cell 0) (by have := natMin 1 c; omega) ty
  rw [Nat.zero_add] at hcp
  replace hg := blk_setRow (cs' := row c (fill v (Nat.min 1 c))) hg
  replace hBl := hBl.trans (below_setRow (Below.refl w.heap.size _) (Nat.le_refl _) (row c (fill v (Nat.min 1 c))))
  have HM : Hid (Nat.min 1 c = if c = 0 then 0 else 1) := Lib.hid (by have := natMin 1 c; split <;> omega)
  have m7 : Nat.min 1 c ≤ c := (natMin 1 c).2.1
  generalize Nat.min 1 c = n0 at *
  go_enter Tryd.func37, Tryd.ntmps37
  go_wp2_with fail
  refine (mul_one c hc _).mono ?_
  rintro e w' ⟨rfl, rfl⟩
  go_wp2_with fail
  clear hcp hmk
  generalize (w.alloc (.cells (row c (fill v 0)) 3)).setRow w.heap.size (row c (fill v n0)) = W2 at *
  go_loopw [8] (fun v8 wr => ∃ n : Nat, n ≤ c ∧ (n = 0 → c = 0) ∧ v8 = .int .i64 (n : Int) ∧ Blk wr w.heap.size (row c (fill v n)) 3 ∧ Below w.heap.size w wr) (fun v8 _ => c - (intOf v8).toNat)
  case atStart => exact ⟨n0, m7, fun e => by have := HM.out; rw [e] at this; split at this <;> omega, rfl, hg, hBl⟩
  case round =>
    clear hg hBl HM m7
    obtain ⟨n, hn, hn0, rfl, hg, hBl⟩ := hrel
    by_cases hlt : n < c
    · have hm1 : 1 ≤ n := by omega
      obtain ⟨m, hm⟩ : ∃ m, m = Nat.min n (c - n) := ⟨_, rfl⟩
      have hmn := natMin n (c - n)
      rw [← hm] at hmn
      have hm2 : n + m ≤ c := by omega
      have hm3 : 1 ≤ m := by omega
      have hcp := fun ty => copy_fill (w := wr.drew) (m := m) hg w.heap.size n c (c - n) (c - n) hm (fun j hj => by
        have hj2 : j < n := by omega
        refine (cell_row hg (by omega)).trans ?_
        simp [fill, hj2]) hm2 ty
      have hg2 := blk_setRow (w := wr.drew) (cs' := row c (fill v (n + m))) hg
      have hB2 := hBl.drew.trans (below_setRow (Below.refl w.heap.size wr.drew) (Nat.le_refl _) (row c (fill v (n + m))))
      clear hm hn0 hg hBl
      have n5 : (m : Int) ≤ 64 := by omega
      clear hmn
      have n1 : (n : Int) < (c : Int) := by omega
      have n2 : ¬ c = n := by omega
      have n3 : ¬ c = 0 := by omega
      have n4 : ¬ c ≤ n := by omega
      have n6 : ¬ c - n = 0 := by omega
      have n7 : IntKind.i64.wrap ((n : Int) + (m : Int)) = (n : Int) + (m : Int) := IntWalk.i64_in _ (by omega)
      go_wp2_with fail
      go_region_held3 (fun w' => True) (first | trivial)
        (first | fail)
      clear n7
      go_wp2_with fail
      go_roundw
      case rel => exact ⟨n + m, hm2, by omega, by go_num, hg2, hB2⟩
      case measure => simp [intOf]; omega
    · obtain rfl : n = c := by omega
      go_wp2_with fail
      go_ret
      refine ⟨w.heap.size, rfl, Nat.le_refl _, ?_, hBl⟩
      rw [row_congr (g := fill v n) (fun k hk => by simp [fill, hk])]
      exact hg
end Go.Proofs.YtoemfehlnnbjdaaDoor
