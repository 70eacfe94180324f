/- ConfigEdges, walked; at this seat's numbers. -/
import Derived.Test.YtaoankajpknncaaDoorCfV
namespace Go.Proofs.YtaoankajpknncaaDoor
open Go Go.RowKit
set_option linter.unusedSimpArgs false
set_option linter.unusedVariables false
attribute [local go_sem] Oper.semAt_some

def edgeX (k : Nat) (off : Int) : Nat → Int
  | 0 => lowB k
  | 1 => highB k
  | 2 => lowB k - 1
  | 3 => highB k + 1
  | 4 => lowB k + off
  | _ => highB k + off

set_option maxRecDepth 100000 in
set_option maxHeartbeats 8000000 in
theorem edges_true (a0 a1 a2 a3 a4 a5 : Nat) (hl : a0 ≤ 255 ∧ a1 ≤ 255 ∧ a2 ≤ 255 ∧ a3 ≤ 255 ∧ a4 ≤ 255 ∧ a5 ≤ 255) (which : Int) (_ : (Lit.int .i64 which).wf = true) (off : Int) (hoff : (Lit.int .i8 off).wf = true) (w : World) (hT : NamesAt w) :
    Calls Tryd.prog 4 #[.agg #[.int .u8 (a0 : Int), .int .u8 (a1 : Int), .int .u8 (a2 : Int), .int .u8 (a3 : Int), .int .u8 (a4 : Int), .int .u8 (a5 : Int)], .int .i64 which, .int .i8 off] w fun e w' => e = .returned (.bool true) ∧ Below w.heap.size w w' := by
  obtain ⟨r, hr, hre⟩ := i64_and_mask which 255 (by decide)
  replace hre : bits .and .i64 which 255 = (r : Int) := hre
  have hob := bounds_i8 hoff
  clear hoff
  obtain ⟨k, hk, hkr⟩ : ∃ k : Nat, k < 10 ∧ (r : Int) % 10 = (k : Int) := ⟨r % 10, by omega, by omega⟩
  have hB := (Below.refl w.heap.size w).alloc (Nat.le_refl _) (.cells #[.int .u8 (a0 : Int), .int .u8 (a1 : Int), .int .u8 (a2 : Int), .int .u8 (a3 : Int), .int .u8 (a4 : Int), .int .u8 (a5 : Int)] 24)
  have hl6 := Blk.new w #[.int .u8 (a0 : Int), .int .u8 (a1 : Int), .int .u8 (a2 : Int), .int .u8 (a3 : Int), .int .u8 (a4 : Int), .int .u8 (a5 : Int)] 24
  have c0 := cfit_true (w.alloc (.cells #[.int .u8 (a0 : Int), .int .u8 (a1 : Int), .int .u8 (a2 : Int), .int .u8 (a3 : Int), .int .u8 (a4 : Int), .int .u8 (a5 : Int)] 24)) (hT.below hB)
  have HH := Lib.hid (And.intro hB hl6)
  have HK := Lib.hid hkr
  clear hB hl6 hT hkr
  go_enter Tryd.func4, Tryd.ntmps4
  go_wp2_with fail
  refine c0.mono ?_
  rintro e1 w1 ⟨rfl, hB1⟩
  obtain ⟨hB, hl6⟩ := HH.out
  have hB1' := Below.on hB (Nat.le_refl _) hB1
  have hl1 := hl6.turn (Turn.ofBelow hB1) (fun h => absurd hl6.lt (Nat.not_lt.2 h))
  clear HH c0 hB hl6 hB1
  have g0 := hl1.cell 0
  have g1 := hl1.cell 1
  have g2 := hl1.cell 2
  have g3 := hl1.cell 3
  have g4 := hl1.cell 4
  have g5 := hl1.cell 5
  simp only [List.getElem?_toArray, List.getElem?_cons_succ, List.getElem?_cons_zero] at g0 g1 g2 g3 g4 g5
  have cA := made_any a0 a1 a2 a3 a4 a5 hl w1
  have HH := Lib.hid (And.intro hB1' hl1)
  clear hB1' hl1
  go_wp2_with fail
  refine cA.mono ?_
  rintro e1 w2 ⟨m0, rfl, hm0, hB2⟩
  obtain ⟨hB, hl6⟩ := HH.out
  have hB2' := Below.on hB (Nat.le_refl _) hB2
  clear HH cA hB hl6 hB2 g0 g1 g2 g3 g4 g5
  have hall := (m0.may_nums.1 hm0).1
  clear hm0
  obtain ⟨m, hm, hmk⟩ : ∃ m : Cfg, m = { m0 with k := true } ∧ m.k = true := ⟨_, rfl, rfl⟩
  have hall2 : ∀ j, j < 10 → inB (m.num j) (lowB j) (highB j) = true := fun j hj => by
    have h := hall j hj
    subst hm
    match j, hj with
    | 0, _ | 1, _ | 2, _ | 3, _ | 4, _ | 5, _ | 6, _ | 7, _ | 8, _ | 9, _ => exact h
  have hbm : Blk (((w2.alloc (.cells #[.int .i64 m0.e, .bool true, .int .i64 m0.p, .int .i64 m0.t, .int .i64 m0.r, .int .i64 m0.s, .int .i64 m0.g, .int .i64 m0.f, .int .i64 m0.m, .int .i64 m0.l, .int .i64 m0.b] 23)).alloc (.cells #[.int .i64 0, .int .i64 1, .int .i64 1, .int .i64 1, .int .i64 0, .int .i64 0, .int .i64 0, .int .i64 1, .int .i64 0, .int .i64 1] 32)).alloc (.cells #[.int .i64 3, .int .i64 64, .int .i64 4, .int .i64 8, .int .i64 8, .int .i64 4, .int .i64 6, .int .i64 64, .int .i64 64, .int .i64 16] 32)) w2.heap.size m.arr 23 := by
    subst hm
    exact ((Blk.new w2 _ 23).alloc _).alloc _
  have hbl : Blk (((w2.alloc (.cells #[.int .i64 m0.e, .bool true, .int .i64 m0.p, .int .i64 m0.t, .int .i64 m0.r, .int .i64 m0.s, .int .i64 m0.g, .int .i64 m0.f, .int .i64 m0.m, .int .i64 m0.l, .int .i64 m0.b] 23)).alloc (.cells #[.int .i64 0, .int .i64 1, .int .i64 1, .int .i64 1, .int .i64 0, .int .i64 0, .int .i64 0, .int .i64 1, .int .i64 0, .int .i64 1] 32)).alloc (.cells #[.int .i64 3, .int .i64 64, .int .i64 4, .int .i64 8, .int .i64 8, .int .i64 4, .int .i64 6, .int .i64 64, .int .i64 64, .int .i64 16] 32)) (w2.heap.size + 1) lowCells 32 := by
    have := (Blk.new (w2.alloc (.cells #[.int .i64 m0.e, .bool true, .int .i64 m0.p, .int .i64 m0.t, .int .i64 m0.r, .int .i64 m0.s, .int .i64 m0.g, .int .i64 m0.f, .int .i64 m0.m, .int .i64 m0.l, .int .i64 m0.b] 23)) lowCells 32).alloc (.cells #[.int .i64 3, .int .i64 64, .int .i64 4, .int .i64 8, .int .i64 8, .int .i64 4, .int .i64 6, .int .i64 64, .int .i64 64, .int .i64 16] 32)
    rw [World.size_alloc] at this
    exact this
  have hbh : Blk (((w2.alloc (.cells #[.int .i64 m0.e, .bool true, .int .i64 m0.p, .int .i64 m0.t, .int .i64 m0.r, .int .i64 m0.s, .int .i64 m0.g, .int .i64 m0.f, .int .i64 m0.m, .int .i64 m0.l, .int .i64 m0.b] 23)).alloc (.cells #[.int .i64 0, .int .i64 1, .int .i64 1, .int .i64 1, .int .i64 0, .int .i64 0, .int .i64 0, .int .i64 1, .int .i64 0, .int .i64 1] 32)).alloc (.cells #[.int .i64 3, .int .i64 64, .int .i64 4, .int .i64 8, .int .i64 8, .int .i64 4, .int .i64 6, .int .i64 64, .int .i64 64, .int .i64 16] 32)) (w2.heap.size + 1 + 1) highCells 32 := by
    have := Blk.new ((w2.alloc (.cells #[.int .i64 m0.e, .bool true, .int .i64 m0.p, .int .i64 m0.t, .int .i64 m0.r, .int .i64 m0.s, .int .i64 m0.g, .int .i64 m0.f, .int .i64 m0.m, .int .i64 m0.l, .int .i64 m0.b] 23)).alloc (.cells #[.int .i64 0, .int .i64 1, .int .i64 1, .int .i64 1, .int .i64 0, .int .i64 0, .int .i64 0, .int .i64 1, .int .i64 0, .int .i64 1] 32)) highCells 32
    rw [World.size_alloc, World.size_alloc] at this
    exact this
  have hB3 : Below w.heap.size w (((w2.alloc (.cells #[.int .i64 m0.e, .bool true, .int .i64 m0.p, .int .i64 m0.t, .int .i64 m0.r, .int .i64 m0.s, .int .i64 m0.g, .int .i64 m0.f, .int .i64 m0.m, .int .i64 m0.l, .int .i64 m0.b] 23)).alloc (.cells #[.int .i64 0, .int .i64 1, .int .i64 1, .int .i64 1, .int .i64 0, .int .i64 0, .int .i64 0, .int .i64 1, .int .i64 0, .int .i64 1] 32)).alloc (.cells #[.int .i64 3, .int .i64 64, .int .i64 4, .int .i64 8, .int .i64 8, .int .i64 4, .int .i64 6, .int .i64 64, .int .i64 64, .int .i64 16] 32)) := ((hB2'.alloc hB2'.size _).alloc (by have := hB2'.size; simp; omega) _).alloc (by have := hB2'.size; simp; omega) _
  have hmay := m.put_may hall2 hmk k hk
  have hsz := hB2'.size
  have HH := Lib.hid (And.intro hbm (And.intro hbl (And.intro hbh (And.intro hB3 (And.intro hmay hsz)))))
  clear hall hall2 hm hmk hbm hbl hbh hB3 hB2' hmay hsz
  have hkr := HK.out
  clear HK
  have hkI : (k : Int) < 10 := by omega
  have hk0 : (0 : Int) ≤ (k : Int) := by omega
  have hix := index_ptrs w2.heap.size k hk
  obtain ⟨hb0, hb1, hb2, hb3⟩ := bounds_le k
  have hr0 : (0 : Int) ≤ (r : Int) := by omega
  go_wp2_with fail
  rw [hkr]
  obtain ⟨hbm, hbl, hbh, hB3, hmay, hsz⟩ := HH.out
  clear HH hix hkr hre hr hr0
  have hd := Blk.cell hbl k
  have hu := Blk.cell hbh k
  rw [low_at k hk] at hd
  rw [high_at k hk] at hu
  have hsV : w2.heap.size + 2 < (((w2.alloc (.cells #[.int .i64 m0.e, .bool true, .int .i64 m0.p, .int .i64 m0.t, .int .i64 m0.r, .int .i64 m0.s, .int .i64 m0.g, .int .i64 m0.f, .int .i64 m0.m, .int .i64 m0.l, .int .i64 m0.b] 23)).alloc (.cells #[.int .i64 0, .int .i64 1, .int .i64 1, .int .i64 1, .int .i64 0, .int .i64 0, .int .i64 0, .int .i64 1, .int .i64 0, .int .i64 1] 32)).alloc (.cells #[.int .i64 3, .int .i64 64, .int .i64 4, .int .i64 8, .int .i64 8, .int .i64 4, .int .i64 6, .int .i64 64, .int .i64 64, .int .i64 16] 32)).heap.size := by simp
  generalize (((w2.alloc (.cells #[.int .i64 m0.e, .bool true, .int .i64 m0.p, .int .i64 m0.t, .int .i64 m0.r, .int .i64 m0.s, .int .i64 m0.g, .int .i64 m0.f, .int .i64 m0.m, .int .i64 m0.l, .int .i64 m0.b] 23)).alloc (.cells #[.int .i64 0, .int .i64 1, .int .i64 1, .int .i64 1, .int .i64 0, .int .i64 0, .int .i64 0, .int .i64 1, .int .i64 0, .int .i64 1] 32)).alloc (.cells #[.int .i64 3, .int .i64 64, .int .i64 4, .int .i64 8, .int .i64 8, .int .i64 4, .int .i64 6, .int .i64 64, .int .i64 64, .int .i64 16] 32)) = V at *
  generalize w2.heap.size = bc at *
  have hX : ∀ i, i < 6 → edgeX k off i = #[lowB k, highB k, lowB k - 1, highB k + 1, lowB k + off, highB k + off][i]! := fun i hi => by
    match i, hi with
    | 0, _ | 1, _ | 2, _ | 3, _ | 4, _ | 5, _ => rfl
  have HX := Lib.hid (And.intro hX (And.intro hbm (And.intro hbl (And.intro hbh (And.intro hB3 (And.intro hmay hsz))))))
  clear hX hbm hbl hbh hB3 hmay hsz
  generalize hlo : lowB k = lo at *
  generalize hhi : highB k = hi at *
  go_region
  generalize Value.agg #[.int .u8 (a0 : Int), .int .u8 (a1 : Int), .int .u8 (a2 : Int), .int .u8 (a3 : Int), .int .u8 (a4 : Int), .int .u8 (a5 : Int)] = q0
  generalize m0.val = q1
  generalize Value.agg #[.int .i64 0, .int .i64 1, .int .i64 1, .int .i64 1, .int .i64 0, .int .i64 0, .int .i64 0, .int .i64 1, .int .i64 0, .int .i64 1] = q2
  generalize Value.agg #[.int .i64 3, .int .i64 64, .int .i64 4, .int .i64 8, .int .i64 8, .int .i64 4, .int .i64 6, .int .i64 64, .int .i64 64, .int .i64 16] = q3
  generalize Value.agg #[.pointer (some ⟨bc, 0, none⟩), .pointer (some ⟨bc, 2, none⟩), .pointer (some ⟨bc, 3, none⟩), .pointer (some ⟨bc, 4, none⟩), .pointer (some ⟨bc, 5, none⟩), .pointer (some ⟨bc, 6, none⟩), .pointer (some ⟨bc, 7, none⟩), .pointer (some ⟨bc, 8, none⟩), .pointer (some ⟨bc, 9, none⟩), .pointer (some ⟨bc, 10, none⟩)] = q4
  obtain ⟨hX, hbm, hbl, hbh, hB3, hmay, hsz⟩ := HX.out
  clear HX hd hu hX
  have hI0 : EdI w m k bc (bc + 1) (bc + 1 + 1) V.heap.size #[.int .i64 lo, .int .i64 hi, .int .i64 (lo - 1), .int .i64 (hi + 1), .int .i64 (lo + off), .int .i64 (hi + off)] (V.alloc (.cells #[.int .i64 lo, .int .i64 hi, .int .i64 (lo - 1), .int .i64 (hi + 1), .int .i64 (lo + off), .int .i64 (hi + off)] 3)).drew :=
    ⟨⟨_, by rw [m.put_self k hk]; exact (hbm.alloc _).drew⟩, (hbl.alloc _).drew, (hbh.alloc _).drew, (Blk.new V _ _).drew, (hB3.alloc hB3.size _).drew⟩
  have hbs : bc + 2 < V.heap.size := by omega
  clear hbm hbl hbh hB3 hsV
  generalize V.heap.size = bs at *
  generalize (V.alloc (.cells #[.int .i64 lo, .int .i64 hi, .int .i64 (lo - 1), .int .i64 (hi + 1), .int .i64 (lo + off), .int .i64 (hi + off)] 3)).drew = V1 at *
  obtain ⟨xs, hxs⟩ : ∃ xs : Array Value, xs = #[.int .i64 lo, .int .i64 hi, .int .i64 (lo - 1), .int .i64 (hi + 1), .int .i64 (lo + off), .int .i64 (hi + off)] := ⟨_, rfl⟩
  rw [← hxs] at hI0
  have hxi : ∀ n, n < 6 → ∃ x : Int, xs[n]? = some (.int .i64 x) := fun n hn => by
    subst hxs
    match n, hn with
    | 0, _ | 1, _ | 2, _ | 3, _ | 4, _ | 5, _ => exact ⟨_, rfl⟩
  have HA := Lib.hid (And.intro hlo (And.intro hhi (And.intro hmay (And.intro hsz (And.intro hxi hI0)))))
  clear hxs hxi hmay hlo hhi hsz hI0
  go_wp2_with fail
  obtain ⟨hlo, hhi, hmay, hsz, hxi, hI0⟩ := HA.out
  refine edge_loop w m k bc bs hk lo hi hlo hhi hmay xs hsz hbs hxi _ _ _ _ _ _ _ _ _ _ _ _ _ _ _ _ _ _ _ _ _ _ _ _ _ _ _ _ _ _ _ _ _ _ _ _ _ _ _ _ _ _ _ _ _ _ _ _ _ _ _ _ _ _ _ _ _ _ _ _ _ _ _ _ _ _ _ _ _ _ _ _ _ _ _ _ _ _ _ _ _ V1 hI0 _ ?_
  clear HA hlo hhi hmay hsz hxi hI0 hbs
  intro w6 hB6 z65 z13 z66 z67 z68 z69 z70 z71 z72 z73 z74 z75 z76 z77 z78 z79 z80 z81 z82 z83 z84 z85 z86 z87 z88
  have HB := Lib.hid hB6
  clear hB6
  go_wp2_with fail
  go_ret
  exact ⟨rfl, HB.out⟩
end Go.Proofs.YtaoankajpknncaaDoor
