/- ConfigEdges: the drawn region of a round, by itself; at this seat's numbers. -/
import Derived.Test.YtaoankajpknncaaDoorCfP
import Derived.Deep.RegionHeld3
namespace Go.Proofs.YtaoankajpknncaaDoor
open Go Go.RowKit
set_option linter.unusedSimpArgs false
set_option linter.unusedVariables false
attribute [local go_sem] Oper.semAt_some

set_option maxRecDepth 100000 in
set_option maxHeartbeats 8000000 in
theorem edge_under (bc k : Nat) (hk : (k : Int) < 10) (hk0 : (0 : Int) ≤ (k : Int)) (x lo hi : Int) (h1 : ¬ lo ≤ x) (c1 : Cfg) (s0 s1 s2 s3 s4 s5 s6 s11 s12 s14 s15 s16 s17 s18 s19 s20 s21 s22 s23 s24 s25 s26 s27 s28 s29 s30 s31 s32 s33 s34 s35 s36 s37 s38 s39 s40 s41 s42 s43 s44 s45 s46 s47 s48 s49 s50 s51 s52 s53 s54 s55 s56 s57 s58 s59 s60 s61 s62 s63 s64 s65 s66 s67 s68 s69 s70 s71 s72 s73 s74 s75 s76 s77 s78 s79 s80 s81 s82 s83 s84 s85 s86 s87 s88 : Value) (W : World)
    (hst : W.drew.cell? ⟨bc, 0, none⟩ = some (.int .i64 c1.e) ∧ W.drew.cell? ⟨bc, 1, none⟩ = some (.bool c1.k) ∧ W.drew.cell? ⟨bc, 2, none⟩ = some (.int .i64 c1.p) ∧ W.drew.cell? ⟨bc, 3, none⟩ = some (.int .i64 c1.t) ∧ W.drew.cell? ⟨bc, 4, none⟩ = some (.int .i64 c1.r) ∧ W.drew.cell? ⟨bc, 5, none⟩ = some (.int .i64 c1.s) ∧ W.drew.cell? ⟨bc, 6, none⟩ = some (.int .i64 c1.g) ∧ W.drew.cell? ⟨bc, 7, none⟩ = some (.int .i64 c1.f) ∧ W.drew.cell? ⟨bc, 8, none⟩ = some (.int .i64 c1.m) ∧ W.drew.cell? ⟨bc, 9, none⟩ = some (.int .i64 c1.l) ∧ W.drew.cell? ⟨bc, 10, none⟩ = some (.int .i64 c1.b) ∧ W.drew.cell? ⟨bc + 1, k, none⟩ = some (.int .i64 lo) ∧ W.drew.cell? ⟨bc + 1 + 1, k, none⟩ = some (.int .i64 hi))
    (hkeep : ∀ w6, Below W.drew.heap.size W.drew w6 → (w6.cell? ⟨bc, 0, none⟩ = some (.int .i64 c1.e) ∧ w6.cell? ⟨bc, 1, none⟩ = some (.bool c1.k) ∧ w6.cell? ⟨bc, 2, none⟩ = some (.int .i64 c1.p) ∧ w6.cell? ⟨bc, 3, none⟩ = some (.int .i64 c1.t) ∧ w6.cell? ⟨bc, 4, none⟩ = some (.int .i64 c1.r) ∧ w6.cell? ⟨bc, 5, none⟩ = some (.int .i64 c1.s) ∧ w6.cell? ⟨bc, 6, none⟩ = some (.int .i64 c1.g) ∧ w6.cell? ⟨bc, 7, none⟩ = some (.int .i64 c1.f) ∧ w6.cell? ⟨bc, 8, none⟩ = some (.int .i64 c1.m) ∧ w6.cell? ⟨bc, 9, none⟩ = some (.int .i64 c1.l) ∧ w6.cell? ⟨bc, 10, none⟩ = some (.int .i64 c1.b) ∧ w6.cell? ⟨bc + 1, k, none⟩ = some (.int .i64 lo) ∧ w6.cell? ⟨bc + 1 + 1, k, none⟩ = some (.int .i64 hi)))
    (cK : Calls Tryd.prog 10 #[c1.val] W.drew fun e w' => e = .returned (.int .i64 11) ∧ Below W.drew.heap.size W.drew w')
    (Q : Exit → Act → World → Prop)
    (hpost : ∀ w6, Below W.drew.heap.size W.drew w6 → ∀ u72 u73 u74 u75 u76 u77 u78 u79 u80 u81 u82 u83 u84 u85 u86 : Value, Q .normal ⟨#[s0, s1, s2, s3, s4, s5, s6, .pointer (some ⟨bc, 0, none⟩), .pointer (some ⟨bc + 1, 0, none⟩), .pointer (some ⟨bc + 1 + 1, 0, none⟩), .int .i64 (k : Int), s11, s12, .int .i64 x, s14, s15, s16, s17, s18, s19, s20, s21, s22, s23, s24, s25, s26, s27, s28, s29, s30, s31, s32, s33, s34, s35, s36, s37, s38, s39, s40, s41, s42, s43, s44, s45, s46, s47, s48, s49, s50, s51, s52, s53, s54, s55, s56, s57, s58, s59, s60, s61, s62, s63, s64, s65, s66, s67, s68, s69, s70, s71, u72, u73, u74, u75, u76, u77, u78, u79, u80, u81, u82, u83, u84, u85, u86, .bool false, s88], []⟩ w6) :
    Code.wp Tryd.prog (Code.region 13 #[{ dst := some 72, op := Op.load 23 (Operand.tmp 7), type := 23, pos := "law.go:53", after := #[], guard := none },
      { dst := some 73, op := Op.call { callee := Callee.value (Operand.func 10), args := #[Operand.tmp 72], argTypes := #[23] }, type := 26, pos := "law.go:53", after := #[{ on := 0, ground := Ground.data }], guard := none },
      { dst := some 74, op := Op.binOp BinOp.eql 26 (Operand.tmp 73) (Operand.const (Value.int IntKind.i64 0)) 26, type := 4, pos := "law.go:53", after := #[{ on := 1, ground := Ground.data }], guard := none },
      { dst := some 75, op := Op.move (Operand.tmp 13), type := 3, pos := "law.go:53", after := #[], guard := none },
      { dst := some 76, op := Op.move (Operand.tmp 10), type := 3, pos := "law.go:53", after := #[], guard := none },
      { dst := some 77, op := Op.indexAddr 32 (Operand.tmp 8) (Operand.tmp 76), type := 0, pos := "law.go:53", after := #[{ on := 4, ground := Ground.data }], guard := none },
      { dst := some 78, op := Op.load 3 (Operand.tmp 77), type := 3, pos := "law.go:53", after := #[{ on := 5, ground := Ground.data }], guard := none },
      { dst := some 79, op := Op.binOp BinOp.geq 3 (Operand.tmp 75) (Operand.tmp 78) 3, type := 4, pos := "law.go:53", after := #[{ on := 3, ground := Ground.data }, { on := 6, ground := Ground.data }], guard := none },
      { dst := some 80, op := Op.move (Operand.tmp 79), type := 4, pos := "law.go:53", after := #[{ on := 7, ground := Ground.data }, { on := 1, ground := Ground.chain }], guard := none },
      { dst := some 81, op := Op.move (Operand.tmp 13), type := 3, pos := "law.go:53", after := #[{ on := 8, ground := Ground.guard }], guard := some (8, true) },
      { dst := some 82, op := Op.move (Operand.tmp 10), type := 3, pos := "law.go:53", after := #[{ on := 8, ground := Ground.guard }], guard := some (8, true) },
      { dst := some 83, op := Op.indexAddr 32 (Operand.tmp 9) (Operand.tmp 82), type := 0, pos := "law.go:53", after := #[{ on := 10, ground := Ground.data }, { on := 8, ground := Ground.guard }], guard := some (8, true) },
      { dst := some 84, op := Op.load 3 (Operand.tmp 83), type := 3, pos := "law.go:53", after := #[{ on := 11, ground := Ground.data }, { on := 8, ground := Ground.guard }], guard := some (8, true) },
      { dst := some 85, op := Op.binOp BinOp.leq 3 (Operand.tmp 81) (Operand.tmp 84) 3, type := 4, pos := "law.go:53", after := #[{ on := 9, ground := Ground.data }, { on := 12, ground := Ground.data }, { on := 8, ground := Ground.guard }], guard := some (8, true) },
      { dst := some 86, op := Op.pick (Operand.tmp 80) (Operand.tmp 85) (Operand.const (Value.bool false)), type := 4, pos := "law.go:53", after := #[{ on := 8, ground := Ground.data }, { on := 13, ground := Ground.data }], guard := none },
      { dst := some 87, op := Op.binOp BinOp.neq 4 (Operand.tmp 74) (Operand.tmp 86) 4, type := 4, pos := "law.go:53", after := #[{ on := 2, ground := Ground.data }, { on := 14, ground := Ground.data }], guard := none }] true) Q ⟨#[s0, s1, s2, s3, s4, s5, s6, .pointer (some ⟨bc, 0, none⟩), .pointer (some ⟨bc + 1, 0, none⟩), .pointer (some ⟨bc + 1 + 1, 0, none⟩), .int .i64 (k : Int), s11, s12, .int .i64 x, s14, s15, s16, s17, s18, s19, s20, s21, s22, s23, s24, s25, s26, s27, s28, s29, s30, s31, s32, s33, s34, s35, s36, s37, s38, s39, s40, s41, s42, s43, s44, s45, s46, s47, s48, s49, s50, s51, s52, s53, s54, s55, s56, s57, s58, s59, s60, s61, s62, s63, s64, s65, s66, s67, s68, s69, s70, s71, s72, s73, s74, s75, s76, s77, s78, s79, s80, s81, s82, s83, s84, s85, s86, s87, s88], []⟩ W := by
  have hge : (decide (lo ≤ x)) = false := by simpa using h1
  refine wp_region_noPanic ?_
  refine wp_region_held_drew (S := (fun W' => W'.cell? ⟨bc, 0, none⟩ = some (.int .i64 c1.e) ∧ W'.cell? ⟨bc, 1, none⟩ = some (.bool c1.k) ∧ W'.cell? ⟨bc, 2, none⟩ = some (.int .i64 c1.p) ∧ W'.cell? ⟨bc, 3, none⟩ = some (.int .i64 c1.t) ∧ W'.cell? ⟨bc, 4, none⟩ = some (.int .i64 c1.r) ∧ W'.cell? ⟨bc, 5, none⟩ = some (.int .i64 c1.s) ∧ W'.cell? ⟨bc, 6, none⟩ = some (.int .i64 c1.g) ∧ W'.cell? ⟨bc, 7, none⟩ = some (.int .i64 c1.f) ∧ W'.cell? ⟨bc, 8, none⟩ = some (.int .i64 c1.m) ∧ W'.cell? ⟨bc, 9, none⟩ = some (.int .i64 c1.l) ∧ W'.cell? ⟨bc, 10, none⟩ = some (.int .i64 c1.b) ∧ W'.cell? ⟨bc + 1, k, none⟩ = some (.int .i64 lo) ∧ W'.cell? ⟨bc + 1 + 1, k, none⟩ = some (.int .i64 hi))) (by kernel_rfl) (hst) (fun hHeld => ?_)
  refine wpAnyH_take (i := 0) (v := ?vU0) rfl (by kernel_rfl) (by kernel_rfl) (by kernel_rfl) (fun _ _ _ h => h) (Or.inl ⟨by rfl, ?hyU0⟩) (by assumption) ?restU0
  case hyU0 => (intro w hSw; (try dsimp only at hSw); go_simp; try with_reducible rfl)
  try simp only [Act.put, List.getElem_toArray, List.getElem_cons_succ, List.getElem_cons_zero, List.setIfInBounds_toArray, List.set_cons_zero, List.set_cons_succ]
  refine wpAnyH_take (i := 3) (v := ?vU3) rfl (by kernel_rfl) (by kernel_rfl) (by kernel_rfl) (fun _ _ _ h => h) (Or.inl ⟨by rfl, ?hyU3⟩) (by assumption) ?restU3
  case hyU3 => (intro w hSw; (try dsimp only at hSw); go_simp; try with_reducible rfl)
  try simp only [Act.put, List.getElem_toArray, List.getElem_cons_succ, List.getElem_cons_zero, List.setIfInBounds_toArray, List.set_cons_zero, List.set_cons_succ]
  refine wpAnyH_take (i := 4) (v := ?vU4) rfl (by kernel_rfl) (by kernel_rfl) (by kernel_rfl) (fun _ _ _ h => h) (Or.inl ⟨by rfl, ?hyU4⟩) (by assumption) ?restU4
  case hyU4 => (intro w hSw; (try dsimp only at hSw); go_simp; try with_reducible rfl)
  try simp only [Act.put, List.getElem_toArray, List.getElem_cons_succ, List.getElem_cons_zero, List.setIfInBounds_toArray, List.set_cons_zero, List.set_cons_succ]
  refine wpAnyH_take (i := 5) (v := ?vU5) rfl (by kernel_rfl) (by kernel_rfl) (by kernel_rfl) (fun _ _ _ h => h) (Or.inl ⟨by rfl, ?hyU5⟩) (by assumption) ?restU5
  case hyU5 => (intro w hSw; (try dsimp only at hSw); go_simp; try with_reducible rfl)
  try simp only [Act.put, List.getElem_toArray, List.getElem_cons_succ, List.getElem_cons_zero, List.setIfInBounds_toArray, List.set_cons_zero, List.set_cons_succ]
  refine wpAnyH_take (i := 6) (v := ?vU6) rfl (by kernel_rfl) (by kernel_rfl) (by kernel_rfl) (fun _ _ _ h => h) (Or.inl ⟨by rfl, ?hyU6⟩) (by assumption) ?restU6
  case hyU6 => (intro w hSw; (try dsimp only at hSw); go_simp; try with_reducible rfl)
  try simp only [Act.put, List.getElem_toArray, List.getElem_cons_succ, List.getElem_cons_zero, List.setIfInBounds_toArray, List.set_cons_zero, List.set_cons_succ]
  refine wpAnyH_take (i := 7) (v := ?vU7) rfl (by kernel_rfl) (by kernel_rfl) (by kernel_rfl) (fun _ _ _ h => h) (Or.inl ⟨by rfl, ?hyU7⟩) (by assumption) ?restU7
  case hyU7 => (intro w hSw; (try dsimp only at hSw); go_simp; try with_reducible rfl)
  try simp only [Act.put, List.getElem_toArray, List.getElem_cons_succ, List.getElem_cons_zero, List.setIfInBounds_toArray, List.set_cons_zero, List.set_cons_succ]
  refine wpAnyH_ready (rs := [1]) (by kernel_rfl) (by simp) ?_
  refine AllReadyH.cons rfl (fun K hK => ?_) AllReadyH.nil
  go_simp
  (go_at_call 10; refine cK.mono ?_; rintro e6 w6 ⟨rfl, hB6⟩; have hk6 := hkeep w6 hB6)
  go_wp2_with fail
  refine hK.out _ _ (hk6) (fun hHeld => ?_)
  try simp only [Act.put, List.getElem_toArray, List.getElem_cons_succ, List.getElem_cons_zero, List.setIfInBounds_toArray, List.set_cons_zero, List.set_cons_succ]
  refine wpAnyH_take (i := 2) (v := ?vU2) rfl (by kernel_rfl) (by kernel_rfl) (by kernel_rfl) (fun _ _ _ h => h) (Or.inl ⟨by rfl, ?hyU2⟩) (by assumption) ?restU2
  case hyU2 => (intro w hSw; (try dsimp only at hSw); go_simp; try with_reducible rfl)
  try simp only [Act.put, List.getElem_toArray, List.getElem_cons_succ, List.getElem_cons_zero, List.setIfInBounds_toArray, List.set_cons_zero, List.set_cons_succ]
  refine wpAnyH_take (i := 8) (v := ?vU8) rfl (by kernel_rfl) (by kernel_rfl) (by kernel_rfl) (fun _ _ _ h => h) (Or.inl ⟨by rfl, ?hyU8⟩) (by assumption) ?restU8
  case hyU8 => (intro w hSw; (try dsimp only at hSw); go_simp; try with_reducible rfl)
  try simp only [Act.put, List.getElem_toArray, List.getElem_cons_succ, List.getElem_cons_zero, List.setIfInBounds_toArray, List.set_cons_zero, List.set_cons_succ]
  refine wpAnyH_take (i := 9) (v := undef) rfl (by kernel_rfl) (by kernel_rfl) (by kernel_rfl) (fun _ _ _ h => h) (Or.inr ⟨by rfl, rfl⟩) (by assumption) ?_
  try simp only [Act.put, List.getElem_toArray, List.getElem_cons_succ, List.getElem_cons_zero, List.setIfInBounds_toArray, List.set_cons_zero, List.set_cons_succ]
  refine wpAnyH_take (i := 10) (v := undef) rfl (by kernel_rfl) (by kernel_rfl) (by kernel_rfl) (fun _ _ _ h => h) (Or.inr ⟨by rfl, rfl⟩) (by assumption) ?_
  try simp only [Act.put, List.getElem_toArray, List.getElem_cons_succ, List.getElem_cons_zero, List.setIfInBounds_toArray, List.set_cons_zero, List.set_cons_succ]
  refine wpAnyH_take (i := 11) (v := undef) rfl (by kernel_rfl) (by kernel_rfl) (by kernel_rfl) (fun _ _ _ h => h) (Or.inr ⟨by rfl, rfl⟩) (by assumption) ?_
  try simp only [Act.put, List.getElem_toArray, List.getElem_cons_succ, List.getElem_cons_zero, List.setIfInBounds_toArray, List.set_cons_zero, List.set_cons_succ]
  refine wpAnyH_take (i := 12) (v := undef) rfl (by kernel_rfl) (by kernel_rfl) (by kernel_rfl) (fun _ _ _ h => h) (Or.inr ⟨by rfl, rfl⟩) (by assumption) ?_
  try simp only [Act.put, List.getElem_toArray, List.getElem_cons_succ, List.getElem_cons_zero, List.setIfInBounds_toArray, List.set_cons_zero, List.set_cons_succ]
  refine wpAnyH_take (i := 13) (v := undef) rfl (by kernel_rfl) (by kernel_rfl) (by kernel_rfl) (fun _ _ _ h => h) (Or.inr ⟨by rfl, rfl⟩) (by assumption) ?_
  try simp only [Act.put, List.getElem_toArray, List.getElem_cons_succ, List.getElem_cons_zero, List.setIfInBounds_toArray, List.set_cons_zero, List.set_cons_succ]
  refine wpAnyH_take (i := 14) (v := ?vU14) rfl (by kernel_rfl) (by kernel_rfl) (by kernel_rfl) (fun _ _ _ h => h) (Or.inl ⟨by rfl, ?hyU14⟩) (by assumption) ?restU14
  case hyU14 => (intro w hSw; (try dsimp only at hSw); go_simp; try with_reducible rfl)
  try simp only [Act.put, List.getElem_toArray, List.getElem_cons_succ, List.getElem_cons_zero, List.setIfInBounds_toArray, List.set_cons_zero, List.set_cons_succ]
  refine wpAnyH_take (i := 15) (v := ?vU15) rfl (by kernel_rfl) (by kernel_rfl) (by kernel_rfl) (fun _ _ _ h => h) (Or.inl ⟨by rfl, ?hyU15⟩) (by assumption) ?restU15
  case hyU15 => (intro w hSw; (try dsimp only at hSw); go_simp; try with_reducible rfl)
  try simp only [Act.put, List.getElem_toArray, List.getElem_cons_succ, List.getElem_cons_zero, List.setIfInBounds_toArray, List.set_cons_zero, List.set_cons_succ]
  refine wpAnyH_done (by kernel_rfl) (NoPanic.normal ?_) _
  exact hpost w6 hB6 _ _ _ _ _ _ _ _ _ _ _ _ _ _ _

set_option maxRecDepth 100000 in
set_option maxHeartbeats 8000000 in
theorem edge_over (bc k : Nat) (hk : (k : Int) < 10) (hk0 : (0 : Int) ≤ (k : Int)) (x lo hi : Int) (h1 : lo ≤ x) (h2 : ¬ x ≤ hi) (c1 : Cfg) (s0 s1 s2 s3 s4 s5 s6 s11 s12 s14 s15 s16 s17 s18 s19 s20 s21 s22 s23 s24 s25 s26 s27 s28 s29 s30 s31 s32 s33 s34 s35 s36 s37 s38 s39 s40 s41 s42 s43 s44 s45 s46 s47 s48 s49 s50 s51 s52 s53 s54 s55 s56 s57 s58 s59 s60 s61 s62 s63 s64 s65 s66 s67 s68 s69 s70 s71 s72 s73 s74 s75 s76 s77 s78 s79 s80 s81 s82 s83 s84 s85 s86 s87 s88 : Value) (W : World)
    (hst : W.drew.cell? ⟨bc, 0, none⟩ = some (.int .i64 c1.e) ∧ W.drew.cell? ⟨bc, 1, none⟩ = some (.bool c1.k) ∧ W.drew.cell? ⟨bc, 2, none⟩ = some (.int .i64 c1.p) ∧ W.drew.cell? ⟨bc, 3, none⟩ = some (.int .i64 c1.t) ∧ W.drew.cell? ⟨bc, 4, none⟩ = some (.int .i64 c1.r) ∧ W.drew.cell? ⟨bc, 5, none⟩ = some (.int .i64 c1.s) ∧ W.drew.cell? ⟨bc, 6, none⟩ = some (.int .i64 c1.g) ∧ W.drew.cell? ⟨bc, 7, none⟩ = some (.int .i64 c1.f) ∧ W.drew.cell? ⟨bc, 8, none⟩ = some (.int .i64 c1.m) ∧ W.drew.cell? ⟨bc, 9, none⟩ = some (.int .i64 c1.l) ∧ W.drew.cell? ⟨bc, 10, none⟩ = some (.int .i64 c1.b) ∧ W.drew.cell? ⟨bc + 1, k, none⟩ = some (.int .i64 lo) ∧ W.drew.cell? ⟨bc + 1 + 1, k, none⟩ = some (.int .i64 hi))
    (hkeep : ∀ w6, Below W.drew.heap.size W.drew w6 → (w6.cell? ⟨bc, 0, none⟩ = some (.int .i64 c1.e) ∧ w6.cell? ⟨bc, 1, none⟩ = some (.bool c1.k) ∧ w6.cell? ⟨bc, 2, none⟩ = some (.int .i64 c1.p) ∧ w6.cell? ⟨bc, 3, none⟩ = some (.int .i64 c1.t) ∧ w6.cell? ⟨bc, 4, none⟩ = some (.int .i64 c1.r) ∧ w6.cell? ⟨bc, 5, none⟩ = some (.int .i64 c1.s) ∧ w6.cell? ⟨bc, 6, none⟩ = some (.int .i64 c1.g) ∧ w6.cell? ⟨bc, 7, none⟩ = some (.int .i64 c1.f) ∧ w6.cell? ⟨bc, 8, none⟩ = some (.int .i64 c1.m) ∧ w6.cell? ⟨bc, 9, none⟩ = some (.int .i64 c1.l) ∧ w6.cell? ⟨bc, 10, none⟩ = some (.int .i64 c1.b) ∧ w6.cell? ⟨bc + 1, k, none⟩ = some (.int .i64 lo) ∧ w6.cell? ⟨bc + 1 + 1, k, none⟩ = some (.int .i64 hi)))
    (cK : Calls Tryd.prog 10 #[c1.val] W.drew fun e w' => e = .returned (.int .i64 11) ∧ Below W.drew.heap.size W.drew w')
    (Q : Exit → Act → World → Prop)
    (hpost : ∀ w6, Below W.drew.heap.size W.drew w6 → ∀ u72 u73 u74 u75 u76 u77 u78 u79 u80 u81 u82 u83 u84 u85 u86 : Value, Q .normal ⟨#[s0, s1, s2, s3, s4, s5, s6, .pointer (some ⟨bc, 0, none⟩), .pointer (some ⟨bc + 1, 0, none⟩), .pointer (some ⟨bc + 1 + 1, 0, none⟩), .int .i64 (k : Int), s11, s12, .int .i64 x, s14, s15, s16, s17, s18, s19, s20, s21, s22, s23, s24, s25, s26, s27, s28, s29, s30, s31, s32, s33, s34, s35, s36, s37, s38, s39, s40, s41, s42, s43, s44, s45, s46, s47, s48, s49, s50, s51, s52, s53, s54, s55, s56, s57, s58, s59, s60, s61, s62, s63, s64, s65, s66, s67, s68, s69, s70, s71, u72, u73, u74, u75, u76, u77, u78, u79, u80, u81, u82, u83, u84, u85, u86, .bool false, s88], []⟩ w6) :
    Code.wp Tryd.prog (Code.region 13 #[{ dst := some 72, op := Op.load 23 (Operand.tmp 7), type := 23, pos := "law.go:53", after := #[], guard := none },
      { dst := some 73, op := Op.call { callee := Callee.value (Operand.func 10), args := #[Operand.tmp 72], argTypes := #[23] }, type := 26, pos := "law.go:53", after := #[{ on := 0, ground := Ground.data }], guard := none },
      { dst := some 74, op := Op.binOp BinOp.eql 26 (Operand.tmp 73) (Operand.const (Value.int IntKind.i64 0)) 26, type := 4, pos := "law.go:53", after := #[{ on := 1, ground := Ground.data }], guard := none },
      { dst := some 75, op := Op.move (Operand.tmp 13), type := 3, pos := "law.go:53", after := #[], guard := none },
      { dst := some 76, op := Op.move (Operand.tmp 10), type := 3, pos := "law.go:53", after := #[], guard := none },
      { dst := some 77, op := Op.indexAddr 32 (Operand.tmp 8) (Operand.tmp 76), type := 0, pos := "law.go:53", after := #[{ on := 4, ground := Ground.data }], guard := none },
      { dst := some 78, op := Op.load 3 (Operand.tmp 77), type := 3, pos := "law.go:53", after := #[{ on := 5, ground := Ground.data }], guard := none },
      { dst := some 79, op := Op.binOp BinOp.geq 3 (Operand.tmp 75) (Operand.tmp 78) 3, type := 4, pos := "law.go:53", after := #[{ on := 3, ground := Ground.data }, { on := 6, ground := Ground.data }], guard := none },
      { dst := some 80, op := Op.move (Operand.tmp 79), type := 4, pos := "law.go:53", after := #[{ on := 7, ground := Ground.data }, { on := 1, ground := Ground.chain }], guard := none },
      { dst := some 81, op := Op.move (Operand.tmp 13), type := 3, pos := "law.go:53", after := #[{ on := 8, ground := Ground.guard }], guard := some (8, true) },
      { dst := some 82, op := Op.move (Operand.tmp 10), type := 3, pos := "law.go:53", after := #[{ on := 8, ground := Ground.guard }], guard := some (8, true) },
      { dst := some 83, op := Op.indexAddr 32 (Operand.tmp 9) (Operand.tmp 82), type := 0, pos := "law.go:53", after := #[{ on := 10, ground := Ground.data }, { on := 8, ground := Ground.guard }], guard := some (8, true) },
      { dst := some 84, op := Op.load 3 (Operand.tmp 83), type := 3, pos := "law.go:53", after := #[{ on := 11, ground := Ground.data }, { on := 8, ground := Ground.guard }], guard := some (8, true) },
      { dst := some 85, op := Op.binOp BinOp.leq 3 (Operand.tmp 81) (Operand.tmp 84) 3, type := 4, pos := "law.go:53", after := #[{ on := 9, ground := Ground.data }, { on := 12, ground := Ground.data }, { on := 8, ground := Ground.guard }], guard := some (8, true) },
      { dst := some 86, op := Op.pick (Operand.tmp 80) (Operand.tmp 85) (Operand.const (Value.bool false)), type := 4, pos := "law.go:53", after := #[{ on := 8, ground := Ground.data }, { on := 13, ground := Ground.data }], guard := none },
      { dst := some 87, op := Op.binOp BinOp.neq 4 (Operand.tmp 74) (Operand.tmp 86) 4, type := 4, pos := "law.go:53", after := #[{ on := 2, ground := Ground.data }, { on := 14, ground := Ground.data }], guard := none }] true) Q ⟨#[s0, s1, s2, s3, s4, s5, s6, .pointer (some ⟨bc, 0, none⟩), .pointer (some ⟨bc + 1, 0, none⟩), .pointer (some ⟨bc + 1 + 1, 0, none⟩), .int .i64 (k : Int), s11, s12, .int .i64 x, s14, s15, s16, s17, s18, s19, s20, s21, s22, s23, s24, s25, s26, s27, s28, s29, s30, s31, s32, s33, s34, s35, s36, s37, s38, s39, s40, s41, s42, s43, s44, s45, s46, s47, s48, s49, s50, s51, s52, s53, s54, s55, s56, s57, s58, s59, s60, s61, s62, s63, s64, s65, s66, s67, s68, s69, s70, s71, s72, s73, s74, s75, s76, s77, s78, s79, s80, s81, s82, s83, s84, s85, s86, s87, s88], []⟩ W := by
  have hge : (decide (lo ≤ x)) = true := by simpa using h1
  have hle : (decide (x ≤ hi)) = false := by simpa using h2
  refine wp_region_noPanic ?_
  refine wp_region_held_drew (S := (fun W' => W'.cell? ⟨bc, 0, none⟩ = some (.int .i64 c1.e) ∧ W'.cell? ⟨bc, 1, none⟩ = some (.bool c1.k) ∧ W'.cell? ⟨bc, 2, none⟩ = some (.int .i64 c1.p) ∧ W'.cell? ⟨bc, 3, none⟩ = some (.int .i64 c1.t) ∧ W'.cell? ⟨bc, 4, none⟩ = some (.int .i64 c1.r) ∧ W'.cell? ⟨bc, 5, none⟩ = some (.int .i64 c1.s) ∧ W'.cell? ⟨bc, 6, none⟩ = some (.int .i64 c1.g) ∧ W'.cell? ⟨bc, 7, none⟩ = some (.int .i64 c1.f) ∧ W'.cell? ⟨bc, 8, none⟩ = some (.int .i64 c1.m) ∧ W'.cell? ⟨bc, 9, none⟩ = some (.int .i64 c1.l) ∧ W'.cell? ⟨bc, 10, none⟩ = some (.int .i64 c1.b) ∧ W'.cell? ⟨bc + 1, k, none⟩ = some (.int .i64 lo) ∧ W'.cell? ⟨bc + 1 + 1, k, none⟩ = some (.int .i64 hi))) (by kernel_rfl) (hst) (fun hHeld => ?_)
  refine wpAnyH_take (i := 0) (v := ?vO0) rfl (by kernel_rfl) (by kernel_rfl) (by kernel_rfl) (fun _ _ _ h => h) (Or.inl ⟨by rfl, ?hyO0⟩) (by assumption) ?restO0
  case hyO0 => (intro w hSw; (try dsimp only at hSw); go_simp; try with_reducible rfl)
  try simp only [Act.put, List.getElem_toArray, List.getElem_cons_succ, List.getElem_cons_zero, List.setIfInBounds_toArray, List.set_cons_zero, List.set_cons_succ]
  refine wpAnyH_take (i := 3) (v := ?vO3) rfl (by kernel_rfl) (by kernel_rfl) (by kernel_rfl) (fun _ _ _ h => h) (Or.inl ⟨by rfl, ?hyO3⟩) (by assumption) ?restO3
  case hyO3 => (intro w hSw; (try dsimp only at hSw); go_simp; try with_reducible rfl)
  try simp only [Act.put, List.getElem_toArray, List.getElem_cons_succ, List.getElem_cons_zero, List.setIfInBounds_toArray, List.set_cons_zero, List.set_cons_succ]
  refine wpAnyH_take (i := 4) (v := ?vO4) rfl (by kernel_rfl) (by kernel_rfl) (by kernel_rfl) (fun _ _ _ h => h) (Or.inl ⟨by rfl, ?hyO4⟩) (by assumption) ?restO4
  case hyO4 => (intro w hSw; (try dsimp only at hSw); go_simp; try with_reducible rfl)
  try simp only [Act.put, List.getElem_toArray, List.getElem_cons_succ, List.getElem_cons_zero, List.setIfInBounds_toArray, List.set_cons_zero, List.set_cons_succ]
  refine wpAnyH_take (i := 5) (v := ?vO5) rfl (by kernel_rfl) (by kernel_rfl) (by kernel_rfl) (fun _ _ _ h => h) (Or.inl ⟨by rfl, ?hyO5⟩) (by assumption) ?restO5
  case hyO5 => (intro w hSw; (try dsimp only at hSw); go_simp; try with_reducible rfl)
  try simp only [Act.put, List.getElem_toArray, List.getElem_cons_succ, List.getElem_cons_zero, List.setIfInBounds_toArray, List.set_cons_zero, List.set_cons_succ]
  refine wpAnyH_take (i := 6) (v := ?vO6) rfl (by kernel_rfl) (by kernel_rfl) (by kernel_rfl) (fun _ _ _ h => h) (Or.inl ⟨by rfl, ?hyO6⟩) (by assumption) ?restO6
  case hyO6 => (intro w hSw; (try dsimp only at hSw); go_simp; try with_reducible rfl)
  try simp only [Act.put, List.getElem_toArray, List.getElem_cons_succ, List.getElem_cons_zero, List.setIfInBounds_toArray, List.set_cons_zero, List.set_cons_succ]
  refine wpAnyH_take (i := 7) (v := ?vO7) rfl (by kernel_rfl) (by kernel_rfl) (by kernel_rfl) (fun _ _ _ h => h) (Or.inl ⟨by rfl, ?hyO7⟩) (by assumption) ?restO7
  case hyO7 => (intro w hSw; (try dsimp only at hSw); go_simp; try with_reducible rfl)
  try simp only [Act.put, List.getElem_toArray, List.getElem_cons_succ, List.getElem_cons_zero, List.setIfInBounds_toArray, List.set_cons_zero, List.set_cons_succ]
  refine wpAnyH_ready (rs := [1]) (by kernel_rfl) (by simp) ?_
  refine AllReadyH.cons rfl (fun K hK => ?_) AllReadyH.nil
  go_simp
  (go_at_call 10; refine cK.mono ?_; rintro e6 w6 ⟨rfl, hB6⟩; have hk6 := hkeep w6 hB6)
  go_wp2_with fail
  refine hK.out _ _ (hk6) (fun hHeld => ?_)
  try simp only [Act.put, List.getElem_toArray, List.getElem_cons_succ, List.getElem_cons_zero, List.setIfInBounds_toArray, List.set_cons_zero, List.set_cons_succ]
  refine wpAnyH_take (i := 2) (v := ?vO2) rfl (by kernel_rfl) (by kernel_rfl) (by kernel_rfl) (fun _ _ _ h => h) (Or.inl ⟨by rfl, ?hyO2⟩) (by assumption) ?restO2
  case hyO2 => (intro w hSw; (try dsimp only at hSw); go_simp; try with_reducible rfl)
  try simp only [Act.put, List.getElem_toArray, List.getElem_cons_succ, List.getElem_cons_zero, List.setIfInBounds_toArray, List.set_cons_zero, List.set_cons_succ]
  refine wpAnyH_take (i := 8) (v := ?vO8) rfl (by kernel_rfl) (by kernel_rfl) (by kernel_rfl) (fun _ _ _ h => h) (Or.inl ⟨by rfl, ?hyO8⟩) (by assumption) ?restO8
  case hyO8 => (intro w hSw; (try dsimp only at hSw); go_simp; try with_reducible rfl)
  try simp only [Act.put, List.getElem_toArray, List.getElem_cons_succ, List.getElem_cons_zero, List.setIfInBounds_toArray, List.set_cons_zero, List.set_cons_succ]
  refine wpAnyH_take (i := 9) (v := ?vO9) rfl (by kernel_rfl) (by kernel_rfl) (by kernel_rfl) (fun _ _ _ h => h) (Or.inl ⟨by rfl, ?hyO9⟩) (by assumption) ?restO9
  case hyO9 => (intro w hSw; (try dsimp only at hSw); go_simp; try with_reducible rfl)
  try simp only [Act.put, List.getElem_toArray, List.getElem_cons_succ, List.getElem_cons_zero, List.setIfInBounds_toArray, List.set_cons_zero, List.set_cons_succ]
  refine wpAnyH_take (i := 10) (v := ?vO10) rfl (by kernel_rfl) (by kernel_rfl) (by kernel_rfl) (fun _ _ _ h => h) (Or.inl ⟨by rfl, ?hyO10⟩) (by assumption) ?restO10
  case hyO10 => (intro w hSw; (try dsimp only at hSw); go_simp; try with_reducible rfl)
  try simp only [Act.put, List.getElem_toArray, List.getElem_cons_succ, List.getElem_cons_zero, List.setIfInBounds_toArray, List.set_cons_zero, List.set_cons_succ]
  refine wpAnyH_take (i := 11) (v := ?vO11) rfl (by kernel_rfl) (by kernel_rfl) (by kernel_rfl) (fun _ _ _ h => h) (Or.inl ⟨by rfl, ?hyO11⟩) (by assumption) ?restO11
  case hyO11 => (intro w hSw; (try dsimp only at hSw); go_simp; try with_reducible rfl)
  try simp only [Act.put, List.getElem_toArray, List.getElem_cons_succ, List.getElem_cons_zero, List.setIfInBounds_toArray, List.set_cons_zero, List.set_cons_succ]
  refine wpAnyH_take (i := 12) (v := ?vO12) rfl (by kernel_rfl) (by kernel_rfl) (by kernel_rfl) (fun _ _ _ h => h) (Or.inl ⟨by rfl, ?hyO12⟩) (by assumption) ?restO12
  case hyO12 => (intro w hSw; (try dsimp only at hSw); go_simp; try with_reducible rfl)
  try simp only [Act.put, List.getElem_toArray, List.getElem_cons_succ, List.getElem_cons_zero, List.setIfInBounds_toArray, List.set_cons_zero, List.set_cons_succ]
  refine wpAnyH_take (i := 13) (v := ?vO13) rfl (by kernel_rfl) (by kernel_rfl) (by kernel_rfl) (fun _ _ _ h => h) (Or.inl ⟨by rfl, ?hyO13⟩) (by assumption) ?restO13
  case hyO13 => (intro w hSw; (try dsimp only at hSw); go_simp; try with_reducible rfl)
  try simp only [Act.put, List.getElem_toArray, List.getElem_cons_succ, List.getElem_cons_zero, List.setIfInBounds_toArray, List.set_cons_zero, List.set_cons_succ]
  refine wpAnyH_take (i := 14) (v := ?vO14) rfl (by kernel_rfl) (by kernel_rfl) (by kernel_rfl) (fun _ _ _ h => h) (Or.inl ⟨by rfl, ?hyO14⟩) (by assumption) ?restO14
  case hyO14 => (intro w hSw; (try dsimp only at hSw); go_simp; try with_reducible rfl)
  try simp only [Act.put, List.getElem_toArray, List.getElem_cons_succ, List.getElem_cons_zero, List.setIfInBounds_toArray, List.set_cons_zero, List.set_cons_succ]
  refine wpAnyH_take (i := 15) (v := ?vO15) rfl (by kernel_rfl) (by kernel_rfl) (by kernel_rfl) (fun _ _ _ h => h) (Or.inl ⟨by rfl, ?hyO15⟩) (by assumption) ?restO15
  case hyO15 => (intro w hSw; (try dsimp only at hSw); go_simp; try with_reducible rfl)
  try simp only [Act.put, List.getElem_toArray, List.getElem_cons_succ, List.getElem_cons_zero, List.setIfInBounds_toArray, List.set_cons_zero, List.set_cons_succ]
  refine wpAnyH_done (by kernel_rfl) (NoPanic.normal ?_) _
  exact hpost w6 hB6 _ _ _ _ _ _ _ _ _ _ _ _ _ _ _

set_option maxRecDepth 100000 in
set_option maxHeartbeats 8000000 in
theorem edge_in (bc k : Nat) (hk : (k : Int) < 10) (hk0 : (0 : Int) ≤ (k : Int)) (x lo hi : Int) (h1 : lo ≤ x) (h2 : x ≤ hi) (c1 : Cfg) (s0 s1 s2 s3 s4 s5 s6 s11 s12 s14 s15 s16 s17 s18 s19 s20 s21 s22 s23 s24 s25 s26 s27 s28 s29 s30 s31 s32 s33 s34 s35 s36 s37 s38 s39 s40 s41 s42 s43 s44 s45 s46 s47 s48 s49 s50 s51 s52 s53 s54 s55 s56 s57 s58 s59 s60 s61 s62 s63 s64 s65 s66 s67 s68 s69 s70 s71 s72 s73 s74 s75 s76 s77 s78 s79 s80 s81 s82 s83 s84 s85 s86 s87 s88 : Value) (W : World)
    (hst : W.drew.cell? ⟨bc, 0, none⟩ = some (.int .i64 c1.e) ∧ W.drew.cell? ⟨bc, 1, none⟩ = some (.bool c1.k) ∧ W.drew.cell? ⟨bc, 2, none⟩ = some (.int .i64 c1.p) ∧ W.drew.cell? ⟨bc, 3, none⟩ = some (.int .i64 c1.t) ∧ W.drew.cell? ⟨bc, 4, none⟩ = some (.int .i64 c1.r) ∧ W.drew.cell? ⟨bc, 5, none⟩ = some (.int .i64 c1.s) ∧ W.drew.cell? ⟨bc, 6, none⟩ = some (.int .i64 c1.g) ∧ W.drew.cell? ⟨bc, 7, none⟩ = some (.int .i64 c1.f) ∧ W.drew.cell? ⟨bc, 8, none⟩ = some (.int .i64 c1.m) ∧ W.drew.cell? ⟨bc, 9, none⟩ = some (.int .i64 c1.l) ∧ W.drew.cell? ⟨bc, 10, none⟩ = some (.int .i64 c1.b) ∧ W.drew.cell? ⟨bc + 1, k, none⟩ = some (.int .i64 lo) ∧ W.drew.cell? ⟨bc + 1 + 1, k, none⟩ = some (.int .i64 hi))
    (hkeep : ∀ w6, Below W.drew.heap.size W.drew w6 → (w6.cell? ⟨bc, 0, none⟩ = some (.int .i64 c1.e) ∧ w6.cell? ⟨bc, 1, none⟩ = some (.bool c1.k) ∧ w6.cell? ⟨bc, 2, none⟩ = some (.int .i64 c1.p) ∧ w6.cell? ⟨bc, 3, none⟩ = some (.int .i64 c1.t) ∧ w6.cell? ⟨bc, 4, none⟩ = some (.int .i64 c1.r) ∧ w6.cell? ⟨bc, 5, none⟩ = some (.int .i64 c1.s) ∧ w6.cell? ⟨bc, 6, none⟩ = some (.int .i64 c1.g) ∧ w6.cell? ⟨bc, 7, none⟩ = some (.int .i64 c1.f) ∧ w6.cell? ⟨bc, 8, none⟩ = some (.int .i64 c1.m) ∧ w6.cell? ⟨bc, 9, none⟩ = some (.int .i64 c1.l) ∧ w6.cell? ⟨bc, 10, none⟩ = some (.int .i64 c1.b) ∧ w6.cell? ⟨bc + 1, k, none⟩ = some (.int .i64 lo) ∧ w6.cell? ⟨bc + 1 + 1, k, none⟩ = some (.int .i64 hi)))
    (cK : Calls Tryd.prog 10 #[c1.val] W.drew fun e w' => e = .returned (.int .i64 0) ∧ Below W.drew.heap.size W.drew w')
    (Q : Exit → Act → World → Prop)
    (hpost : ∀ w6, Below W.drew.heap.size W.drew w6 → ∀ u72 u73 u74 u75 u76 u77 u78 u79 u80 u81 u82 u83 u84 u85 u86 : Value, Q .normal ⟨#[s0, s1, s2, s3, s4, s5, s6, .pointer (some ⟨bc, 0, none⟩), .pointer (some ⟨bc + 1, 0, none⟩), .pointer (some ⟨bc + 1 + 1, 0, none⟩), .int .i64 (k : Int), s11, s12, .int .i64 x, s14, s15, s16, s17, s18, s19, s20, s21, s22, s23, s24, s25, s26, s27, s28, s29, s30, s31, s32, s33, s34, s35, s36, s37, s38, s39, s40, s41, s42, s43, s44, s45, s46, s47, s48, s49, s50, s51, s52, s53, s54, s55, s56, s57, s58, s59, s60, s61, s62, s63, s64, s65, s66, s67, s68, s69, s70, s71, u72, u73, u74, u75, u76, u77, u78, u79, u80, u81, u82, u83, u84, u85, u86, .bool false, s88], []⟩ w6) :
    Code.wp Tryd.prog (Code.region 13 #[{ dst := some 72, op := Op.load 23 (Operand.tmp 7), type := 23, pos := "law.go:53", after := #[], guard := none },
      { dst := some 73, op := Op.call { callee := Callee.value (Operand.func 10), args := #[Operand.tmp 72], argTypes := #[23] }, type := 26, pos := "law.go:53", after := #[{ on := 0, ground := Ground.data }], guard := none },
      { dst := some 74, op := Op.binOp BinOp.eql 26 (Operand.tmp 73) (Operand.const (Value.int IntKind.i64 0)) 26, type := 4, pos := "law.go:53", after := #[{ on := 1, ground := Ground.data }], guard := none },
      { dst := some 75, op := Op.move (Operand.tmp 13), type := 3, pos := "law.go:53", after := #[], guard := none },
      { dst := some 76, op := Op.move (Operand.tmp 10), type := 3, pos := "law.go:53", after := #[], guard := none },
      { dst := some 77, op := Op.indexAddr 32 (Operand.tmp 8) (Operand.tmp 76), type := 0, pos := "law.go:53", after := #[{ on := 4, ground := Ground.data }], guard := none },
      { dst := some 78, op := Op.load 3 (Operand.tmp 77), type := 3, pos := "law.go:53", after := #[{ on := 5, ground := Ground.data }], guard := none },
      { dst := some 79, op := Op.binOp BinOp.geq 3 (Operand.tmp 75) (Operand.tmp 78) 3, type := 4, pos := "law.go:53", after := #[{ on := 3, ground := Ground.data }, { on := 6, ground := Ground.data }], guard := none },
      { dst := some 80, op := Op.move (Operand.tmp 79), type := 4, pos := "law.go:53", after := #[{ on := 7, ground := Ground.data }, { on := 1, ground := Ground.chain }], guard := none },
      { dst := some 81, op := Op.move (Operand.tmp 13), type := 3, pos := "law.go:53", after := #[{ on := 8, ground := Ground.guard }], guard := some (8, true) },
      { dst := some 82, op := Op.move (Operand.tmp 10), type := 3, pos := "law.go:53", after := #[{ on := 8, ground := Ground.guard }], guard := some (8, true) },
      { dst := some 83, op := Op.indexAddr 32 (Operand.tmp 9) (Operand.tmp 82), type := 0, pos := "law.go:53", after := #[{ on := 10, ground := Ground.data }, { on := 8, ground := Ground.guard }], guard := some (8, true) },
      { dst := some 84, op := Op.load 3 (Operand.tmp 83), type := 3, pos := "law.go:53", after := #[{ on := 11, ground := Ground.data }, { on := 8, ground := Ground.guard }], guard := some (8, true) },
      { dst := some 85, op := Op.binOp BinOp.leq 3 (Operand.tmp 81) (Operand.tmp 84) 3, type := 4, pos := "law.go:53", after := #[{ on := 9, ground := Ground.data }, { on := 12, ground := Ground.data }, { on := 8, ground := Ground.guard }], guard := some (8, true) },
      { dst := some 86, op := Op.pick (Operand.tmp 80) (Operand.tmp 85) (Operand.const (Value.bool false)), type := 4, pos := "law.go:53", after := #[{ on := 8, ground := Ground.data }, { on := 13, ground := Ground.data }], guard := none },
      { dst := some 87, op := Op.binOp BinOp.neq 4 (Operand.tmp 74) (Operand.tmp 86) 4, type := 4, pos := "law.go:53", after := #[{ on := 2, ground := Ground.data }, { on := 14, ground := Ground.data }], guard := none }] true) Q ⟨#[s0, s1, s2, s3, s4, s5, s6, .pointer (some ⟨bc, 0, none⟩), .pointer (some ⟨bc + 1, 0, none⟩), .pointer (some ⟨bc + 1 + 1, 0, none⟩), .int .i64 (k : Int), s11, s12, .int .i64 x, s14, s15, s16, s17, s18, s19, s20, s21, s22, s23, s24, s25, s26, s27, s28, s29, s30, s31, s32, s33, s34, s35, s36, s37, s38, s39, s40, s41, s42, s43, s44, s45, s46, s47, s48, s49, s50, s51, s52, s53, s54, s55, s56, s57, s58, s59, s60, s61, s62, s63, s64, s65, s66, s67, s68, s69, s70, s71, s72, s73, s74, s75, s76, s77, s78, s79, s80, s81, s82, s83, s84, s85, s86, s87, s88], []⟩ W := by
  have hge : (decide (lo ≤ x)) = true := by simpa using h1
  have hle : (decide (x ≤ hi)) = true := by simpa using h2
  refine wp_region_noPanic ?_
  refine wp_region_held_drew (S := (fun W' => W'.cell? ⟨bc, 0, none⟩ = some (.int .i64 c1.e) ∧ W'.cell? ⟨bc, 1, none⟩ = some (.bool c1.k) ∧ W'.cell? ⟨bc, 2, none⟩ = some (.int .i64 c1.p) ∧ W'.cell? ⟨bc, 3, none⟩ = some (.int .i64 c1.t) ∧ W'.cell? ⟨bc, 4, none⟩ = some (.int .i64 c1.r) ∧ W'.cell? ⟨bc, 5, none⟩ = some (.int .i64 c1.s) ∧ W'.cell? ⟨bc, 6, none⟩ = some (.int .i64 c1.g) ∧ W'.cell? ⟨bc, 7, none⟩ = some (.int .i64 c1.f) ∧ W'.cell? ⟨bc, 8, none⟩ = some (.int .i64 c1.m) ∧ W'.cell? ⟨bc, 9, none⟩ = some (.int .i64 c1.l) ∧ W'.cell? ⟨bc, 10, none⟩ = some (.int .i64 c1.b) ∧ W'.cell? ⟨bc + 1, k, none⟩ = some (.int .i64 lo) ∧ W'.cell? ⟨bc + 1 + 1, k, none⟩ = some (.int .i64 hi))) (by kernel_rfl) (hst) (fun hHeld => ?_)
  refine wpAnyH_take (i := 0) (v := ?vI0) rfl (by kernel_rfl) (by kernel_rfl) (by kernel_rfl) (fun _ _ _ h => h) (Or.inl ⟨by rfl, ?hyI0⟩) (by assumption) ?restI0
  case hyI0 => (intro w hSw; (try dsimp only at hSw); go_simp; try with_reducible rfl)
  try simp only [Act.put, List.getElem_toArray, List.getElem_cons_succ, List.getElem_cons_zero, List.setIfInBounds_toArray, List.set_cons_zero, List.set_cons_succ]
  refine wpAnyH_take (i := 3) (v := ?vI3) rfl (by kernel_rfl) (by kernel_rfl) (by kernel_rfl) (fun _ _ _ h => h) (Or.inl ⟨by rfl, ?hyI3⟩) (by assumption) ?restI3
  case hyI3 => (intro w hSw; (try dsimp only at hSw); go_simp; try with_reducible rfl)
  try simp only [Act.put, List.getElem_toArray, List.getElem_cons_succ, List.getElem_cons_zero, List.setIfInBounds_toArray, List.set_cons_zero, List.set_cons_succ]
  refine wpAnyH_take (i := 4) (v := ?vI4) rfl (by kernel_rfl) (by kernel_rfl) (by kernel_rfl) (fun _ _ _ h => h) (Or.inl ⟨by rfl, ?hyI4⟩) (by assumption) ?restI4
  case hyI4 => (intro w hSw; (try dsimp only at hSw); go_simp; try with_reducible rfl)
  try simp only [Act.put, List.getElem_toArray, List.getElem_cons_succ, List.getElem_cons_zero, List.setIfInBounds_toArray, List.set_cons_zero, List.set_cons_succ]
  refine wpAnyH_take (i := 5) (v := ?vI5) rfl (by kernel_rfl) (by kernel_rfl) (by kernel_rfl) (fun _ _ _ h => h) (Or.inl ⟨by rfl, ?hyI5⟩) (by assumption) ?restI5
  case hyI5 => (intro w hSw; (try dsimp only at hSw); go_simp; try with_reducible rfl)
  try simp only [Act.put, List.getElem_toArray, List.getElem_cons_succ, List.getElem_cons_zero, List.setIfInBounds_toArray, List.set_cons_zero, List.set_cons_succ]
  refine wpAnyH_take (i := 6) (v := ?vI6) rfl (by kernel_rfl) (by kernel_rfl) (by kernel_rfl) (fun _ _ _ h => h) (Or.inl ⟨by rfl, ?hyI6⟩) (by assumption) ?restI6
  case hyI6 => (intro w hSw; (try dsimp only at hSw); go_simp; try with_reducible rfl)
  try simp only [Act.put, List.getElem_toArray, List.getElem_cons_succ, List.getElem_cons_zero, List.setIfInBounds_toArray, List.set_cons_zero, List.set_cons_succ]
  refine wpAnyH_take (i := 7) (v := ?vI7) rfl (by kernel_rfl) (by kernel_rfl) (by kernel_rfl) (fun _ _ _ h => h) (Or.inl ⟨by rfl, ?hyI7⟩) (by assumption) ?restI7
  case hyI7 => (intro w hSw; (try dsimp only at hSw); go_simp; try with_reducible rfl)
  try simp only [Act.put, List.getElem_toArray, List.getElem_cons_succ, List.getElem_cons_zero, List.setIfInBounds_toArray, List.set_cons_zero, List.set_cons_succ]
  refine wpAnyH_ready (rs := [1]) (by kernel_rfl) (by simp) ?_
  refine AllReadyH.cons rfl (fun K hK => ?_) AllReadyH.nil
  go_simp
  (go_at_call 10; refine cK.mono ?_; rintro e6 w6 ⟨rfl, hB6⟩; have hk6 := hkeep w6 hB6)
  go_wp2_with fail
  refine hK.out _ _ (hk6) (fun hHeld => ?_)
  try simp only [Act.put, List.getElem_toArray, List.getElem_cons_succ, List.getElem_cons_zero, List.setIfInBounds_toArray, List.set_cons_zero, List.set_cons_succ]
  refine wpAnyH_take (i := 2) (v := ?vI2) rfl (by kernel_rfl) (by kernel_rfl) (by kernel_rfl) (fun _ _ _ h => h) (Or.inl ⟨by rfl, ?hyI2⟩) (by assumption) ?restI2
  case hyI2 => (intro w hSw; (try dsimp only at hSw); go_simp; try with_reducible rfl)
  try simp only [Act.put, List.getElem_toArray, List.getElem_cons_succ, List.getElem_cons_zero, List.setIfInBounds_toArray, List.set_cons_zero, List.set_cons_succ]
  refine wpAnyH_take (i := 8) (v := ?vI8) rfl (by kernel_rfl) (by kernel_rfl) (by kernel_rfl) (fun _ _ _ h => h) (Or.inl ⟨by rfl, ?hyI8⟩) (by assumption) ?restI8
  case hyI8 => (intro w hSw; (try dsimp only at hSw); go_simp; try with_reducible rfl)
  try simp only [Act.put, List.getElem_toArray, List.getElem_cons_succ, List.getElem_cons_zero, List.setIfInBounds_toArray, List.set_cons_zero, List.set_cons_succ]
  refine wpAnyH_take (i := 9) (v := ?vI9) rfl (by kernel_rfl) (by kernel_rfl) (by kernel_rfl) (fun _ _ _ h => h) (Or.inl ⟨by rfl, ?hyI9⟩) (by assumption) ?restI9
  case hyI9 => (intro w hSw; (try dsimp only at hSw); go_simp; try with_reducible rfl)
  try simp only [Act.put, List.getElem_toArray, List.getElem_cons_succ, List.getElem_cons_zero, List.setIfInBounds_toArray, List.set_cons_zero, List.set_cons_succ]
  refine wpAnyH_take (i := 10) (v := ?vI10) rfl (by kernel_rfl) (by kernel_rfl) (by kernel_rfl) (fun _ _ _ h => h) (Or.inl ⟨by rfl, ?hyI10⟩) (by assumption) ?restI10
  case hyI10 => (intro w hSw; (try dsimp only at hSw); go_simp; try with_reducible rfl)
  try simp only [Act.put, List.getElem_toArray, List.getElem_cons_succ, List.getElem_cons_zero, List.setIfInBounds_toArray, List.set_cons_zero, List.set_cons_succ]
  refine wpAnyH_take (i := 11) (v := ?vI11) rfl (by kernel_rfl) (by kernel_rfl) (by kernel_rfl) (fun _ _ _ h => h) (Or.inl ⟨by rfl, ?hyI11⟩) (by assumption) ?restI11
  case hyI11 => (intro w hSw; (try dsimp only at hSw); go_simp; try with_reducible rfl)
  try simp only [Act.put, List.getElem_toArray, List.getElem_cons_succ, List.getElem_cons_zero, List.setIfInBounds_toArray, List.set_cons_zero, List.set_cons_succ]
  refine wpAnyH_take (i := 12) (v := ?vI12) rfl (by kernel_rfl) (by kernel_rfl) (by kernel_rfl) (fun _ _ _ h => h) (Or.inl ⟨by rfl, ?hyI12⟩) (by assumption) ?restI12
  case hyI12 => (intro w hSw; (try dsimp only at hSw); go_simp; try with_reducible rfl)
  try simp only [Act.put, List.getElem_toArray, List.getElem_cons_succ, List.getElem_cons_zero, List.setIfInBounds_toArray, List.set_cons_zero, List.set_cons_succ]
  refine wpAnyH_take (i := 13) (v := ?vI13) rfl (by kernel_rfl) (by kernel_rfl) (by kernel_rfl) (fun _ _ _ h => h) (Or.inl ⟨by rfl, ?hyI13⟩) (by assumption) ?restI13
  case hyI13 => (intro w hSw; (try dsimp only at hSw); go_simp; try with_reducible rfl)
  try simp only [Act.put, List.getElem_toArray, List.getElem_cons_succ, List.getElem_cons_zero, List.setIfInBounds_toArray, List.set_cons_zero, List.set_cons_succ]
  refine wpAnyH_take (i := 14) (v := ?vI14) rfl (by kernel_rfl) (by kernel_rfl) (by kernel_rfl) (fun _ _ _ h => h) (Or.inl ⟨by rfl, ?hyI14⟩) (by assumption) ?restI14
  case hyI14 => (intro w hSw; (try dsimp only at hSw); go_simp; try with_reducible rfl)
  try simp only [Act.put, List.getElem_toArray, List.getElem_cons_succ, List.getElem_cons_zero, List.setIfInBounds_toArray, List.set_cons_zero, List.set_cons_succ]
  refine wpAnyH_take (i := 15) (v := ?vI15) rfl (by kernel_rfl) (by kernel_rfl) (by kernel_rfl) (fun _ _ _ h => h) (Or.inl ⟨by rfl, ?hyI15⟩) (by assumption) ?restI15
  case hyI15 => (intro w hSw; (try dsimp only at hSw); go_simp; try with_reducible rfl)
  try simp only [Act.put, List.getElem_toArray, List.getElem_cons_succ, List.getElem_cons_zero, List.setIfInBounds_toArray, List.set_cons_zero, List.set_cons_succ]
  refine wpAnyH_done (by kernel_rfl) (NoPanic.normal ?_) _
  exact hpost w6 hB6 _ _ _ _ _ _ _ _ _ _ _ _ _ _ _
end Go.Proofs.YtaoankajpknncaaDoor
