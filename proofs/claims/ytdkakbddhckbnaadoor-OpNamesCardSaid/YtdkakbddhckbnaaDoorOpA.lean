/- An item as a value; an operation as a value, the table of them; arguments of an item's kind, and rows of three bytes; at this seat's numbers. -/
import Derived.Test.YtdkakbddhckbnaaDoorCfA
import Derived.Laws.Rows
namespace Go.Proofs.YtdkakbddhckbnaaDoor
open Go Go.RowKit Go.ChangeShapes Go.WideShapes
set_option linter.unusedSimpArgs false
set_option linter.unusedVariables false

/-- An item. -/
structure It where
  k : Int
  t : Int
  o : Int
  a : Int
  b : Int
  c : Int
abbrev It.arr (x : It) : Array Value := #[.int .i64 x.k, .int .i64 x.t, .int .i64 x.o, .int .i64 x.a, .int .i64 x.b, .int .i64 x.c]
abbrev It.val (x : It) : Value := .agg #[.int .i64 x.k, .int .i64 x.t, .int .i64 x.o, .int .i64 x.a, .int .i64 x.b, .int .i64 x.c]
def It.wf (x : It) : Prop := (Lit.int .i64 x.o).wf = true ∧ (Lit.int .i64 x.a).wf = true ∧ (Lit.int .i64 x.b).wf = true ∧ (Lit.int .i64 x.c).wf = true

theorem cellsItem : Tryd.prog.cellsOf 24 = 6 := by kernel_rfl
theorem cellsThree : Tryd.prog.cellsOf 41 = 3 := by kernel_rfl
theorem array3 {α : Type} {cs : Array α} (h : cs.size = 3) : ∃ c0 c1 c2, cs = #[c0, c1, c2] := by
  obtain ⟨l⟩ := cs
  match l, h with
  | [c0, c1, c2], _ => exact ⟨c0, c1, c2, rfl⟩
theorem list3 {α : Type} {xs : List α} (h : xs.length = 3) : ∃ c0 c1 c2, xs = [c0, c1, c2] := by
  match xs, h with
  | [c0, c1, c2], _ => exact ⟨c0, c1, c2, rfl⟩
section
variable {H : Type} {enc : TypeId × Value → H} {W : World}
theorem open_item_arg {r : Reach} {b0 : Nat} {v : Value} {d : DataW H} {ps : List MemPlace} (hv : Value.okWide Tryd.prog W r b0 24 v)
    (h : DataW.Trod enc Tryd.prog W 0 (fun _ => true) true 24 v d ps) : ∃ x : It, v = x.val ∧ x.wf := by
  obtain ⟨cs, rfl, hsz⟩ := okWide_struct Tryd.underlying24 hv
  obtain ⟨c0, c1, c2, c3, c4, c5, rfl⟩ := array6 (hsz.trans cellsItem)
  obtain ⟨fuel, hf⟩ := h
  obtain ⟨xs, n, _, _, _, hlen, hg⟩ := DataW.trod_struct Tryd.underlying24 hf
  obtain ⟨y0, y1, y2, y3, y4, y5, rfl⟩ := list6 hlen
  have g0 := hg 0 _ rfl
  have g1 := hg 1 _ rfl
  have g2 := hg 2 _ rfl
  have g3 := hg 3 _ rfl
  have g4 := hg 4 _ rfl
  have g5 := hg 5 _ rfl
  simp [cellsOneI, Value.cells] at g0 g1 g2 g3 g4 g5
  obtain ⟨a0, rfl, w0⟩ := int_of g0
  obtain ⟨a1, rfl, w1⟩ := int_of g1
  obtain ⟨a2, rfl, w2⟩ := int_of g2
  obtain ⟨a3, rfl, w3⟩ := int_of g3
  obtain ⟨a4, rfl, w4⟩ := int_of g4
  obtain ⟨a5, rfl, w5⟩ := int_of g5
  exact ⟨⟨a0, a1, a2, a3, a4, a5⟩, rfl, w2, w3, w4, w5⟩
theorem open_three_arg {r : Reach} {b0 : Nat} {v : Value} {d : DataW H} {ps : List MemPlace} (hv : Value.okWide Tryd.prog W r b0 41 v)
    (h : DataW.Trod enc Tryd.prog W 0 (fun _ => true) true 41 v d ps) : ∃ a0 a1 a2 : Nat, v = .agg #[.int .u8 (a0 : Int), .int .u8 (a1 : Int), .int .u8 (a2 : Int)] ∧ (a0 ≤ 255 ∧ a1 ≤ 255 ∧ a2 ≤ 255) := by
  have hv2 := hv
  simp only [Value.okWide, Tryd.underlying41] at hv2
  obtain ⟨cs, rfl, hsz, _⟩ := hv2
  obtain ⟨c0, c1, c2, rfl⟩ := array3 (hsz.trans cellsThree)
  obtain ⟨fuel, hf⟩ := h
  obtain ⟨xs, n, _, _, _, hlen, hg⟩ := DataW.trod_array Tryd.underlying41 hf
  obtain ⟨y0, y1, y2, rfl⟩ := list3 hlen
  have g0 := hg 0 (by decide)
  have g1 := hg 1 (by decide)
  have g2 := hg 2 (by decide)
  simp [cellsOneU, Value.cells] at g0 g1 g2
  obtain ⟨a0, rfl, w0⟩ := u8_of g0
  obtain ⟨a1, rfl, w1⟩ := u8_of g1
  obtain ⟨a2, rfl, w2⟩ := u8_of g2
  have b0 := wf_u8 w0
  have b1 := wf_u8 w1
  have b2 := wf_u8 w2
  obtain ⟨n0, rfl⟩ := Int.eq_ofNat_of_zero_le b0.1
  obtain ⟨n1, rfl⟩ := Int.eq_ofNat_of_zero_le b1.1
  obtain ⟨n2, rfl⟩ := Int.eq_ofNat_of_zero_le b2.1
  exact ⟨n0, n1, n2, rfl, by omega, by omega, by omega⟩
end

/-- An operation: its name; is A, B, C a register; is B how many fields, a global; does it write, does it tell. -/
structure Opn where
  nm : ByteArray
  a : Bool
  b : Bool
  c : Bool
  s : Bool
  g : Bool
  w : Bool
  t : Bool
abbrev Opn.arr (o : Opn) : Array Value := #[.string o.nm, .bool o.a, .bool o.b, .bool o.c, .bool o.s, .bool o.g, .bool o.w, .bool o.t]
abbrev Opn.val (o : Opn) : Value := .agg #[.string o.nm, .bool o.a, .bool o.b, .bool o.c, .bool o.s, .bool o.g, .bool o.w, .bool o.t]
def noOp : Opn := ⟨⟨#[]⟩, false, false, false, false, false, false, false⟩
abbrev nm0 : ByteArray := ⟨#[97, 108, 108, 111, 99]⟩ -- alloc
abbrev nm1 : ByteArray := ⟨#[108, 111, 97, 100]⟩ -- load
abbrev nm2 : ByteArray := ⟨#[115, 116, 111, 114, 101]⟩ -- store
abbrev nm3 : ByteArray := ⟨#[108, 111, 97, 100, 115]⟩ -- loads
abbrev nm4 : ByteArray := ⟨#[115, 116, 111, 114, 101, 115]⟩ -- stores
abbrev nm5 : ByteArray := ⟨#[109, 111, 118, 101]⟩ -- move
abbrev nm6 : ByteArray := ⟨#[99, 108, 101, 97, 114]⟩ -- clear
abbrev nm7 : ByteArray := ⟨#[101, 113]⟩ -- eq
abbrev nm8 : ByteArray := ⟨#[105, 115, 110, 105, 108]⟩ -- isnil
abbrev nm9 : ByteArray := ⟨#[112, 117, 115, 104]⟩ -- push
abbrev nm10 : ByteArray := ⟨#[112, 111, 112]⟩ -- pop
abbrev nm11 : ByteArray := ⟨#[103, 101, 116, 103]⟩ -- getg
abbrev nm12 : ByteArray := ⟨#[112, 117, 116, 103]⟩ -- putg
def opN : Nat → Opn
  | 0 => ⟨nm0, true, false, false, true, false, false, true⟩
  | 1 => ⟨nm1, true, true, false, false, false, false, true⟩
  | 2 => ⟨nm2, true, false, true, false, false, true, false⟩
  | 3 => ⟨nm3, true, false, false, false, false, false, false⟩
  | 4 => ⟨nm4, true, false, false, false, false, false, false⟩
  | 5 => ⟨nm5, true, true, false, false, false, false, false⟩
  | 6 => ⟨nm6, true, false, false, false, false, false, false⟩
  | 7 => ⟨nm7, true, true, false, false, false, false, false⟩
  | 8 => ⟨nm8, true, false, false, false, false, false, false⟩
  | 9 => ⟨nm9, true, false, false, false, false, false, false⟩
  | 10 => ⟨nm10, true, false, false, false, false, false, true⟩
  | 11 => ⟨nm11, true, false, false, false, true, false, true⟩
  | _ => ⟨nm12, true, false, false, false, true, true, false⟩
def opOf (i : Int) : Opn := if 0 ≤ i ∧ i < 13 then opN i.toNat else noOp
def tabArr : Array Value := #[.string nm0, .bool true, .bool false, .bool false, .bool true, .bool false, .bool false, .bool true,
  .string nm1, .bool true, .bool true, .bool false, .bool false, .bool false, .bool false, .bool true,
  .string nm2, .bool true, .bool false, .bool true, .bool false, .bool false, .bool true, .bool false,
  .string nm3, .bool true, .bool false, .bool false, .bool false, .bool false, .bool false, .bool false,
  .string nm4, .bool true, .bool false, .bool false, .bool false, .bool false, .bool false, .bool false,
  .string nm5, .bool true, .bool true, .bool false, .bool false, .bool false, .bool false, .bool false,
  .string nm6, .bool true, .bool false, .bool false, .bool false, .bool false, .bool false, .bool false,
  .string nm7, .bool true, .bool true, .bool false, .bool false, .bool false, .bool false, .bool false,
  .string nm8, .bool true, .bool false, .bool false, .bool false, .bool false, .bool false, .bool false,
  .string nm9, .bool true, .bool false, .bool false, .bool false, .bool false, .bool false, .bool false,
  .string nm10, .bool true, .bool false, .bool false, .bool false, .bool false, .bool false, .bool true,
  .string nm11, .bool true, .bool false, .bool false, .bool false, .bool true, .bool false, .bool true,
  .string nm12, .bool true, .bool false, .bool false, .bool false, .bool true, .bool true, .bool false]
/-- The table stands in the heap. -/
def TabOp (w : World) : Prop := ∃ T fr, w.heap[0]? = some (.cells tabArr T fr)
theorem TabOp.cell {w : World} (h : TabOp w) (j : Nat) : w.cell? ⟨0, j, none⟩ = tabArr[j]? := by
  obtain ⟨T, fr, hh⟩ := h
  unfold World.cell?
  rw [hh]
  rfl
theorem tab_at (n : Nat) (hn : n < 13) : tabArr[n * 8]? = some (.string (opN n).nm) ∧ tabArr[n * 8 + 1]? = some (.bool (opN n).a) ∧ tabArr[n * 8 + 2]? = some (.bool (opN n).b) ∧ tabArr[n * 8 + 3]? = some (.bool (opN n).c) ∧ tabArr[n * 8 + 4]? = some (.bool (opN n).s) ∧ tabArr[n * 8 + 5]? = some (.bool (opN n).g) ∧ tabArr[n * 8 + 6]? = some (.bool (opN n).w) ∧ tabArr[n * 8 + 7]? = some (.bool (opN n).t) := by
  match n, hn with
  | 0, _ | 1, _ | 2, _ | 3, _ | 4, _ | 5, _ | 6, _ | 7, _ | 8, _ | 9, _ | 10, _ | 11, _ | 12, _ => exact ⟨rfl, rfl, rfl, rfl, rfl, rfl, rfl, rfl⟩
theorem tab_part (n : Nat) (hn : n < 13) : tabArr.extract (n * 8) (n * 8 + 8) = (opN n).arr := by
  match n, hn with
  | 0, _ | 1, _ | 2, _ | 3, _ | 4, _ | 5, _ | 6, _ | 7, _ | 8, _ | 9, _ | 10, _ | 11, _ | 12, _ => rfl
theorem TabOp.below {w w' : World} (h : TabOp w) (hB : Below w.heap.size w w') : TabOp w' := by
  obtain ⟨T, fr, hh⟩ := h
  have hlt : 0 < w.heap.size := by
    rcases Nat.lt_or_ge 0 w.heap.size with h' | h'
    · exact h'
    · rw [Array.getElem?_eq_none h'] at hh; cases hh
  exact ⟨T, fr, (hB.block _ hlt).trans hh⟩
/-- What is below a call, seen from further back. -/
theorem Below.on {B : Nat} {w w1 w2 : World} (h : Below B w w1) (hB : B ≤ w.heap.size) (h2 : Below w1.heap.size w1 w2) : Below B w w2 :=
  h.trans (h2.mono (Nat.le_trans hB h.size))
theorem below_new (w : World) (o : Obj) : Below w.heap.size w (w.alloc o) := (Below.refl _ _).alloc (Nat.le_refl _) o
theorem Blk.on {w w' : World} {b : Nat} {cs : Array Value} {T : TypeId} (h : Blk w b cs T) (hB : Below w.heap.size w w') : Blk w' b cs T :=
  h.turn (Turn.ofBelow hB) (fun e => absurd h.lt (Nat.not_lt.2 e))
/-- Is it 0 up to n - 1? -/
def inR (x n : Int) : Bool := decide (0 ≤ x) && decide (x < n)
theorem inR_iff {x n : Int} : inR x n = true ↔ 0 ≤ x ∧ x < n := by simp [inR]
theorem inR_not {x n : Int} : inR x n = false ↔ x < 0 ∨ n ≤ x := by
  rw [← Bool.not_eq_true, inR_iff]; omega
theorem opOf_yes {i : Int} (h : inR i 13 = true) : opOf i = opN i.toNat := by
  unfold opOf; rw [if_pos (inR_iff.1 h)]
theorem opOf_no {i : Int} (h : inR i 13 = false) : opOf i = noOp := by
  unfold opOf; rw [if_neg (fun e => by rw [inR_iff.2 e] at h; cases h)]
end Go.Proofs.YtdkakbddhckbnaaDoor
