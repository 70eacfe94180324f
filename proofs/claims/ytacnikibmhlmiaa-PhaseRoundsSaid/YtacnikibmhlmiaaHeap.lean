/- Plain: blocks of cells, what a call may have turned. It speaks of no program. -/
import Derived.Below
import Derived.Laws.BitsAllLaws
import Derived.Laws.LoneSync
import Derived.OneCell
import Derived.Deep.Draws
import Derived.Deep.QuietTactic
namespace Go.Proofs.Ytacnikibmhlmiaa
open Go Go.RowKit

/-- A block of cells that may be written. -/
def Blk (w : World) (b : Nat) (cs : Array Value) (T : TypeId) : Prop := w.heap[b]? = some (.cells cs T (0, 0))

theorem Blk.lt {w : World} {b : Nat} {cs : Array Value} {T : TypeId} (h : Blk w b cs T) : b < w.heap.size := lt_of_block h
theorem Blk.cell {w : World} {b : Nat} {cs : Array Value} {T : TypeId} (h : Blk w b cs T) (i : Nat) : w.cell? ⟨b, i, none⟩ = cs[i]? := by
  unfold Blk at h; simp [World.cell?, h]
theorem Blk.free {w : World} {b : Nat} {cs : Array Value} {T : TypeId} (h : Blk w b cs T) (i : Nat) : w.frozen? ⟨b, i, none⟩ = false := by
  unfold Blk at h; simp [World.frozen?, h]
theorem Blk.shape {w : World} {b : Nat} {cs : Array Value} {T : TypeId} (h : Blk w b cs T) : w.shape? b = some (T, cs.size) := by
  unfold Blk at h; simp [World.shape?, h]
theorem Blk.setAt {w : World} {b : Nat} {cs : Array Value} {T : TypeId} (h : Blk w b cs T) (i : Nat) (v : Value) : Blk (w.setCell ⟨b, i, none⟩ v) b (cs.setIfInBounds i v) T := by
  have hlt := h.lt
  have h' : w.heap[b] = .cells cs T (0, 0) := by unfold Blk at h; simpa [Array.getElem?_eq_getElem hlt] using h
  show (w.heap.modify b _)[b]? = _
  rw [Array.getElem?_eq_getElem (by simpa using hlt), Array.getElem_modify_self, h']
  rfl
theorem Blk.setOther {w : World} {b : Nat} {cs : Array Value} {T : TypeId} (h : Blk w b cs T) (a : Addr) (v : Value) (hne : b ≠ a.block) : Blk (w.setCell a v) b cs T := by
  unfold Blk at *; rw [Below.heap_setCell _ _ _ _ hne]; exact h
theorem Blk.alloc {w : World} {b : Nat} {cs : Array Value} {T : TypeId} (h : Blk w b cs T) (o : Obj) : Blk (w.alloc o) b cs T := by
  have hlt := h.lt
  unfold Blk at *; rw [Below.heap_alloc _ _ _ hlt]; exact h
theorem Blk.drew {w : World} {b : Nat} {cs : Array Value} {T : TypeId} (h : Blk w b cs T) : Blk w.drew b cs T := h
theorem Blk.drewN {w : World} {b : Nat} {cs : Array Value} {T : TypeId} (h : Blk w b cs T) (n : Nat) : Blk (w.drewN n) b cs T := h
theorem Blk.new (w : World) (cs : Array Value) (T : TypeId) : Blk (w.alloc (.cells cs T)) w.heap.size cs T := by
  show (w.heap.push _)[_]? = _
  simp
theorem Blk.is {w : World} {b : Nat} {cs cs' : Array Value} {T : TypeId} (h : Blk w b cs T) (e : cs = cs') : Blk w b cs' T := e ▸ h

theorem cell_setBlock {w : World} {a c : Addr} {v x : Value} (hc : w.cell? c = some x) (hne : c.block ≠ a.block) : (w.setCell a v).cell? c = some x :=
  (World.cell?_setCell_other _ a c _ (fun h => hne (by rw [h]))).trans hc
theorem cell_allocKeep {w : World} {c : Addr} {x : Value} (hc : w.cell? c = some x) (o : Obj) : (w.alloc o).cell? c = some x := by
  have hlt : c.block < w.heap.size := by
    unfold World.cell? at hc
    split at hc
    · rename_i h; exact lt_of_block h
    · cases hc
  rw [← hc]; exact World.cell?_of_block (w := w) (Below.heap_alloc w o _ hlt)

/-- What a call may have turned: blocks in M alone (and new ones). -/
structure Turn (M : Nat → Prop) (w w' : World) : Prop where
  os : w'.os = w.os
  tape : w'.tape = w.tape
  output : w'.output = w.output
  size : w.heap.size ≤ w'.heap.size
  block : ∀ k, k < w.heap.size → ¬ M k → w'.heap[k]? = w.heap[k]?

theorem Turn.refl (M : Nat → Prop) (w : World) : Turn M w w := ⟨rfl, rfl, rfl, Nat.le_refl _, fun _ _ _ => rfl⟩
theorem Turn.trans {M M' : Nat → Prop} {a b c : World} (h : Turn M a b) (k : Turn M' b c) (hm : ∀ i, i < a.heap.size → M' i → M i) : Turn M a c :=
  ⟨k.os.trans h.os, k.tape.trans h.tape, k.output.trans h.output, Nat.le_trans h.size k.size,
    fun i hi hn => (k.block i (Nat.lt_of_lt_of_le hi h.size) (fun x => hn (hm i hi x))).trans (h.block i hi hn)⟩
theorem Turn.mono {M M' : Nat → Prop} {w w' : World} (h : Turn M w w') (hm : ∀ i, i < w.heap.size → M i → M' i) : Turn M' w w' :=
  ⟨h.os, h.tape, h.output, h.size, fun i hi hn => h.block i hi (fun x => hn (hm i hi x))⟩
theorem Turn.set {M : Nat → Prop} {w w' : World} (h : Turn M w w') (a : Addr) (v : Value) (ha : w.heap.size ≤ a.block ∨ M a.block) : Turn M w (w'.setCell a v) :=
  ⟨h.os, h.tape, h.output, by simpa using h.size, fun i hi hn => by
    rw [Below.heap_setCell _ _ _ _ (fun e => ?_)]
    · exact h.block i hi hn
    · rcases ha with x | x
      · omega
      · exact hn (e ▸ x)⟩
theorem Turn.alloc {M : Nat → Prop} {w w' : World} (h : Turn M w w') (o : Obj) : Turn M w (w'.alloc o) :=
  ⟨h.os, h.tape, h.output, by have := h.size; simp; omega, fun i hi hn => by
    rw [Below.heap_alloc _ _ _ (by have := h.size; omega)]; exact h.block i hi hn⟩
theorem Turn.drew {M : Nat → Prop} {w w' : World} (h : Turn M w w') : Turn M w w'.drew := ⟨h.os, h.tape, h.output, h.size, h.block⟩
theorem Turn.drewN {M : Nat → Prop} {w w' : World} (h : Turn M w w') (n : Nat) : Turn M w (w'.drewN n) := ⟨h.os, h.tape, h.output, h.size, h.block⟩
theorem Turn.cell {M : Nat → Prop} {w w' : World} (h : Turn M w w') {a : Addr} (hlt : a.block < w.heap.size) (hn : ¬ M a.block) : w'.cell? a = w.cell? a :=
  World.cell?_of_block (w := w) (h.block _ hlt hn)
theorem Turn.below {M : Nat → Prop} {w w' : World} (h : Turn M w w') (B : Nat) (hB : B ≤ w.heap.size) (hm : ∀ k, k < B → ¬ M k) : Below B w w' :=
  ⟨h.os, h.tape, h.output, h.size, fun k hk => h.block k (by omega) (hm k hk)⟩
theorem Turn.ofBelow {B : Nat} {w w' : World} (h : Below B w w') : Turn (fun k => B ≤ k) w w' :=
  ⟨h.os, h.tape, h.output, h.size, fun k _ hn => h.block k (by omega)⟩
theorem Blk.turn {M : Nat → Prop} {w w' : World} {b : Nat} {cs : Array Value} {T : TypeId} (h : Blk w b cs T) (ht : Turn M w w') (hn : ¬ M b) : Blk w' b cs T := by
  have hlt := h.lt
  unfold Blk at *; rw [ht.block b hlt hn]; exact h

theorem quiet_left {P : Program} {f : FuncId} {args : Array Value} {w : World} {n : Nat} {v : Value}
    (h : Calls P f args (w.drewN n) fun e w' => e = .returned v ∧ w.drewN n = w') : Calls P f args (w.drewN n) fun e w'' => e = .returned v ∧ ∃ m, w'' = w.drewN m :=
  h.mono fun _ _ ⟨he, hm⟩ => ⟨he, n, hm.symm⟩

/-- The bit of number i in its word. -/
def bitN (i : Int) : Nat := 2 ^ (i % 64).toNat
theorem bitN_lt (i : Int) : bitN i < 18446744073709551616 := by
  unfold bitN
  have h : (i % 64).toNat ≤ 63 := by omega
  exact Nat.lt_of_le_of_lt (Nat.pow_le_pow_right (by decide) h) (by decide)
theorem bitN_wrap (i : Int) : IntKind.u64.wrap (2 ^ (i % 64).toNat) = ((bitN i : Nat) : Int) := by
  have h := bitN_lt i
  rw [IntKind.wrap_u64]
  have e : ((2 : Int) ^ (i % 64).toNat) = ((bitN i : Nat) : Int) := by unfold bitN; simp
  rw [e]; omega
theorem bitN_nat (i : Nat) : bitN (i : Int) = 2 ^ (i % 64) := by
  unfold bitN
  congr 1

theorem and_bit_eq (x i : Nat) (hx : x < 18446744073709551616) : (bits .and .u64 (x : Int) ((bitN i : Nat) : Int) == 0) = !x.testBit (i % 64) := by
  rw [u64_and_nat x (bitN i) hx (bitN_lt _), bitN_nat]
  have h : (x &&& 2 ^ (i % 64) == 0) = !x.testBit (i % 64) := by
    rw [nat_bit, Nat.testBit_eq_decide_div_mod_eq]
    have hp : 0 < 2 ^ (i % 64) := Nat.two_pow_pos _
    rcases Nat.mod_two_eq_zero_or_one (x / 2 ^ (i % 64)) with e | e
    · rw [e]; simp
    · rw [e]; simp
  rw [← h]
  rw [Bool.eq_iff_iff]
  simp only [beq_iff_eq]
  omega
theorem or_bit_test (x i j : Nat) : (x ||| bitN (i : Int)).testBit j = (x.testBit j || decide (j = i % 64)) := by
  rw [bitN_nat, Nat.testBit_or, Nat.testBit_two_pow]
  congr 1
  rw [Bool.eq_iff_iff]; simp; omega
theorem or_bit_lt (x i : Nat) (hx : x < 18446744073709551616) : x ||| bitN (i : Int) < 18446744073709551616 :=
  Nat.or_lt_two_pow (n := 64) hx (bitN_lt _)

/-- All bits but that of number i. -/
def notN (i : Int) : Nat := 2 ^ 64 - (bitN i + 1)
theorem notN_lt (i : Int) : notN i < 18446744073709551616 := by unfold notN; omega
theorem notN_test (i j : Nat) : (notN (i : Int)).testBit j = (decide (j < 64) && !decide (j = i % 64)) := by
  unfold notN
  rw [Nat.testBit_two_pow_sub_succ (bitN_lt _), bitN_nat, Nat.testBit_two_pow]
  congr 2
  rw [Bool.eq_iff_iff]; simp; omega
theorem xor_not (i : Nat) : bits .xor .u64 IntKind.u64.max ((bitN (i : Int) : Nat) : Int) = ((notN (i : Int) : Nat) : Int) := by
  have e : IntKind.u64.max = ((2 ^ 64 - (0 + 1) : Nat) : Int) := by decide
  rw [e, u64_xor_nat _ _ (by decide) (bitN_lt _)]
  congr 1
  apply Nat.eq_of_testBit_eq
  intro j
  rw [Nat.testBit_xor, Nat.testBit_two_pow_sub_succ (by decide), notN_test, bitN_nat, Nat.testBit_two_pow]
  by_cases h1 : j < 64
  · have e2 : decide (i % 64 = j) = decide (j = i % 64) := by rw [Bool.eq_iff_iff]; simp; omega
    simp [h1, e2]
  · have e2 : decide (i % 64 = j) = false := by simp; omega
    simp [h1, e2]

/-- 'and' with a mask that is not negative. -/
theorem i64_and_mask (x : Int) (m : Nat) (hm : m < 9223372036854775808) : ∃ r : Nat, r ≤ m ∧ bits .and .i64 x (m : Int) = (r : Int) := by
  refine ⟨(BitVec.ofInt 64 x).toNat &&& m, Nat.and_le_right, ?_⟩
  have h2 : (BitVec.ofInt 64 (m : Int)).toNat = m := by
    rw [BitVec.ofInt_natCast, BitVec.toNat_ofNat]; exact Nat.mod_eq_of_lt (by omega)
  show IntKind.i64.wrap ((BitVec.ofInt 64 x &&& BitVec.ofInt 64 (m : Int)).toNat : Int) = _
  rw [BitVec.toNat_and, h2]
  have h3 : (BitVec.ofInt 64 x).toNat &&& m ≤ m := Nat.and_le_right
  generalize (BitVec.ofInt 64 x).toNat &&& m = r at *
  simp [IntKind.wrap, IntKind.bits, IntKind.signed]
  omega

end Go.Proofs.Ytacnikibmhlmiaa
