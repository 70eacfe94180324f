/- Plain: blocks of cells, what a call may have turned. It speaks of no program. Plain: append of what a row holds, and where the new row lies. It speaks of no program. A row of references in the heap, and append of one, for stacks; at this seat's numbers. A stack with bounded room: New, Len, Over, Settle, Reset, Push, Pop; at this seat's numbers. Leaf functions of package bits at this seat's numbers. sync.Once's Do, done already and not yet, at this seat's numbers; the closure of lay. The closure of lay, Once.Do for the first time, at this seat's numbers. lay, find, New: sets whose numbers are below 4096, at this seat's numbers. A set in memory; Put, Has, Drop, at this seat's numbers. Has, Drop, and numbers that there are not, at this seat's numbers. -/
import Derived.Below
import Derived.Laws.BitsAllLaws
import Derived.Laws.LoneSync
import Derived.OneCell
import Derived.Deep.Draws
import Derived.Deep.QuietTactic
import Derived.Laws.AppendOwn
import Derived.OwnWalk
import Derived.WalkKit
import Derived.Test.YtidpmplkbgllfaaGreatDoorProg
import Derived.IntWalk
import Derived.Lib.Hide
import Derived.Deep.LoopGhost
import Derived.Deep.RegionHeld3
import Derived.Laws.OwnMore
import Derived.WalkSmall
import Derived.OwnWalkIn
import Derived.Test.YtidpmplkbgllfaaGreatDoorLocks
import Derived.Conc.MuLone
import Derived.Outline
import Derived.Defers
import Derived.WalkSpells
import Derived.WalkLawsBesides
import Derived.RegionCalls
import Derived.BigQuiet
import Derived.Conc.RwLoneW
namespace Go.Proofs.YtidpmplkbgllfaaGreatDoor
open Go Go.RowKit

/-- A block of cells that may be written. -/
def Blk (w : World) (b : Nat) (cs : Array Value) (T : TypeId) : Prop := w.heap[b]? = some (.cells cs T (0, 0))

theorem Blk.lt {w : World} {b : Nat} {cs : Array Value} {T : TypeId} (h : Blk w b cs T) : b < w.heap.size := lt_of_block h
theorem Blk.cell {w : World} {b : Nat} {cs : Array Value} {T : TypeId} (h : Blk w b cs T) (i : Nat) : w.cell? ⟨b, i, none⟩ = cs[i]? := by
  unfold Blk at h; simp [World.cell?, h]
theorem Blk.free {w : World} {b : Nat} {cs : Array Value} {T : TypeId} (h : Blk w b cs T) (i : Nat) : w.frozen? ⟨b, i, none⟩ = false := by
  unfold Blk at h; simp [World.frozen?, h]
theorem Blk.shape {w : World} {b : Nat} {cs : Array Value} {T : TypeId} (h : Blk w b cs T) : w.shape? b = some (T, cs.size) := by
  unfold Blk at h; simp [World.shape?, h]
theorem Blk.setAt {w : World} {b : Nat} {cs : Array Value} {T : TypeId} (h : Blk w b cs T) (i : Nat) (v : Value) : Blk (w.setCell ⟨b, i, none⟩ v) b (cs.setIfInBounds i v) T := by
  have hlt := h.lt
  have h' : w.heap[b] = .cells cs T (0, 0) := by unfold Blk at h; simpa [Array.getElem?_eq_getElem hlt] using h
  show (w.heap.modify b _)[b]? = _
  rw [Array.getElem?_eq_getElem (by simpa using hlt), Array.getElem_modify_self, h']
  rfl
theorem Blk.setOther {w : World} {b : Nat} {cs : Array Value} {T : TypeId} (h : Blk w b cs T) (a : Addr) (v : Value) (hne : b ≠ a.block) : Blk (w.setCell a v) b cs T := by
  unfold Blk at *; rw [Below.heap_setCell _ _ _ _ hne]; exact h
theorem Blk.alloc {w : World} {b : Nat} {cs : Array Value} {T : TypeId} (h : Blk w b cs T) (o : Obj) : Blk (w.alloc o) b cs T := by
  have hlt := h.lt
  unfold Blk at *; rw [Below.heap_alloc _ _ _ hlt]; exact h
theorem Blk.drew {w : World} {b : Nat} {cs : Array Value} {T : TypeId} (h : Blk w b cs T) : Blk w.drew b cs T := h
theorem Blk.drewN {w : World} {b : Nat} {cs : Array Value} {T : TypeId} (h : Blk w b cs T) (n : Nat) : Blk (w.drewN n) b cs T := h
theorem Blk.new (w : World) (cs : Array Value) (T : TypeId) : Blk (w.alloc (.cells cs T)) w.heap.size cs T := by
  show (w.heap.push _)[_]? = _
  simp
theorem Blk.is {w : World} {b : Nat} {cs cs' : Array Value} {T : TypeId} (h : Blk w b cs T) (e : cs = cs') : Blk w b cs' T := e ▸ h

theorem cell_setBlock {w : World} {a c : Addr} {v x : Value} (hc : w.cell? c = some x) (hne : c.block ≠ a.block) : (w.setCell a v).cell? c = some x :=
  (World.cell?_setCell_other _ a c _ (fun h => hne (by rw [h]))).trans hc
theorem cell_allocKeep {w : World} {c : Addr} {x : Value} (hc : w.cell? c = some x) (o : Obj) : (w.alloc o).cell? c = some x := by
  have hlt : c.block < w.heap.size := by
    unfold World.cell? at hc
    split at hc
    · rename_i h; exact lt_of_block h
    · cases hc
  rw [← hc]; exact World.cell?_of_block (w := w) (Below.heap_alloc w o _ hlt)

/-- What a call may have turned: blocks in M alone (and new ones). -/
structure Turn (M : Nat → Prop) (w w' : World) : Prop where
  os : w'.os = w.os
  tape : w'.tape = w.tape
  output : w'.output = w.output
  size : w.heap.size ≤ w'.heap.size
  block : ∀ k, k < w.heap.size → ¬ M k → w'.heap[k]? = w.heap[k]?

theorem Turn.refl (M : Nat → Prop) (w : World) : Turn M w w := ⟨rfl, rfl, rfl, Nat.le_refl _, fun _ _ _ => rfl⟩
theorem Turn.trans {M M' : Nat → Prop} {a b c : World} (h : Turn M a b) (k : Turn M' b c) (hm : ∀ i, i < a.heap.size → M' i → M i) : Turn M a c :=
  ⟨k.os.trans h.os, k.tape.trans h.tape, k.output.trans h.output, Nat.le_trans h.size k.size,
    fun i hi hn => (k.block i (Nat.lt_of_lt_of_le hi h.size) (fun x => hn (hm i hi x))).trans (h.block i hi hn)⟩
theorem Turn.mono {M M' : Nat → Prop} {w w' : World} (h : Turn M w w') (hm : ∀ i, i < w.heap.size → M i → M' i) : Turn M' w w' :=
  ⟨h.os, h.tape, h.output, h.size, fun i hi hn => h.block i hi (fun x => hn (hm i hi x))⟩
theorem Turn.set {M : Nat → Prop} {w w' : World} (h : Turn M w w') (a : Addr) (v : Value) (ha : w.heap.size ≤ a.block ∨ M a.block) : Turn M w (w'.setCell a v) :=
  ⟨h.os, h.tape, h.output, by simpa using h.size, fun i hi hn => by
    rw [Below.heap_setCell _ _ _ _ (fun e => ?_)]
    · exact h.block i hi hn
    · rcases ha with x | x
      · omega
      · exact hn (e ▸ x)⟩
theorem Turn.alloc {M : Nat → Prop} {w w' : World} (h : Turn M w w') (o : Obj) : Turn M w (w'.alloc o) :=
  ⟨h.os, h.tape, h.output, by have := h.size; simp; omega, fun i hi hn => by
    rw [Below.heap_alloc _ _ _ (by have := h.size; omega)]; exact h.block i hi hn⟩
theorem Turn.drew {M : Nat → Prop} {w w' : World} (h : Turn M w w') : Turn M w w'.drew := ⟨h.os, h.tape, h.output, h.size, h.block⟩
theorem Turn.drewN {M : Nat → Prop} {w w' : World} (h : Turn M w w') (n : Nat) : Turn M w (w'.drewN n) := ⟨h.os, h.tape, h.output, h.size, h.block⟩
theorem Turn.cell {M : Nat → Prop} {w w' : World} (h : Turn M w w') {a : Addr} (hlt : a.block < w.heap.size) (hn : ¬ M a.block) : w'.cell? a = w.cell? a :=
  World.cell?_of_block (w := w) (h.block _ hlt hn)
theorem Turn.below {M : Nat → Prop} {w w' : World} (h : Turn M w w') (B : Nat) (hB : B ≤ w.heap.size) (hm : ∀ k, k < B → ¬ M k) : Below B w w' :=
  ⟨h.os, h.tape, h.output, h.size, fun k hk => h.block k (by omega) (hm k hk)⟩
theorem Turn.ofBelow {B : Nat} {w w' : World} (h : Below B w w') : Turn (fun k => B ≤ k) w w' :=
  ⟨h.os, h.tape, h.output, h.size, fun k _ hn => h.block k (by omega)⟩
theorem Blk.turn {M : Nat → Prop} {w w' : World} {b : Nat} {cs : Array Value} {T : TypeId} (h : Blk w b cs T) (ht : Turn M w w') (hn : ¬ M b) : Blk w' b cs T := by
  have hlt := h.lt
  unfold Blk at *; rw [ht.block b hlt hn]; exact h

theorem quiet_left {P : Program} {f : FuncId} {args : Array Value} {w : World} {n : Nat} {v : Value}
    (h : Calls P f args (w.drewN n) fun e w' => e = .returned v ∧ w.drewN n = w') : Calls P f args (w.drewN n) fun e w'' => e = .returned v ∧ ∃ m, w'' = w.drewN m :=
  h.mono fun _ _ ⟨he, hm⟩ => ⟨he, n, hm.symm⟩

/-- The bit of number i in its word. -/
def bitN (i : Int) : Nat := 2 ^ (i % 64).toNat
theorem bitN_lt (i : Int) : bitN i < 18446744073709551616 := by
  unfold bitN
  have h : (i % 64).toNat ≤ 63 := by omega
  exact Nat.lt_of_le_of_lt (Nat.pow_le_pow_right (by decide) h) (by decide)
theorem bitN_wrap (i : Int) : IntKind.u64.wrap (2 ^ (i % 64).toNat) = ((bitN i : Nat) : Int) := by
  have h := bitN_lt i
  rw [IntKind.wrap_u64]
  have e : ((2 : Int) ^ (i % 64).toNat) = ((bitN i : Nat) : Int) := by unfold bitN; simp
  rw [e]; omega
theorem bitN_nat (i : Nat) : bitN (i : Int) = 2 ^ (i % 64) := by
  unfold bitN
  congr 1

theorem and_bit_eq (x i : Nat) (hx : x < 18446744073709551616) : (bits .and .u64 (x : Int) ((bitN i : Nat) : Int) == 0) = !x.testBit (i % 64) := by
  rw [u64_and_nat x (bitN i) hx (bitN_lt _), bitN_nat]
  have h : (x &&& 2 ^ (i % 64) == 0) = !x.testBit (i % 64) := by
    rw [nat_bit, Nat.testBit_eq_decide_div_mod_eq]
    have hp : 0 < 2 ^ (i % 64) := Nat.two_pow_pos _
    rcases Nat.mod_two_eq_zero_or_one (x / 2 ^ (i % 64)) with e | e
    · rw [e]; simp
    · rw [e]; simp
  rw [← h]
  rw [Bool.eq_iff_iff]
  simp only [beq_iff_eq]
  omega
theorem or_bit_test (x i j : Nat) : (x ||| bitN (i : Int)).testBit j = (x.testBit j || decide (j = i % 64)) := by
  rw [bitN_nat, Nat.testBit_or, Nat.testBit_two_pow]
  congr 1
  rw [Bool.eq_iff_iff]; simp; omega
theorem or_bit_lt (x i : Nat) (hx : x < 18446744073709551616) : x ||| bitN (i : Int) < 18446744073709551616 :=
  Nat.or_lt_two_pow (n := 64) hx (bitN_lt _)

/-- All bits but that of number i. -/
def notN (i : Int) : Nat := 2 ^ 64 - (bitN i + 1)
theorem notN_lt (i : Int) : notN i < 18446744073709551616 := by unfold notN; omega
theorem notN_test (i j : Nat) : (notN (i : Int)).testBit j = (decide (j < 64) && !decide (j = i % 64)) := by
  unfold notN
  rw [Nat.testBit_two_pow_sub_succ (bitN_lt _), bitN_nat, Nat.testBit_two_pow]
  congr 2
  rw [Bool.eq_iff_iff]; simp; omega
theorem xor_not (i : Nat) : bits .xor .u64 IntKind.u64.max ((bitN (i : Int) : Nat) : Int) = ((notN (i : Int) : Nat) : Int) := by
  have e : IntKind.u64.max = ((2 ^ 64 - (0 + 1) : Nat) : Int) := by decide
  rw [e, u64_xor_nat _ _ (by decide) (bitN_lt _)]
  congr 1
  apply Nat.eq_of_testBit_eq
  intro j
  rw [Nat.testBit_xor, Nat.testBit_two_pow_sub_succ (by decide), notN_test, bitN_nat, Nat.testBit_two_pow]
  by_cases h1 : j < 64
  · have e2 : decide (i % 64 = j) = decide (j = i % 64) := by rw [Bool.eq_iff_iff]; simp; omega
    simp [h1, e2]
  · have e2 : decide (i % 64 = j) = false := by simp; omega
    simp [h1, e2]

/-- 'and' with a mask that is not negative. -/
theorem i64_and_mask (x : Int) (m : Nat) (hm : m < 9223372036854775808) : ∃ r : Nat, r ≤ m ∧ bits .and .i64 x (m : Int) = (r : Int) := by
  refine ⟨(BitVec.ofInt 64 x).toNat &&& m, Nat.and_le_right, ?_⟩
  have h2 : (BitVec.ofInt 64 (m : Int)).toNat = m := by
    rw [BitVec.ofInt_natCast, BitVec.toNat_ofNat]; exact Nat.mod_eq_of_lt (by omega)
  show IntKind.i64.wrap ((BitVec.ofInt 64 x &&& BitVec.ofInt 64 (m : Int)).toNat : Int) = _
  rw [BitVec.toNat_and, h2]
  have h3 : (BitVec.ofInt 64 x).toNat &&& m ≤ m := Nat.and_le_right
  generalize (BitVec.ofInt 64 x).toNat &&& m = r at *
  simp [IntKind.wrap, IntKind.bits, IntKind.signed]
  omega

end Go.Proofs.YtidpmplkbgllfaaGreatDoor

namespace Go.Proofs.YtidpmplkbgllfaaGreatDoor
open Go Go.RowKit
set_option linter.unusedSimpArgs false
set_option linter.unusedVariables false

/-- append, of what a row holds: where the new row lies. -/
theorem run_append_atM {P : Program} (w : World) (t ty e : TypeId) (i : TypeInfo) (z : Value) (size bytes : Nat) (ht : P.underlying t = some (.slice e)) (hi : P.info? e = some i) (hz : i.zero = some z)
    (hsize : i.size = size) (hby : i.bytes = bytes) (hzs : z.cells.size = size) (v : Value) (n : Nat) (xs : List Value) (hown : w.ownsRow 0 e size v n xs)
    (a : Addr) (m c : Nat) (news : List Value) (hl : news.length = m * size) (hnews : ∀ j u, news[j]? = some u → w.cell? (a.add j) = some u) (h1 : ∀ u ∈ news, u.oneCell' = true) (hm : 0 < m)
    (h63 : n + m ≤ maxLen) (hbytes : (n + m) * bytes ≤ 140737488355328) :
    ∃ v' w', (Builtin.append_ #[t, t] ty #[v, .slice (some a) m c]).run P w = .ok v' w' ∧ w'.ownsRow 0 e size v' (n + m) (xs ++ news) ∧ w.grownBy w' v.ownBlock ∧ (∀ k, v'.ownBlock = some k → v.ownBlock = some k ∨ w.heap.size ≤ k) := by
  subst hsize
  subst hby
  have hsmall : n + m ≤ 9223372036854775807 := by simp only [maxLen] at h63; omega
  have hlen : (xs ++ news).length = (n + m) * i.size := by rw [List.length_append, hown.1, hl, Nat.add_mul]
  have grown : ∀ (old : Nat), old < n + m → ∀ (row : Option Nat),
      (w.drew.alloc (.cells (xs.toArray ++ news.toArray ++ Builtin.zeroCells z.cells (grownCap w (n + m) old e - (n + m))) e)).ownsRow 0 e i.size
        (.slice (some ⟨w.heap.size, 0, none⟩) (n + m) (grownCap w (n + m) old e)) (n + m) (xs ++ news) ∧
      w.grownBy (w.drew.alloc (.cells (xs.toArray ++ news.toArray ++ Builtin.zeroCells z.cells (grownCap w (n + m) old e - (n + m))) e)) row := by
    intro old ho row
    have hge := grownCap_ge w (n + m) old e
    have hcm : grownCap w (n + m) old e ≤ maxLen := grownCap_le_maxLen w (n + m) old e h63
    refine ⟨⟨hlen, .inr ⟨w.heap.size, _, _, rfl, Nat.zero_le _, heap_alloc_new w.drew _, hge, hcm, ?_, ?_⟩⟩, ⟨rfl, rfl, rfl, by simp, fun k hk _ => Below.heap_alloc w.drew _ k hk⟩⟩
    · simp only [Array.size_append, List.size_toArray, size_zeroCells, hzs, hown.1, hl, ← Nat.add_mul]
      congr 1
      omega
    · simp only [Array.toList_append, List.append_assoc]
      rw [← List.append_assoc, ← hlen]
      exact List.take_left
  rcases hown.2 with ⟨rfl, rfl⟩ | ⟨g, cap, cur, rfl, hbg, hg, hnc, hcm, hcs, htake⟩
  · have hx : xs = [] := List.eq_nil_of_length_eq_zero (by simpa using hown.1)
    subst hx
    have hr := run_append_nil (P := P) w t ty e i z ht hi hz a m c news hl hnews hm (by omega) (by have hb := hbytes; simp only [Nat.zero_add] at hb; omega)
    have hgr := grown 0 (by omega) (Value.ownBlock (.slice none 0 0))
    simp only [Nat.zero_add, List.nil_append, Array.empty_append] at hgr ⊢
    exact ⟨_, _, hr, hgr.1, hgr.2, fun k hk => .inr (by simp [Value.ownBlock] at hk; omega)⟩
  · by_cases hroom : n + m ≤ cap
    · obtain ⟨w', h2, h3, h4⟩ := run_append_fits (P := P) w 0 t ty e i i.size ht hi rfl g n cap xs hown a m c news hl hnews h1 hroom
      exact ⟨_, w', h2, h3, h4, fun k hk => .inl hk⟩
    · have holds : ∀ j u, xs[j]? = some u → w.cell? ((⟨g, 0, none⟩ : Addr).add j) = some u := hown.cells (g := g) rfl
      have hr := run_append_grow (P := P) w t ty e i z ht hi hz ⟨g, 0, none⟩ n cap xs hown.1 holds a m c news hl hnews (by omega) (by omega) (growslice_fits (by omega) hbytes)
      have hgr := grown cap (by omega) (Value.ownBlock (.slice (some ⟨g, 0, none⟩) n cap))
      exact ⟨_, _, hr, hgr.1, hgr.2, fun k hk => .inr (by simp [Value.ownBlock] at hk; omega)⟩
/-- .. and as the walk meets it. -/
theorem wpList_append_atM {P : Program} (w : World) {ops : Array Oper} {rest : List Oper} {o : Oper} {a : Act} {Q : Exit → Act → World → Prop} (hgd : o.guard = none) (s x : Operand) (t : TypeId)
    (ho : o.op = .call { callee := .builtin .append, args := #[s, x], argTypes := #[t, t] })
    (e : TypeId) (i : TypeInfo) (z : Value) (size bytes : Nat) (ht : P.underlying t = some (.slice e)) (hi : P.info? e = some i) (hz : i.zero = some z)
    (hsize : i.size = size) (hby : i.bytes = bytes) (hzs : z.cells.size = size) (v : Value) (n : Nat) (xs : List Value) (hs : a.eval s = v) (hown : w.ownsRow 0 e size v n xs)
    (ad : Addr) (m c : Nat) (news : List Value) (hx : a.eval x = .slice (some ad) m c) (hl : news.length = m * size) (hnews : ∀ j u, news[j]? = some u → w.cell? (ad.add j) = some u) (h1 : ∀ u ∈ news, u.oneCell' = true) (hm : 0 < m)
    (h63 : n + m ≤ maxLen) (hbytes : (n + m) * bytes ≤ 140737488355328)
    (h : ∀ v' w', w'.ownsRow 0 e size v' (n + m) (xs ++ news) → w.grownBy w' v.ownBlock → (∀ k, v'.ownBlock = some k → v.ownBlock = some k ∨ w.heap.size ≤ k) → wpList P ops Q rest (a.put o.dst v') w') : wpList P ops Q (o :: rest) a w :=
  wpList_plain hgd fun _ hK => by
    obtain ⟨v', w', hr, h2, h3, h4⟩ := run_append_atM (P := P) w t o.type e i z size bytes ht hi hz hsize hby hzs v n xs hown ad m c news hl hnews h1 hm h63 hbytes
    unfold Oper.wp execOp
    simp only [ho, resolve, invoke, builtin, Sem.run_bind, Sem.run_pure, Result.andThen_ok, List.map_toArray, List.map_cons, List.map_nil, hs, hx, hr]
    exact hK _ _ (h v' w' h2 h3 h4)
theorem Turn.ofGrownM {w w' : World} {row : Option Nat} (h : w.grownBy w' row) : Turn (fun k => row = some k) w w' := ⟨h.os, h.tape, h.output, h.size, fun k hk hn => h.block k hk (fun e => hn e.symm)⟩
end Go.Proofs.YtidpmplkbgllfaaGreatDoor

namespace Go.Proofs.YtidpmplkbgllfaaGreatDoor
open Go Go.RowKit
set_option linter.unusedSimpArgs false
set_option linter.unusedVariables false
attribute [local go_sem] Oper.semAt_some
theorem own_slice {g n cap k : Nat} (h : (Value.slice (some ⟨g, 0, none⟩) n cap).ownBlock = some k) : g = k := by simpa [Value.ownBlock] using h
/-- A row of references in the heap. -/
def RefRow (w : World) (v : Value) (l : List Int) : Prop := w.ownsRow 0 41 1 v l.length (l.map fun r => Value.int .i64 r)
theorem RefRow.is {w : World} {v : Value} {l : List Int} (h : RefRow w v l) : (v = .slice none 0 0 ∧ l = []) ∨ ∃ g cap cur, v = .slice (some ⟨g, 0, none⟩) l.length cap ∧ Blk w g cur 41 ∧ l.length ≤ cap ∧ cap ≤ 9223372036854775807 ∧ cur.size = cap ∧ ∀ k (hk : k < l.length), w.cell? ⟨g, k, none⟩ = some (.int .i64 l[k]) := by
  have h0 := h
  rcases h.2 with ⟨h1, h2⟩ | ⟨g, cap, cur, rfl, _, hg, hn, hm, hs, ht⟩
  · exact .inl ⟨h1, List.length_eq_zero_iff.1 h2⟩
  · refine .inr ⟨g, cap, cur, rfl, hg, hn, hm, by simpa using hs, fun k hk => ?_⟩
    have hc := World.ownsRow.cells h0 (g := g) rfl k (.int .i64 l[k]) (by simp [hk])
    rw [Addr.add_lit, Nat.zero_add] at hc
    exact hc
theorem RefRow.own {w : World} {v : Value} {l : List Int} (h : RefRow w v l) {k : Nat} (hk : v.ownBlock = some k) : ∃ cur, Blk w k cur 41 := by
  rcases h.is with ⟨rfl, _⟩ | ⟨g, cap, cur, rfl, hg, _⟩
  · cases hk
  · have : g = k := by simpa [Value.ownBlock] using hk
    subst this
    exact ⟨cur, hg⟩
theorem RefRow.turn {M : Nat → Prop} {w w' : World} {v : Value} {l : List Int} (h : RefRow w v l) (hT : Turn M w w') (hn : ∀ k, v.ownBlock = some k → ¬ M k) : RefRow w' v l := by
  refine ⟨h.1, ?_⟩
  rcases h.2 with h1 | ⟨g, cap, cur, rfl, hb, hg, rest⟩
  · exact .inl h1
  · exact .inr ⟨g, cap, cur, rfl, hb, (hT.block g (Array.getElem?_eq_some_iff.1 hg).1 (hn g rfl)).trans hg, rest⟩
theorem RefRow.lenRun {w : World} {v : Value} {l : List Int} (h : RefRow w v l) (ty : TypeId) (W : World) : (Builtin.len_ #[28] ty #[v]).run Tryz.prog W = .ok (.int .i64 (l.length : Int)) W := by
  rcases h.is with ⟨rfl, rfl⟩ | ⟨g, cap, cur, rfl, _⟩
  · kernel_rfl
  · simp [go_sem, Builtin.len_]
theorem infoRefT : (Tryz.prog.info? 41).map (fun i => (i.zero, i.size, i.bytes)) = some (some (.int .i64 0), 1, 8) := by kernel_rfl
/-- append of one. -/
theorem wpList_pushT {ops : Array Oper} {rest : List Oper} {o : Oper} {a : Act} {Q : Exit → Act → World → Prop} {v : Value} {l : List Int} {w : World} (hgd : o.guard = none) (s x : Operand)
    (ho : o.op = .call { callee := .builtin .append, args := #[s, x], argTypes := #[28, 28] }) (h : RefRow w v l) (hl : l.length ≤ 100000) (ad c : Nat) (r : Int) (hr : w.cell? ⟨ad, 0, none⟩ = some (.int .i64 r))
    (hs : a.eval s = v) (hx : a.eval x = .slice (some ⟨ad, 0, none⟩) 1 c) (hK : ∀ g n cap w', RefRow w' (.slice (some ⟨g, 0, none⟩) n cap) (l ++ [r]) → Turn (fun k => v.ownBlock = some k) w w' → (v.ownBlock = some g ∨ w.heap.size ≤ g) → wpList Tryz.prog ops Q rest (a.put o.dst (.slice (some ⟨g, 0, none⟩) n cap)) w') : wpList Tryz.prog ops Q (o :: rest) a w := by
  obtain ⟨i0, hi, hz0, hz1, hz2⟩ := info_parts infoRefT
  refine wpList_append_atM w hgd s x 28 ho 41 i0 (.int .i64 0) 1 8 Tryz.underlying28 hi hz0 hz1 hz2 rfl v l.length _ hs h ⟨ad, 0, none⟩ 1 c [.int .i64 r] hx rfl (fun j u hj => by
    match j, hj with
    | 0, hj => simp at hj; subst hj; simpa [Addr.add] using hr) (fun u hu => by simp at hu; subst hu; rfl) (by decide) (by unfold maxLen; omega) (by omega) fun v' w' h2 h3 h4 => ?_
  have hR : RefRow w' v' (l ++ [r]) := by
    unfold RefRow
    rw [List.length_append, List.map_append]
    exact h2
  rcases hR.is with ⟨_, e⟩ | ⟨g, cap, cur, rfl, _⟩
  · simp at e
  · exact hK g _ cap w' hR (Turn.ofGrownM h3) (h4 g rfl)

theorem RefRow.ofBlk {w : World} {g : Nat} {l : List Int} (h : Blk w g (l.map fun r => Value.int .i64 r).toArray 41) (hl : l.length ≤ 9223372036854775807) : RefRow w (.slice (some ⟨g, 0, none⟩) l.length l.length) l :=
  ⟨by simp, .inr ⟨g, l.length, _, rfl, Nat.zero_le _, h, Nat.le_refl _, by unfold maxLen; omega, by simp, by simp only [Nat.mul_one]; exact List.take_of_length_le (by simp)⟩⟩
theorem RefRow.less {w : World} {g cap : Nat} {q : List Int} {y : Int} (h : RefRow w (.slice (some ⟨g, 0, none⟩) (q.length + 1) cap) (q ++ [y])) : RefRow w (.slice (some ⟨g, 0, none⟩) q.length cap) q := by
  unfold RefRow at h
  rw [List.length_append, List.map_append] at h
  exact ownsRow_pop (last := [.int .i64 y]) (by simp) h
/-- append of one, in a fence. -/
theorem wpListIn_pushT {F : Fence} {n0 : Nat} {ops : Array Oper} {rest : List Oper} {o : Oper} {a : Act} {Q : Exit → Act → World → Prop} {v : Value} {l : List Int} {w : World} (hgd : o.guard = none) (s x : Operand)
    (ho : o.op = .call { callee := .builtin .append, args := #[s, x], argTypes := #[28, 28] }) (h : RefRow w v l) (hl : l.length ≤ 100000) (ad c : Nat) (r : Int) (hr : w.cell? ⟨ad, 0, none⟩ = some (.int .i64 r))
    (hs : a.eval s = v) (hx : a.eval x = .slice (some ⟨ad, 0, none⟩) 1 c) (hK : ∀ g n cap w', RefRow w' (.slice (some ⟨g, 0, none⟩) n cap) (l ++ [r]) → Turn (fun k => v.ownBlock = some k) w w' → (v.ownBlock = some g ∨ w.heap.size ≤ g) → wpListIn F n0 Tryz.prog ops Q rest (a.put o.dst (.slice (some ⟨g, 0, none⟩) n cap)) w') : wpListIn F n0 Tryz.prog ops Q (o :: rest) a w := by
  obtain ⟨i0, hi, hz0, hz1, hz2⟩ := info_parts infoRefT
  refine wpListIn_plain hgd fun K hK' => ?_
  obtain ⟨v', w', hrun, h2, h3, h4⟩ := run_append_atM (P := Tryz.prog) w 28 o.type 41 i0 (.int .i64 0) 1 8 Tryz.underlying28 hi hz0 hz1 hz2 rfl v l.length _ h ⟨ad, 0, none⟩ 1 c [.int .i64 r] rfl (fun j u hj => by
    match j, hj with
    | 0, hj => simp at hj; subst hj; simpa [Addr.add] using hr) (fun u hu => by simp at hu; subst hu; rfl) (by decide) (by unfold maxLen; omega) (by omega)
  have hR : RefRow w' v' (l ++ [r]) := by
    unfold RefRow
    rw [List.length_append, List.map_append]
    exact h2
  rcases hR.is with ⟨_, e⟩ | ⟨g, cap, cur, rfl, _⟩
  · simp at e
  · have e1 : (l ++ [r]).length = l.length + 1 := by simp
    rw [e1] at hR hrun
    unfold Oper.wpIn
    refine ⟨?_, ?_⟩
    · simp [Oper.about, ho, resolve, Target.leads, Sem.run_pure]
    · rw [Oper.semAt_plain F _ _ (by rw [ho]; intro c hc'; cases hc')]
      simp [execOp, ho, resolve, invoke, builtin, hs, hx, hrun, Result.andThen]
      exact hK' _ _ (hK g _ cap w' hR (Turn.ofGrownM h3) (h4 g rfl))

theorem RefRow.lt {w : World} {v : Value} {l : List Int} (h : RefRow w v l) {k : Nat} (hk : v.ownBlock = some k) : k < w.heap.size := by
  obtain ⟨cs, hb⟩ := h.own hk
  exact hb.lt
theorem blkT {w : World} {b : Nat} {cs cs' : Array Value} {X X' : TypeId} (h : Blk w b cs X) (h' : Blk w b cs' X') (hne : X ≠ X') : False := by
  unfold Blk at h h'
  rw [h] at h'
  injection h' with h2
  injection h2 with _ h3
  exact hne h3
end Go.Proofs.YtidpmplkbgllfaaGreatDoor

namespace Go.Proofs.YtidpmplkbgllfaaGreatDoor
open Go Go.RowKit
set_option linter.unusedSimpArgs false
set_option linter.unusedVariables false
attribute [local go_sem] Oper.semAt_some

/-- A stack's blocks: itself, and the slice of its references. -/
structure GrB where
  s : Nat
  vk : Value
def GrB.has (T : GrB) (k : Nat) : Prop := k = T.s ∨ T.vk.ownBlock = some k
structure GrAt (w : World) (T : GrB) (room : Int) (st : List Int) (ov : Bool) : Prop where
  head : Blk w T.s #[.int .i64 room, T.vk, .bool ov] 118
  stk : RefRow w T.vk st
/-- What a call on a stack has turned. -/
structure GrStep (T : GrB) (w : World) (T' : GrB) (w' : World) : Prop where
  s : T'.s = T.s
  new : ∀ k, T'.has k → T.has k ∨ w.heap.size ≤ k
  turn : Turn T.has w w'
section
variable {w w' : World} {T : GrB} {room : Int} {st : List Int} {ov : Bool}
theorem GrAt.lt (h : GrAt w T room st ov) : ∀ k, T.has k → k < w.heap.size := by
  rintro k (rfl | e)
  · exact h.head.lt
  · exact h.stk.lt e
theorem GrAt.turn {M : Nat → Prop} (h : GrAt w T room st ov) (hT : Turn M w w') (hn : ∀ k, T.has k → ¬ M k) : GrAt w' T room st ov :=
  ⟨h.head.turn hT (hn _ (.inl rfl)), h.stk.turn hT (fun k e => hn k (.inr e))⟩
theorem GrAt.below (h : GrAt w T room st ov) (hB : Below w.heap.size w w') : GrAt w' T room st ov :=
  h.turn (Turn.ofBelow hB) (fun k hk e => by have := h.lt k hk; omega)
theorem GrAt.sk (h : GrAt w T room st ov) : T.vk.ownBlock ≠ some T.s := fun e => by
  obtain ⟨_, hb⟩ := h.stk.own e
  exact blkT hb h.head (by decide)
theorem GrAt.c0 (h : GrAt w T room st ov) : w.cell? ⟨T.s, 0, none⟩ = some (.int .i64 room) := h.head.cell 0
theorem GrAt.c1 (h : GrAt w T room st ov) : w.cell? ⟨T.s, 1, none⟩ = some T.vk := h.head.cell 1
theorem GrAt.c2 (h : GrAt w T room st ov) : w.cell? ⟨T.s, 2, none⟩ = some (.bool ov) := h.head.cell 2
theorem GrAt.drew (h : GrAt w T room st ov) : GrAt w.drew T room st ov := h.turn ((Turn.refl (fun _ => False) w).drew) (fun _ _ h => h)

theorem grNew (room : Int) (w : World) : Calls Tryz.prog 33 #[.int .i64 room] w fun e w' =>
    ∃ T, e = .returned (.pointer (some ⟨T.s, 0, none⟩)) ∧ GrAt w' T room [] false ∧ (∀ k, T.has k → w.heap.size ≤ k) ∧ Below w.heap.size w w' := by
  go_enter Tryz.func33, Tryz.ntmps33
  go_wp2_with fail
  go_ret
  refine ⟨⟨w.heap.size, .slice none 0 0⟩, rfl, ⟨Blk.new w _ _, World.ownsRow_nil _ _ _ _⟩, ?_, (Below.refl _ w).alloc (Nat.le_refl _) _⟩
  rintro k (rfl | e)
  · exact Nat.le_refl _
  · cases e
end
end Go.Proofs.YtidpmplkbgllfaaGreatDoor

namespace Go.Proofs.YtidpmplkbgllfaaGreatDoor
open Go.RowKit

theorem ret_u64 {a b : Int} (h : a = b) : Ending.returned (.int .u64 a) = .returned (.int .u64 b) := by rw [h]
theorem ret_i64 {a b : Int} (h : a = b) : Ending.returned (.int .i64 a) = .returned (.int .i64 b) := by rw [h]

theorem knows_yes (b : Nat) (n i : Int) (w : World) (h0 : w.cell? ⟨b, 0, none⟩ = some (.int .i64 n)) (hi : 0 ≤ i) (hn : i < n) :
    Calls Tryz.prog 61 #[.pointer (some ⟨b, 0, none⟩), .int .i64 i] w fun e w' => e = .returned (.bool true) ∧ w = w' := by
  go_enter Tryz.func61, Tryz.ntmps61
  go_wp2
  go_ret
  exact ⟨rfl, rfl⟩

theorem knows_no (b : Nat) (n i : Int) (w : World) (h0 : w.cell? ⟨b, 0, none⟩ = some (.int .i64 n)) (hi : i < 0 ∨ n ≤ i) :
    Calls Tryz.prog 61 #[.pointer (some ⟨b, 0, none⟩), .int .i64 i] w fun e w' => e = .returned (.bool false) ∧ w = w' := by
  by_cases h : i < 0
  · have h' : ¬ (0 ≤ i) := by omega
    go_enter Tryz.func61, Tryz.ntmps61
    go_wp2
    go_ret
    exact ⟨rfl, rfl⟩
  · have h' : decide (i < n) = false := by simp; omega
    have h'' : 0 ≤ i := by omega
    clear hi h
    go_enter Tryz.func61, Tryz.ntmps61
    go_wp2
    go_ret
    exact ⟨by simp, rfl⟩

theorem bitOf_any (i : Int) (w : World) (h0 : 0 ≤ i) :
    Calls Tryz.prog 64 #[.int .i64 i] w fun e w' => e = .returned (.int .u64 ((bitN i : Nat) : Int)) ∧ w = w' := by
  go_enter Tryz.func64, Tryz.ntmps64
  go_wp2
  go_ret
  exact ⟨ret_u64 (bitN_wrap i), rfl⟩

theorem part_zero (i : Int) (w : World) (h0 : 0 ≤ i) (h1 : i < 4096) :
    Calls Tryz.prog 89 #[.int .i64 0, .int .i64 i] w fun e w' => e = .returned (.int .i64 (i / 64)) ∧ w = w' := by
  go_enter Tryz.func89, Tryz.ntmps89
  go_wp2
  go_ret
  exact ⟨ret_i64 (by omega), rfl⟩

theorem heightFor_zero (n : Int) (w : World) (h0 : 0 ≤ n) (h1 : n ≤ 4096) :
    Calls Tryz.prog 53 #[.int .i64 n] w fun e w' => e = .returned (.int .i64 0) ∧ w = w' := by
  have hf : ¬ (0 < (n - 1) / 4096) := by omega
  go_enter Tryz.func53, Tryz.ntmps53
  go_wp2
  refine wp_loop_rounds 1 ?_
  rw [rounds_succ]
  go_wp2
  go_ret
  exact ⟨rfl, rfl⟩

theorem uload_any (a : Addr) (x : Int) (w : World) (hc : w.cell? a = some (.int .u64 x)) :
    Calls Tryz.prog 68 #[.pointer (some a)] w fun e w' => e = .returned (.int .u64 x) ∧ w = w' := by
  have hl := run_call_load (P := Tryz.prog) Tryz.func92 (by kernel_rfl) (by kernel_rfl) (by kernel_rfl) .u64 (by kernel_rfl) hc
  go_enter Tryz.func68, Tryz.ntmps68
  go_wp2
  go_ret
  exact ⟨rfl, rfl⟩

theorem run_call_bits {P : Program} {f : FuncId} {fn : Func} (op : BinOp) (hf : P.funcs[f]? = some fn) (hname : (fn.name == "runtime.NumGoroutine") = false) (hb : fn.body.isNone = true) (hn : Extern.findNext fn = none) (k : IntKind)
    (he : Extern.find fn = some (Extern.Atomic.update (Op.intBits op) k false)) {a : Addr} {x y s : Int} {w : World} (hc : w.cell? a = some (.int k x)) (hz : w.frozen? a = false)
    (hs : (Op.intBits op k x y).run P w = .ok (.int k s) w) :
    (callFunc f #[.pointer (some a), .int k y]).run P w = .ok (.value (.int k x)) (w.setCell a (.int k s)) := by
  rw [run_callFunc_extern hf hname hb hn he]
  change (Sem.run P (do
    let a' ← asAddr (.pointer (some a))
    let old ← Extern.Atomic.read (.int k) a'
    let new ← Op.intBits op k (← asInt old) (← asInt (.int k y))
    store a' new .atomic
    pure (if false = true then new else old)) w).andThen _ = _
  simp [Extern.Atomic.read, asAddr, asInt, asIntOf, hc, hz, hs, run_store P w a (.int k s) .atomic rfl, Result.andThen]

theorem uor_any (a : Addr) (x y : Nat) (w : World) (hx : x < 18446744073709551616) (hy : y < 18446744073709551616) (hc : w.cell? a = some (.int .u64 x)) (hz : w.frozen? a = false) :
    Calls Tryz.prog 66 #[.pointer (some a), .int .u64 y] w fun e w' => e = .returned (.int .u64 x) ∧ w.setCell a (.int .u64 ((x ||| y : Nat) : Int)) = w' := by
  have hl := run_call_bits (P := Tryz.prog) .or Tryz.func91 (by kernel_rfl) (by kernel_rfl) (by kernel_rfl) .u64 (by kernel_rfl) (y := y) (s := ((x ||| y : Nat) : Int)) hc hz (by rw [← u64_or_nat x y hx hy]; rfl)
  clear hx hy
  go_enter Tryz.func66, Tryz.ntmps66
  go_wp2
  go_ret
  exact ⟨rfl, rfl⟩

theorem uand_any (a : Addr) (x y : Nat) (w : World) (hx : x < 18446744073709551616) (hy : y < 18446744073709551616) (hc : w.cell? a = some (.int .u64 x)) (hz : w.frozen? a = false) :
    Calls Tryz.prog 95 #[.pointer (some a), .int .u64 y] w fun e w' => e = .returned (.int .u64 x) ∧ w.setCell a (.int .u64 ((x &&& y : Nat) : Int)) = w' := by
  have hl := run_call_bits (P := Tryz.prog) .and Tryz.func105 (by kernel_rfl) (by kernel_rfl) (by kernel_rfl) .u64 (by kernel_rfl) (y := y) (s := ((x &&& y : Nat) : Int)) hc hz (by rw [← u64_and_nat x y hx hy]; rfl)
  clear hx hy
  go_enter Tryz.func95, Tryz.ntmps95
  go_wp2
  go_ret
  exact ⟨rfl, rfl⟩

theorem run_call_loadp {P : Program} {f : FuncId} {fn : Func} (hf : P.funcs[f]? = some fn) (hname : (fn.name == "runtime.NumGoroutine") = false) (hb : fn.body.isNone = true) (hn : Extern.findNext fn = none)
    (he : Extern.find fn = some (Extern.Atomic.loadT .ptr)) {a : Addr} {x : Option Addr} {w : World} (hc : w.cell? a = some (.pointer x)) :
    (callFunc f #[.pointer (some a)]).run P w = .ok (.value (.pointer x)) w := by
  rw [run_callFunc_extern hf hname hb hn he]
  change (Sem.run P (do Extern.Atomic.read .ptr (← asAddr (.pointer (some a)))) w).andThen _ = _
  simp [Extern.Atomic.read, asAddr, hc, Result.andThen]

theorem run_call_storep {P : Program} {f : FuncId} {fn : Func} (hf : P.funcs[f]? = some fn) (hname : (fn.name == "runtime.NumGoroutine") = false) (hb : fn.body.isNone = true) (hn : Extern.findNext fn = none)
    (he : Extern.find fn = some Extern.Atomic.storeT) {a : Addr} {y : Option Addr} {u : Value} {w : World} (hc : w.cell? a = some u) (hz : w.frozen? a = false) :
    (callFunc f #[.pointer (some a), .pointer y]).run P w = .ok (.value (.tuple #[])) (w.setCell a (.pointer y)) := by
  rw [run_callFunc_extern hf hname hb hn he]
  change (Sem.run P (do
    store (← asAddr (.pointer (some a))) (.pointer y) .atomic
    pure Extern.Atomic.none_) w).andThen _ = _
  simp [asAddr, hc, hz, run_store P w a (.pointer y) .atomic rfl, Result.andThen, Extern.Atomic.none_]

theorem run_from_unsafe0 {P : Program} {src dst u e : TypeId} {cells : Nat} (a : Addr) (hs : P.underlying src = some .unsafePointer) (hd : P.underlying dst = some (.pointer u)) (hu : (P.info? u).isSome = true) (w : World)
    (hsh : w.shape? a.block = some (e, cells)) (hlies : liesAt P P.depth e (cells / P.cellsOf e) a.off u 1 = true) :
    (convert src dst (.pointer (some a))).run P w = .ok (.pointer (some a)) w := by
  obtain ⟨j, hj⟩ := Option.isSome_iff_exists.1 hu
  simp [convert, run_underlying hs, run_underlying hd, Conv.unsafePointer, Conv.seenAt, viewAt, hsh, variablesAt, hlies, sizeOf, typeInfo, hj]

theorem pload_nil (a : Addr) (w : World) (hc : w.cell? a = some (.pointer none)) :
    Calls Tryz.prog 88 #[.pointer (some a)] w fun e w' => e = .returned (.pointer none) ∧ w = w' := by
  have hl := run_call_loadp (P := Tryz.prog) Tryz.func104 (by kernel_rfl) (by kernel_rfl) (by kernel_rfl) (by kernel_rfl) hc
  have hcv : ∀ w : World, (convert 106 104 (.pointer none)).run Tryz.prog w = .ok (.pointer none) w := fun _ => by kernel_rfl
  go_enter Tryz.func88, Tryz.ntmps88
  go_wp2
  go_ret
  exact ⟨rfl, rfl⟩

theorem pload_some (a : Addr) (lb : Nat) (w : World) (hc : w.cell? a = some (.pointer (some ⟨lb, 0, none⟩))) (hsh : w.shape? lb = some (150, 64)) :
    Calls Tryz.prog 88 #[.pointer (some a)] w fun e w' => e = .returned (.pointer (some ⟨lb, 0, none⟩)) ∧ w = w' := by
  have hl := run_call_loadp (P := Tryz.prog) Tryz.func104 (by kernel_rfl) (by kernel_rfl) (by kernel_rfl) (by kernel_rfl) hc
  have hcv := run_from_unsafe0 (P := Tryz.prog) (src := 106) (dst := 104) (u := 150) (e := 150) (cells := 64) ⟨lb, 0, none⟩ Tryz.underlying106 Tryz.underlying104 (by kernel_rfl) w hsh (by kernel_rfl)
  go_enter Tryz.func88, Tryz.ntmps88
  go_wp2
  go_ret
  exact ⟨rfl, rfl⟩

theorem pstore_some (a : Addr) (y : Value) (lb : Nat) (z : Value) (w : World) (hc : w.cell? a = some y) (hz : w.frozen? a = false) (hl : w.cell? ⟨lb, 0, none⟩ = some z) :
    Calls Tryz.prog 86 #[.pointer (some a), .pointer (some ⟨lb, 0, none⟩)] w fun e w' => e = .returned (.tuple #[]) ∧ w.setCell a (.pointer (some ⟨lb, 0, none⟩)) = w' := by
  have hcv := run_convert_to_unsafe (P := Tryz.prog) (src := 104) (dst := 106) Tryz.underlying104 Tryz.underlying106 (by kernel_rfl) hl
  have hst := run_call_storep (P := Tryz.prog) Tryz.func103 (by kernel_rfl) (by kernel_rfl) (by kernel_rfl) (by kernel_rfl) (y := some ⟨lb, 0, none⟩) hc hz
  go_enter Tryz.func86, Tryz.ntmps86
  go_wp2
  go_end0
  exact ⟨rfl, rfl⟩
end Go.Proofs.YtidpmplkbgllfaaGreatDoor

namespace Go.Proofs.YtidpmplkbgllfaaGreatDoor
open Go.RowKit Go.MuLone

theorem b32_true (w : World) : Calls Tryz.prog 114 #[.bool true] w fun e w' => e = .returned (.int .u32 1) ∧ w = w' := by
  go_enter Tryz.func114, Tryz.ntmps114
  go_wp2
  go_ret
  exact ⟨rfl, rfl⟩

theorem boolload_any (a : Addr) (x : Int) (w : World) (hc : w.cell? a = some (.int .u32 x)) (v : Bool) (hv : (x != 0) = v) :
    Calls Tryz.prog 101 #[.pointer (some a)] w fun e w' => e = .returned (.bool v) ∧ w = w' := by
  have hl := run_call_load (P := Tryz.prog) Tryz.func107 (by kernel_rfl) (by kernel_rfl) (by kernel_rfl) .u32 (by kernel_rfl) hc
  go_enter Tryz.func101, Tryz.ntmps101
  go_wp2
  go_ret
  exact ⟨by simp, rfl⟩

theorem store_deferred (a : Addr) (x : Value) (u : FrameMode) (w : World) (hc : w.cell? a = some x) (hz : w.frozen? a = false) :
    CallsD Tryz.prog 110 #[.pointer (some a), .bool true] u w fun e u' w' => u' = u ∧ (e = .returned (.tuple #[]) ∧ w' = w.drew.setCell a (.int .u32 1)) := by
  have hc' : w.drew.cell? a = some x := by go_simp
  have hz' : w.drew.frozen? a = false := by go_simp
  have hst := run_call_store (P := Tryz.prog) Tryz.func113 (by kernel_rfl) (by kernel_rfl) (by kernel_rfl) (by kernel_rfl) (k := .u32) (y := 1) hc' hz'
  go_enter_d Tryz.func110, Tryz.ntmps110
  go_wp2
  go_region_calls
  all_goals (go_end0; exact ⟨rfl, rfl⟩)

/-- Do, done already. -/
theorem do_done (a : Addr) (fv : Value) (w : World) (h0 : w.cell? a = some (.int .u32 1)) :
    Calls Tryz.prog 84 #[.pointer (some a), fv] w fun e w' => e = .returned (.tuple #[]) ∧ w = w' := by
  have hnot : ∀ (x : Bool) (w : World), (Op.unary .not (.bool x)).run Tryz.prog w = .ok (.bool (!x)) w := fun _ _ => rfl
  go_enter Tryz.func84, Tryz.ntmps84
  go_wp2_with (go_at_call 101; refine (boolload_any _ 1 _ h0 true rfl).mono ?_; rintro e w' ⟨rfl, rfl⟩)
  go_end0
  exact ⟨rfl, rfl⟩
end Go.Proofs.YtidpmplkbgllfaaGreatDoor

namespace Go.Proofs.YtidpmplkbgllfaaGreatDoor
open Go.RowKit Go.MuLone

/-- A set's thirteen cells: n, height; the lock (its mutex' state lw, its readers' count rc); the once (done d, its mutex' state os); the leaf, the kids. -/
def setArr (n lw rc d os : Int) (l : Option Addr) : Array Value :=
  #[.int .i64 n, .int .i64 0, .int .i32 lw, .int .u32 0, .int .u32 0, .int .u32 0, .int .i32 rc, .int .i32 0, .int .u32 d, .int .i32 os, .int .u32 0, .pointer l, .pointer none]
def zeros64 : Array Value := Array.replicate 64 (.int .u64 0)

theorem lay1_any (hb ab b : Nat) (n lw rc d os : Int) (l : Option Addr) (w : World) (h0 : w.cell? ⟨hb, 0, none⟩ = some (.int .i64 0)) (h1 : w.cell? ⟨ab, 0, none⟩ = some (.pointer (some ⟨b, 8, none⟩)))
    (hB : Blk w b (setArr n lw rc d os l) 116) :
    Calls Tryz.prog 85 #[.pointer (some ⟨hb, 0, none⟩), .pointer (some ⟨ab, 0, none⟩)] w fun e w' => e = .returned (.tuple #[]) ∧
      (w.alloc (.cells zeros64 150)).setCell ⟨b, 11, none⟩ (.pointer (some ⟨w.heap.size, 0, none⟩)) = w' := by
  have hB1 := hB.alloc (.cells zeros64 150)
  have hc : (w.alloc (.cells zeros64 150)).cell? ⟨b, 11, none⟩ = some (.pointer l) := hB1.cell 11
  have hz : (w.alloc (.cells zeros64 150)).frozen? ⟨b, 11, none⟩ = false := hB1.free 11
  have hl : (w.alloc (.cells zeros64 150)).cell? ⟨w.heap.size, 0, none⟩ = some (.int .u64 0) := (Blk.new w zeros64 150).cell 0
  clear hB hB1
  go_enter Tryz.func85, Tryz.ntmps85
  go_wp2_with fail
  refine (pstore_some ⟨b, 11, none⟩ (.pointer l) w.heap.size (.int .u64 0) _ hc hz hl).mono ?_
  rintro e w' ⟨rfl, rfl⟩
  go_wp2
  go_end0
  exact ⟨rfl, rfl⟩

set_option maxRecDepth 100000 in
set_option maxHeartbeats 1600000 in
theorem slow_first (hb ab b : Nat) (n lw rc : Int) (w : World) (hhb : hb ≠ b) (hab : ab ≠ b) (h0 : w.cell? ⟨hb, 0, none⟩ = some (.int .i64 0)) (h1 : w.cell? ⟨ab, 0, none⟩ = some (.pointer (some ⟨b, 8, none⟩)))
    (hB : Blk w b (setArr n lw rc 0 0 none) 116) :
    Calls Tryz.prog 102 #[.pointer (some ⟨b, 8, none⟩), .func (.func 85) #[] #[.pointer (some ⟨hb, 0, none⟩), .pointer (some ⟨ab, 0, none⟩)]] w fun e w' => e = .returned (.tuple #[]) ∧
      Blk w' b (setArr n lw rc 1 0 (some ⟨w.heap.size, 0, none⟩)) 116 ∧ Blk w' w.heap.size zeros64 150 ∧ Turn (· = b) w w' ∧ w'.heap.size = w.heap.size + 1 := by
  have hnot : ∀ (x : Bool) (w : World), (Op.unary .not (.bool x)).run Tryz.prog w = .ok (.bool (!x)) w := fun _ _ => rfl
  have hB1 : Blk (w.setCell ⟨b, 9, none⟩ (.int .i32 1)) b (setArr n lw rc 0 1 none) 116 := hB.setAt 9 _
  have k0 : (w.setCell ⟨b, 9, none⟩ (.int .i32 1)).cell? ⟨hb, 0, none⟩ = some (.int .i64 0) := cell_setBlock h0 hhb
  have k1 : (w.setCell ⟨b, 9, none⟩ (.int .i32 1)).cell? ⟨ab, 0, none⟩ = some (.pointer (some ⟨b, 8, none⟩)) := cell_setBlock h1 hab
  have c8 : (w.setCell ⟨b, 9, none⟩ (.int .i32 1)).cell? ⟨b, 8, none⟩ = some (.int .u32 0) := hB1.cell 8
  have c9 : w.cell? ⟨b, 9, none⟩ = some (.int .i32 0) := hB.cell 9
  have z9 : w.frozen? ⟨b, 9, none⟩ = false := hB.free 9
  clear h0 h1
  go_enter_defers Tryz.func102, Tryz.ntmps102
  go_wp2_with fail
  refine (lock_free Tryz.muLib ⟨b, 9, none⟩ _ c9 z9).mono ?_
  rintro e w' ⟨rfl, rfl⟩
  go_wp2_with fail
  refine (boolload_any _ 0 _ c8 false rfl).mono ?_
  rintro e w' ⟨rfl, rfl⟩
  go_wp2_with fail
  refine (lay1_any hb ab b n lw rc 0 1 none _ k0 k1 hB1).mono ?_
  rintro e w' ⟨rfl, rfl⟩
  go_wp2_with fail
  have hB2 : Blk (((w.setCell ⟨b, 9, none⟩ (.int .i32 1)).alloc (.cells zeros64 150)).setCell ⟨b, 11, none⟩ (.pointer (some ⟨w.heap.size, 0, none⟩))) b (setArr n lw rc 0 1 (some ⟨w.heap.size, 0, none⟩)) 116 := (hB1.alloc _).setAt 11 _
  have hL2 : Blk (((w.setCell ⟨b, 9, none⟩ (.int .i32 1)).alloc (.cells zeros64 150)).setCell ⟨b, 11, none⟩ (.pointer (some ⟨w.heap.size, 0, none⟩))) w.heap.size zeros64 150 := by
    have := Blk.new (w.setCell ⟨b, 9, none⟩ (.int .i32 1)) zeros64 150
    rw [World.size_setCell] at this
    exact this.setOther _ _ (by have := hB.lt; simp; omega)
  have hT2 : Turn (· = b) w (((w.setCell ⟨b, 9, none⟩ (.int .i32 1)).alloc (.cells zeros64 150)).setCell ⟨b, 11, none⟩ (.pointer (some ⟨w.heap.size, 0, none⟩))) :=
    (((Turn.refl (fun k => k = b) w).set _ _ (.inr rfl)).alloc _).set _ _ (.inr rfl)
  have hs2 : (((w.setCell ⟨b, 9, none⟩ (.int .i32 1)).alloc (.cells zeros64 150)).setCell ⟨b, 11, none⟩ (.pointer (some ⟨w.heap.size, 0, none⟩))).heap.size = w.heap.size + 1 := by simp
  generalize (((w.setCell ⟨b, 9, none⟩ (.int .i32 1)).alloc (.cells zeros64 150)).setCell ⟨b, 11, none⟩ (.pointer (some ⟨w.heap.size, 0, none⟩))) = w2 at *
  have hlb : w.heap.size ≠ b := by have := hB.lt; omega
  -- THE DOOR
  refine leaves_cons (f := 110) (args := #[.pointer (some ⟨b, 8, none⟩), .bool true]) (by simp) (by simp [go_sem]) ?_
  refine (store_deferred ⟨b, 8, none⟩ (.int .u32 0) .returning _ (hB2.cell 8) (hB2.free 8)).mono ?_
  rintro e u' w'' ⟨rfl, rfl, rfl⟩
  have hB3 : Blk (w2.drew.setCell ⟨b, 8, none⟩ (.int .u32 1)) b (setArr n lw rc 1 1 (some ⟨w.heap.size, 0, none⟩)) 116 := hB2.drew.setAt 8 _
  refine leaves_cons (f := 109) (args := #[.pointer (some ⟨b, 9, none⟩)]) (by simp [settle]) (by simp [go_sem]) ?_
  refine (unlock_deferred Tryz.muLib ⟨b, 9, none⟩ _ _ (hB3.cell 9) (hB3.free 9)).mono ?_
  rintro e u' w'' ⟨rfl, rfl, rfl⟩
  refine ⟨_, results_none rfl _ _ _, rfl, ?_⟩
  exact ⟨hB3.setAt 9 _, (hL2.drew.setOther _ _ hlb).setOther _ _ hlb, (hT2.drew.set _ _ (.inr rfl)).set _ _ (.inr rfl), by simp [hs2]⟩

/-- Do, for the first time. -/
theorem do_first (hb ab b : Nat) (n lw rc : Int) (w : World) (hhb : hb ≠ b) (hab : ab ≠ b) (h0 : w.cell? ⟨hb, 0, none⟩ = some (.int .i64 0)) (h1 : w.cell? ⟨ab, 0, none⟩ = some (.pointer (some ⟨b, 8, none⟩)))
    (hB : Blk w b (setArr n lw rc 0 0 none) 116) :
    Calls Tryz.prog 84 #[.pointer (some ⟨b, 8, none⟩), .func (.func 85) #[] #[.pointer (some ⟨hb, 0, none⟩), .pointer (some ⟨ab, 0, none⟩)]] w fun e w' => e = .returned (.tuple #[]) ∧
      Blk w' b (setArr n lw rc 1 0 (some ⟨w.heap.size, 0, none⟩)) 116 ∧ Blk w' w.heap.size zeros64 150 ∧ Turn (· = b) w w' ∧ w'.heap.size = w.heap.size + 1 := by
  have hnot : ∀ (x : Bool) (w : World), (Op.unary .not (.bool x)).run Tryz.prog w = .ok (.bool (!x)) w := fun _ _ => rfl
  have c8 : w.cell? ⟨b, 8, none⟩ = some (.int .u32 0) := hB.cell 8
  go_enter Tryz.func84, Tryz.ntmps84
  go_wp2_with fail
  refine (boolload_any _ 0 _ c8 false rfl).mono ?_
  rintro e w' ⟨rfl, rfl⟩
  go_wp2_with fail
  refine (slow_first hb ab b n lw rc _ hhb hab h0 h1 hB).mono ?_
  rintro e w' ⟨rfl, hQ⟩
  go_wp2_with fail
  go_end0
  exact ⟨rfl, hQ⟩
end Go.Proofs.YtidpmplkbgllfaaGreatDoor

namespace Go.Proofs.YtidpmplkbgllfaaGreatDoor
open Go.RowKit Go.MuLone

theorem ret_ptr {l a b : Nat} (h : a = b) : Ending.returned (.pointer (some ⟨l, a, none⟩)) = .returned (.pointer (some ⟨l, b, none⟩)) := by rw [h]

/-- the lay of a word where the leaf lies already -/
theorem lay_again (b l : Nat) (n lw rc : Int) (ws : Array Value) (hws : ws.size = 64) (i : Int) (hi0 : 0 ≤ i) (hi1 : i < 4096) (w : World)
    (hB : Blk w b (setArr n lw rc 1 0 (some ⟨l, 0, none⟩)) 116) (hL : Blk w l ws 150) :
    Calls Tryz.prog 65 #[.pointer (some ⟨b, 8, none⟩), .int .i64 0, .int .i64 i] w fun e w' => e = .returned (.pointer (some ⟨l, (i / 64).toNat, none⟩)) ∧ Turn (fun _ => False) w w' := by
  have hmf : ∀ (fn : Fn) (first cap : Array Value) (w : World), (Instr.makeFunc fn first cap).run Tryz.prog w = .ok (.func fn first cap) w := fun _ _ _ _ => rfl
  have d0 : 0 ≤ i / 64 := by omega
  have d1 : i / 64 < 64 := by omega
  go_enter Tryz.func65, Tryz.ntmps65
  go_wp2_with fail
  refine (do_done _ _ _ (((hB.alloc _).alloc _).cell 8)).mono ?_
  rintro e w' ⟨rfl, rfl⟩
  have e0 := cell_allocKeep (Blk.new w #[.pointer (some ⟨b, 8, none⟩)] 144 |>.cell 0) (.cells #[.int .i64 0] 3)
  have e1 := (Blk.new (w.alloc (.cells #[.pointer (some ⟨b, 8, none⟩)] 144)) #[.int .i64 0] 3).cell 0
  have hB1 := (hB.alloc (.cells #[.pointer (some ⟨b, 8, none⟩)] 144)).alloc (.cells #[.int .i64 0] 3)
  have hL1 := (hL.alloc (.cells #[.pointer (some ⟨b, 8, none⟩)] 144)).alloc (.cells #[.int .i64 0] 3)
  have hT := ((Turn.refl (fun _ => False) w).alloc (.cells #[.pointer (some ⟨b, 8, none⟩)] 144)).alloc (.cells #[.int .i64 0] 3)
  rw [World.size_alloc] at e1
  generalize ((w.alloc (.cells #[.pointer (some ⟨b, 8, none⟩)] 144)).alloc (.cells #[.int .i64 0] 3)) = w1 at *
  replace e0 : w1.cell? ⟨w.heap.size, 0, none⟩ = some (.pointer (some ⟨b, 8, none⟩)) := e0
  replace e1 : w1.cell? ⟨w.heap.size + 1, 0, none⟩ = some (.int .i64 0) := e1
  go_wp2_with fail
  go_quiet (first | (go_at_call 88; exact quiet_left (pload_some _ l _ ((hB1.drewN _).cell 11) (by rw [(hL1.drewN _).shape, hws]))) | (go_at_call 89; exact quiet_left (part_zero i _ hi0 hi1)))
  go_wp2
  go_ret
  exact ⟨rfl, hT.drewN _⟩

/-- the first word: the leaf is laid -/
theorem lay_first (b : Nat) (n lw rc : Int) (i : Int) (hi0 : 0 ≤ i) (hi1 : i < 4096) (w : World)
    (hB : Blk w b (setArr n lw rc 0 0 none) 116) :
    Calls Tryz.prog 65 #[.pointer (some ⟨b, 8, none⟩), .int .i64 0, .int .i64 i] w fun e w' => ∃ l, w.heap.size ≤ l ∧ e = .returned (.pointer (some ⟨l, (i / 64).toNat, none⟩)) ∧
      Blk w' b (setArr n lw rc 1 0 (some ⟨l, 0, none⟩)) 116 ∧ Blk w' l zeros64 150 ∧ Turn (fun k => k = b) w w' := by
  have hmf : ∀ (fn : Fn) (first cap : Array Value) (w : World), (Instr.makeFunc fn first cap).run Tryz.prog w = .ok (.func fn first cap) w := fun _ _ _ _ => rfl
  have d0 : 0 ≤ i / 64 := by omega
  have d1 : i / 64 < 64 := by omega
  have hb := hB.lt
  go_enter Tryz.func65, Tryz.ntmps65
  go_wp2_with fail
  have e0 := cell_allocKeep (Blk.new w #[.pointer (some ⟨b, 8, none⟩)] 144 |>.cell 0) (.cells #[.int .i64 0] 3)
  have e1 := (Blk.new (w.alloc (.cells #[.pointer (some ⟨b, 8, none⟩)] 144)) #[.int .i64 0] 3).cell 0
  have hB1 := (hB.alloc (.cells #[.pointer (some ⟨b, 8, none⟩)] 144)).alloc (.cells #[.int .i64 0] 3)
  have hT := ((Turn.refl (fun k => k = b) w).alloc (.cells #[.pointer (some ⟨b, 8, none⟩)] 144)).alloc (.cells #[.int .i64 0] 3)
  have hs : ((w.alloc (.cells #[.pointer (some ⟨b, 8, none⟩)] 144)).alloc (.cells #[.int .i64 0] 3)).heap.size = w.heap.size + 2 := by simp
  rw [World.size_alloc] at e1
  generalize ((w.alloc (.cells #[.pointer (some ⟨b, 8, none⟩)] 144)).alloc (.cells #[.int .i64 0] 3)) = w1 at *
  replace e0 : w1.cell? ⟨w.heap.size, 0, none⟩ = some (.pointer (some ⟨b, 8, none⟩)) := e0
  replace e1 : w1.cell? ⟨w.heap.size + 1, 0, none⟩ = some (.int .i64 0) := e1
  refine (do_first (w.heap.size + 1) w.heap.size b n lw rc _ (by omega) (by omega) e1 e0 hB1).mono ?_
  rintro e w2 ⟨rfl, hB2, hL2, hT2, hs2⟩
  replace e0 : w2.cell? ⟨w.heap.size, 0, none⟩ = some (.pointer (some ⟨b, 8, none⟩)) := (hT2.cell (a := ⟨w.heap.size, 0, none⟩) (by simp; omega) (by simp; omega)).trans e0
  replace e1 : w2.cell? ⟨w.heap.size + 1, 0, none⟩ = some (.int .i64 0) := (hT2.cell (a := ⟨w.heap.size + 1, 0, none⟩) (by simp; omega) (by simp; omega)).trans e1
  have hT3 := hT.trans hT2 (fun _ _ h => h)
  have hle : w.heap.size ≤ w1.heap.size := hT.size
  clear hT2 hT hB1 hs2
  clear hs
  generalize w1.heap.size = l at *
  go_wp2_with fail
  go_quiet (first | (go_at_call 88; exact quiet_left (pload_some _ l _ ((hB2.drewN _).cell 11) ((hL2.drewN _).shape))) | (go_at_call 89; exact quiet_left (part_zero i _ hi0 hi1)))
  go_wp2
  go_ret
  exact ⟨l, hle, rfl, hB2.drewN _, hL2.drewN _, hT3.drewN _⟩

/-- find, where nothing is laid -/
theorem find_nil (b : Nat) (n lw rc : Int) (i : Int) (w : World) (hB : Blk w b (setArr n lw rc 0 0 none) 116) :
    Calls Tryz.prog 67 #[.pointer (some ⟨b, 8, none⟩), .int .i64 0, .int .i64 i] w fun e w' => e = .returned (.pointer none) ∧ w = w' := by
  go_enter Tryz.func67, Tryz.ntmps67
  go_wp2_with fail
  refine (pload_nil _ _ (hB.cell 11)).mono ?_
  rintro e w' ⟨rfl, rfl⟩
  go_wp2_with fail
  go_ret
  exact ⟨rfl, rfl⟩

/-- find, where the leaf is laid -/
theorem find_some (b l : Nat) (n lw rc : Int) (ws : Array Value) (hws : ws.size = 64) (i : Int) (hi0 : 0 ≤ i) (hi1 : i < 4096) (w : World) (hB : Blk w b (setArr n lw rc 1 0 (some ⟨l, 0, none⟩)) 116) (hL : Blk w l ws 150) :
    Calls Tryz.prog 67 #[.pointer (some ⟨b, 8, none⟩), .int .i64 0, .int .i64 i] w fun e w' => e = .returned (.pointer (some ⟨l, (i / 64).toNat, none⟩)) ∧ Turn (fun _ => False) w w' := by
  have d0 : 0 ≤ i / 64 := by omega
  have d1 : i / 64 < 64 := by omega
  go_enter Tryz.func67, Tryz.ntmps67
  go_wp2_with fail
  refine (pload_some _ l _ (hB.cell 11) (by rw [hL.shape, hws])).mono ?_
  rintro e w' ⟨rfl, rfl⟩
  go_wp2_with fail
  go_quiet ((go_at_call 89; exact quiet_left (part_zero i _ hi0 hi1)))
  go_wp2
  go_ret
  exact ⟨rfl, (Turn.refl _ w).drewN _⟩

/-- New, of fewer than 4096 numbers -/
theorem new_any (n : Int) (hn : n ≤ 4096) (w : World) :
    Calls Tryz.prog 31 #[.int .i64 n] w fun e w' => ∃ b, w.heap.size ≤ b ∧ e = .returned (.pointer (some ⟨b, 0, none⟩)) ∧ Blk w' b (setArr (n.toNat : Nat) 0 0 0 0 none) 116 ∧ Turn (fun _ => False) w w' := by
  by_cases h : 0 ≤ n
  · obtain ⟨m, rfl⟩ := Int.eq_ofNat_of_zero_le h
    have h4 : (m : Int) ≤ 4096 := hn
    clear hn
    go_enter Tryz.func31, Tryz.ntmps31
    go_wp2_with fail
    refine (heightFor_zero _ _ (by omega) (by omega)).mono ?_
    rintro e w' ⟨rfl, rfl⟩
    go_wp2_with fail
    go_ret
    exact ⟨w.heap.size, Nat.le_refl _, rfl, Blk.new w _ _, (Turn.refl _ w).alloc _⟩
  · have h' : n < 0 := by omega
    have e0 : n.toNat = 0 := by omega
    rw [e0]
    clear hn h e0
    go_enter Tryz.func31, Tryz.ntmps31
    go_wp2_with fail
    refine (heightFor_zero _ _ (by omega) (by omega)).mono ?_
    rintro e w' ⟨rfl, rfl⟩
    go_wp2_with fail
    go_ret
    exact ⟨w.heap.size, Nat.le_refl _, rfl, Blk.new w _ _, (Turn.refl _ w).alloc _⟩

end Go.Proofs.YtidpmplkbgllfaaGreatDoor

namespace Go.Proofs.YtidpmplkbgllfaaGreatDoor
open Go.RowKit Go.MuLone Go.RwLone

/-- The words of a set. -/
def WordsOf (ws : Array Value) (S : Nat → Bool) : Prop :=
  ws.size = 64 ∧ ∀ k, k < 64 → ∃ x : Nat, x < 18446744073709551616 ∧ ws[k]? = some (.int .u64 x) ∧ ∀ j, j < 64 → x.testBit j = S (64 * k + j)

/-- A set of numbers below n in block b; its leaf, if it is laid, in another block; its lock's two words. -/
def SetIn (w : World) (b : Nat) (lo : Option Nat) (n : Nat) (lw rc : Int) (S : Nat → Bool) : Prop :=
  match lo with
  | none => Blk w b (setArr n lw rc 0 0 none) 116 ∧ ∀ i, S i = false
  | some l => Blk w b (setArr n lw rc 1 0 (some ⟨l, 0, none⟩)) 116 ∧ l ≠ b ∧ ∃ ws, Blk w l ws 150 ∧ WordsOf ws S

theorem SetIn.blk {w : World} {b : Nat} {lo : Option Nat} {n : Nat} {lw rc : Int} {S : Nat → Bool} (h : SetIn w b lo n lw rc S) :
    ∃ d l, Blk w b (setArr n lw rc d 0 l) 116 := by
  cases lo with
  | none => exact ⟨_, _, h.1⟩
  | some l => exact ⟨_, _, h.1⟩

theorem zeros_words {S : Nat → Bool} (h : ∀ i, S i = false) : WordsOf zeros64 S :=
  ⟨by simp [zeros64], fun k hk => ⟨0, by decide, by simp [zeros64, hk], fun j _ => by simp [h]⟩⟩

/-- A word in which a number was put. -/
theorem WordsOf.put {ws : Array Value} {S : Nat → Bool} (h : WordsOf ws S) (i : Nat) (x : Nat) (hx : ws[i / 64]? = some (.int .u64 x)) :
    WordsOf (ws.setIfInBounds (i / 64) (.int .u64 ((x ||| bitN (i : Int) : Nat) : Int))) (fun j => S j || decide (j = i)) := by
  refine ⟨by simp [h.1], fun k hk => ?_⟩
  obtain ⟨y, hy, hw, hb⟩ := h.2 k hk
  by_cases e : k = i / 64
  · subst e
    rw [hx] at hw
    have exy : x = y := by have := (by simpa using hw : (x : Int) = (y : Int)); omega
    subst exy
    refine ⟨x ||| bitN (i : Int), or_bit_lt x i hy, ?_, fun j hj => ?_⟩
    · rw [Array.getElem?_setIfInBounds_self]
      simp [h.1]; omega
    · rw [or_bit_test, hb j hj]
      congr 1
      rw [Bool.eq_iff_iff]; simp; omega
  · refine ⟨y, hy, ?_, fun j hj => ?_⟩
    · rw [Array.getElem?_setIfInBounds_ne (by omega)]; exact hw
    · have e1 : decide (64 * k + j = i) = false := by simp; omega
      show y.testBit j = (S (64 * k + j) || decide (64 * k + j = i))
      rw [hb j hj, e1, Bool.or_false]

/-- A word out of which a number was dropped. -/
theorem WordsOf.drop {ws : Array Value} {S : Nat → Bool} (h : WordsOf ws S) (i : Nat) (x : Nat) (hx : ws[i / 64]? = some (.int .u64 x)) :
    WordsOf (ws.setIfInBounds (i / 64) (.int .u64 ((x &&& notN (i : Int) : Nat) : Int))) (fun j => S j && !decide (j = i)) := by
  refine ⟨by simp [h.1], fun k hk => ?_⟩
  obtain ⟨y, hy, hw, hb⟩ := h.2 k hk
  by_cases e : k = i / 64
  · subst e
    rw [hx] at hw
    have exy : x = y := by have := (by simpa using hw : (x : Int) = (y : Int)); omega
    subst exy
    refine ⟨x &&& notN (i : Int), Nat.lt_of_le_of_lt Nat.and_le_left hy, ?_, fun j hj => ?_⟩
    · rw [Array.getElem?_setIfInBounds_self]
      simp [h.1]; omega
    · rw [Nat.testBit_and, notN_test, hb j hj]
      have e1 : decide (j < 64) = true := by simpa using hj
      rw [e1, Bool.true_and]
      congr 2
      rw [Bool.eq_iff_iff]; simp; omega
  · refine ⟨y, hy, ?_, fun j hj => ?_⟩
    · rw [Array.getElem?_setIfInBounds_ne (by omega)]; exact hw
    · have e1 : decide (64 * k + j = i) = false := by simp; omega
      show y.testBit j = (S (64 * k + j) && !decide (64 * k + j = i))
      rw [hb j hj, e1, Bool.not_false, Bool.and_true]

/-- What lay leaves. -/
def LayPost (b : Nat) (lo : Option Nat) (n : Nat) (lw rc : Int) (S : Nat → Bool) (i : Nat) (w : World) (e : Ending) (w' : World) : Prop :=
  ∃ l, e = .returned (.pointer (some ⟨l, i / 64, none⟩)) ∧ SetIn w' b (some l) n lw rc S ∧ (lo = some l ∨ lo = none ∧ w.heap.size ≤ l) ∧ Turn (fun k => k = b) w w'

theorem lay_any (b : Nat) (lo : Option Nat) (n : Nat) (lw rc : Int) (S : Nat → Bool) (i : Nat) (hi1 : i < 4096) (w : World) (hS : SetIn w b lo n lw rc S) :
    Calls Tryz.prog 65 #[.pointer (some ⟨b, 8, none⟩), .int .i64 0, .int .i64 i] w (LayPost b lo n lw rc S i w) := by
  have ei : ((i : Int) / 64).toNat = i / 64 := by omega
  cases lo with
  | none =>
    refine (lay_first b n lw rc i (by omega) (by omega) w hS.1).mono ?_
    rintro e w' ⟨l, hl, rfl, hB, hL, hT⟩
    exact ⟨l, by rw [ei], ⟨hB, by have := hS.1.lt; omega, zeros64, hL, zeros_words hS.2⟩, .inr ⟨rfl, hl⟩, hT⟩
  | some l =>
    obtain ⟨hB, hne, ws, hL, hw⟩ := hS
    refine (lay_again b l n lw rc ws hw.1 i (by omega) (by omega) w hB hL).mono ?_
    rintro e w' ⟨rfl, hT⟩
    exact ⟨l, by rw [ei], ⟨hB.turn hT (fun h => h), hne, ws, hL.turn hT (fun h => h), hw⟩, .inl rfl, hT.mono (fun _ _ h => h.elim)⟩

theorem wrap32_up : wrap32 (0 + 1) = 1 := by simp [wrap32]
theorem wrap32_down : wrap32 (1 + -1) = 0 := by simp [wrap32]

/-- A set of numbers below n, its lock free. -/
def SetAt (w : World) (b : Nat) (lo : Option Nat) (n : Nat) (S : Nat → Bool) : Prop :=
  n ≤ 4096 ∧ (∀ i, S i = true → i < n) ∧ SetIn w b lo n 0 0 S

theorem SetIn.turn {M : Nat → Prop} {w w' : World} {b : Nat} {lo : Option Nat} {n : Nat} {lw rc : Int} {S : Nat → Bool} (h : SetIn w b lo n lw rc S) (ht : Turn M w w') (hb : ¬ M b) (hl : ∀ l, lo = some l → ¬ M l) : SetIn w' b lo n lw rc S := by
  cases lo with
  | none => exact ⟨h.1.turn ht hb, h.2⟩
  | some l =>
    obtain ⟨h1, h2, ws, h3, h4⟩ := h
    exact ⟨h1.turn ht hb, h2, ws, h3.turn ht (hl l rfl), h4⟩
theorem SetAt.turn {M : Nat → Prop} {w w' : World} {b : Nat} {lo : Option Nat} {n : Nat} {S : Nat → Bool} (h : SetAt w b lo n S) (ht : Turn M w w') (hb : ¬ M b) (hl : ∀ l, lo = some l → ¬ M l) : SetAt w' b lo n S :=
  ⟨h.1, h.2.1, h.2.2.turn ht hb hl⟩

/-- The readers' count of a set's lock is written. -/
theorem SetIn.rc {w : World} {b : Nat} {lo : Option Nat} {n : Nat} {lw rc : Int} {S : Nat → Bool} (h : SetIn w b lo n lw rc S) (rc' : Int) : SetIn (w.setCell ⟨b, 6, none⟩ (.int .i32 rc')) b lo n lw rc' S := by
  cases lo with
  | none => exact ⟨h.1.setAt 6 _, h.2⟩
  | some l =>
    obtain ⟨h1, h2, ws, h3, h4⟩ := h
    exact ⟨h1.setAt 6 _, h2, ws, h3.setOther _ _ h2, h4⟩

/-- What a change of one number leaves: r, and the set S'. -/
def TurnPost (b : Nat) (lo : Option Nat) (n : Nat) (r : Bool) (S' : Nat → Bool) (w : World) (e : Ending) (w' : World) : Prop :=
  ∃ lo', e = .returned (.bool r) ∧ SetAt w' b lo' n S' ∧ (lo' = lo ∨ lo = none ∧ ∃ l, lo' = some l ∧ w.heap.size ≤ l) ∧ Turn (fun k => k = b ∨ lo = some k) w w'

set_option maxRecDepth 100000 in
set_option maxHeartbeats 1600000 in
theorem put_yes (b : Nat) (lo : Option Nat) (n : Nat) (S : Nat → Bool) (i : Nat) (w : World) (hi : i < n) (hA : SetAt w b lo n S) :
    Calls Tryz.prog 39 #[.pointer (some ⟨b, 0, none⟩), .int .i64 i] w
      (TurnPost b lo n (!S i) (fun j => S j || decide (j = i)) w) := by
  obtain ⟨hn, hSn, hS⟩ := hA
  obtain ⟨d, l0, hB⟩ := hS.blk
  have c2 : w.cell? ⟨b, 2, none⟩ = some (.int .i32 0) := hB.cell 2
  have c5 : w.cell? ⟨b, 5, none⟩ = some (.int .u32 0) := hB.cell 5
  have c6 : w.cell? ⟨b, 6, none⟩ = some (.int .i32 0) := hB.cell 6
  have z6 : w.frozen? ⟨b, 6, none⟩ = false := hB.free 6
  have hS1 := hS.rc 1
  have hT1 : Turn (fun k => k = b) w (w.setCell ⟨b, 6, none⟩ (.int .i32 1)) := (Turn.refl (fun k => k = b) w).set _ _ (.inr rfl)
  go_enter_defers Tryz.func39, Tryz.ntmps39
  go_wp2_with fail
  refine (knows_yes b n i _ (hB.cell 0) (by omega) (by omega)).mono ?_
  rintro e w' ⟨rfl, rfl⟩
  go_wp2_with fail
  refine (rlock_open Tryz.rwRLib b 2 0 _ _ _ c2 c5 c6 z6 (by rw [wrap32_up]; decide)).mono ?_
  rintro e w' ⟨rfl, rfl⟩
  rw [wrap32_up]
  generalize w.setCell ⟨b, 2 + 4, none⟩ (.int .i32 1) = w1 at *
  go_wp2_with fail
  refine (bitOf_any i _ (by omega)).mono ?_
  rintro e w' ⟨rfl, rfl⟩
  obtain ⟨d1, l1, hB1⟩ := hS1.blk
  have k1 : w1.cell? ⟨b, 1, none⟩ = some (.int .i64 0) := hB1.cell 1
  clear c2 c5 c6 z6 hB hS
  go_wp2_with fail
  go_region_held3 (fun w' => w'.cell? ⟨b, 1, none⟩ = some (.int .i64 0)) (first | go_keep | exact hk2)
    (first
      | (go_at_call 65; refine (lay_any b lo n 0 1 S i (by omega) _ ?_).mono ?_; exact hS1; rintro e w2 ⟨l, rfl, ⟨hB2, hne, ws, hL2, hw⟩, hlo, hT2⟩; have hk2 : w2.cell? ⟨b, 1, none⟩ = some (.int .i64 0) := hB2.cell 1)
      | (go_at_call 66; obtain ⟨x, hx, hwx, hbx⟩ := hw.2 (i / 64) (by omega); refine (uor_any ⟨l, i / 64, none⟩ x (bitN i) _ hx (bitN_lt _) ?_ ?_).mono ?_; exact (hL2.cell _).trans hwx; exact hL2.free _; rintro e w3 ⟨rfl, rfl⟩; have hk3 := hk2))
  go_wp2_with fail
  have hx1 : (bits .and .u64 (x : Int) ((bitN (i : Int) : Nat) : Int) == 0) = !S i := by
    rw [and_bit_eq x i hx, hbx (i % 64) (by omega), show 64 * (i / 64) + i % 64 = i by omega]
  have hw' := hw.put i x hwx
  have hB3 := hB2.setOther ⟨l, i / 64, none⟩ (.int .u64 ((x ||| bitN (i : Int) : Nat) : Int)) (fun h => hne h.symm)
  have hL3 := hL2.setAt (i / 64) (.int .u64 ((x ||| bitN (i : Int) : Nat) : Int))
  have hT3 : Turn (fun k => k = b ∨ lo = some k) w (w2.setCell ⟨l, i / 64, none⟩ (.int .u64 ((x ||| bitN (i : Int) : Nat) : Int))) := by
    refine Turn.set ?_ _ _ ?_
    · exact (hT1.drew.trans hT2 (fun _ _ h => h)).mono (fun _ _ h => .inl h)
    · rcases hlo with h | ⟨_, h⟩
      · exact .inr (.inr h)
      · left; have := hT1.size; simp at h; simp; omega
  have hlo' : some l = lo ∨ lo = none ∧ ∃ l', some l = some l' ∧ w.heap.size ≤ l' := by
    rcases hlo with h | ⟨h0, h⟩
    · exact .inl h.symm
    · exact .inr ⟨h0, l, rfl, by have := hT1.size; simp at h; omega⟩
  generalize w2.setCell ⟨l, i / 64, none⟩ (.int .u64 ((x ||| bitN (i : Int) : Nat) : Int)) = w3 at *
  -- THE DOOR
  refine leaves_cons (f := 63) (args := #[.pointer (some ⟨b, 2, none⟩)]) (by simp) (by simp [go_sem]) ?_
  refine (runlock_deferred Tryz.rwRLib b 2 1 _ _ .returning _ (hB3.cell 2) (hB3.cell 4) (hB3.cell 6) (hB3.free 6) (by rw [wrap32_down]; decide)).mono ?_
  rintro e u' w'' ⟨rfl, rfl, rfl⟩
  rw [wrap32_down]
  refine ⟨_, results_tmp rfl _ _ _, ?_⟩
  refine ⟨some l, by rw [← hx1]; rfl, ⟨hn, ?_, ?_⟩, hlo', hT3.set _ _ (.inr (.inl rfl))⟩
  · intro j hj
    simp at hj
    rcases hj with hj | hj
    · exact hSn j hj
    · omega
  · exact ⟨hB3.setAt 6 _, hne, _, hL3.setOther _ _ hne, hw'⟩
end Go.Proofs.YtidpmplkbgllfaaGreatDoor

namespace Go.Proofs.YtidpmplkbgllfaaGreatDoor
open Go.RowKit Go.MuLone Go.RwLone

theorem SetIn.n0 {w : World} {b : Nat} {lo : Option Nat} {n : Nat} {lw rc : Int} {S : Nat → Bool} (h : SetIn w b lo n lw rc S) : w.cell? ⟨b, 0, none⟩ = some (.int .i64 n) := by
  obtain ⟨d, l, hB⟩ := h.blk
  exact hB.cell 0

theorem put_no (b : Nat) (lo : Option Nat) (n : Nat) (S : Nat → Bool) (i : Int) (w : World) (hi : i < 0 ∨ (n : Int) ≤ i) (hA : SetAt w b lo n S) :
    Calls Tryz.prog 39 #[.pointer (some ⟨b, 0, none⟩), .int .i64 i] w fun e w' => e = .returned (.bool false) ∧ w = w' := by
  go_enter Tryz.func39, Tryz.ntmps39
  go_wp2_with fail
  refine (knows_no b n i _ hA.2.2.n0 hi).mono ?_
  rintro e w' ⟨rfl, rfl⟩
  go_wp2_with fail
  go_ret
  exact ⟨rfl, rfl⟩

theorem has_no (b : Nat) (lo : Option Nat) (n : Nat) (S : Nat → Bool) (i : Int) (w : World) (hi : i < 0 ∨ (n : Int) ≤ i) (hA : SetAt w b lo n S) :
    Calls Tryz.prog 42 #[.pointer (some ⟨b, 0, none⟩), .int .i64 i] w fun e w' => e = .returned (.bool false) ∧ w = w' := by
  go_enter Tryz.func42, Tryz.ntmps42
  go_wp2_with fail
  refine (knows_no b n i _ hA.2.2.n0 hi).mono ?_
  rintro e w' ⟨rfl, rfl⟩
  go_wp2_with fail
  go_ret
  exact ⟨rfl, rfl⟩

theorem drop_no (b : Nat) (lo : Option Nat) (n : Nat) (S : Nat → Bool) (i : Int) (w : World) (hi : i < 0 ∨ (n : Int) ≤ i) (hA : SetAt w b lo n S) :
    Calls Tryz.prog 72 #[.pointer (some ⟨b, 0, none⟩), .int .i64 i] w fun e w' => e = .returned (.bool false) ∧ w = w' := by
  go_enter Tryz.func72, Tryz.ntmps72
  go_wp2_with fail
  refine (knows_no b n i _ hA.2.2.n0 hi).mono ?_
  rintro e w' ⟨rfl, rfl⟩
  go_wp2_with fail
  go_ret
  exact ⟨rfl, rfl⟩

set_option maxRecDepth 100000 in
set_option maxHeartbeats 1600000 in
/-- Has, where nothing is laid. -/
theorem has_nil (b : Nat) (n : Nat) (S : Nat → Bool) (i : Nat) (w : World) (hi : i < n) (hA : SetAt w b none n S) :
    Calls Tryz.prog 42 #[.pointer (some ⟨b, 0, none⟩), .int .i64 i] w (TurnPost b none n false S w) := by
  obtain ⟨hn, hSn, hB, hS0⟩ := hA
  have c2 : w.cell? ⟨b, 2, none⟩ = some (.int .i32 0) := hB.cell 2
  have c5 : w.cell? ⟨b, 5, none⟩ = some (.int .u32 0) := hB.cell 5
  have c6 : w.cell? ⟨b, 6, none⟩ = some (.int .i32 0) := hB.cell 6
  have z6 : w.frozen? ⟨b, 6, none⟩ = false := hB.free 6
  have hB1 := hB.setAt 6 (.int .i32 1)
  have hT1 : Turn (fun k => k = b ∨ (none : Option Nat) = some k) w (w.setCell ⟨b, 6, none⟩ (.int .i32 1)) := (Turn.refl _ w).set _ _ (.inr (.inl rfl))
  go_enter_defers Tryz.func42, Tryz.ntmps42
  go_wp2_with fail
  refine (knows_yes b n i _ (hB.cell 0) (by omega) (by omega)).mono ?_
  rintro e w' ⟨rfl, rfl⟩
  go_wp2_with fail
  refine (rlock_open Tryz.rwRLib b 2 0 _ _ _ c2 c5 c6 z6 (by rw [wrap32_up]; decide)).mono ?_
  rintro e w' ⟨rfl, rfl⟩
  rw [wrap32_up]
  generalize w.setCell ⟨b, 2 + 4, none⟩ (.int .i32 1) = w1 at *
  have k1 : w1.cell? ⟨b, 1, none⟩ = some (.int .i64 0) := hB1.cell 1
  clear c2 c5 c6 z6 hB
  go_wp2_with fail
  go_region_held3 (fun w' => w'.cell? ⟨b, 1, none⟩ = some (.int .i64 0)) (first | go_keep)
    (first
      | (go_at_call 67; refine (find_nil b n 0 1 i _ ?_).mono ?_; exact hB1; rintro e w2 ⟨rfl, rfl⟩))
  replace hB1 := hB1.drew
  replace hT1 := hT1.drew
  generalize w1.drew = w1 at *
  go_wp2_with fail
  refine leaves_cons (f := 63) (args := #[.pointer (some ⟨b, 2, none⟩)]) (by simp) (by simp [go_sem]) ?_
  refine (runlock_deferred Tryz.rwRLib b 2 1 _ _ .returning _ (hB1.cell 2) (hB1.cell 4) (hB1.cell 6) (hB1.free 6) (by rw [wrap32_down]; decide)).mono ?_
  rintro e u' w'' ⟨rfl, rfl, rfl⟩
  rw [wrap32_down]
  refine ⟨_, results_tmp rfl _ _ _, ?_⟩
  exact ⟨none, rfl, ⟨hn, hSn, hB1.setAt 6 _, hS0⟩, .inl rfl, hT1.set _ _ (.inr (.inl rfl))⟩

theorem and_bit_ne (x i : Nat) (hx : x < 18446744073709551616) : (bits .and .u64 (x : Int) ((bitN i : Nat) : Int) != 0) = x.testBit (i % 64) := by
  rw [bne, and_bit_eq x i hx, Bool.not_not]

set_option maxRecDepth 100000 in
set_option maxHeartbeats 1600000 in
/-- Has, where the leaf is laid. -/
theorem has_some (b l : Nat) (n : Nat) (S : Nat → Bool) (i : Nat) (w : World) (hi : i < n) (hA : SetAt w b (some l) n S) :
    Calls Tryz.prog 42 #[.pointer (some ⟨b, 0, none⟩), .int .i64 i] w (TurnPost b (some l) n (S i) S w) := by
  obtain ⟨hn, hSn, hB, hne, ws, hL, hw⟩ := hA
  have c2 : w.cell? ⟨b, 2, none⟩ = some (.int .i32 0) := hB.cell 2
  have c5 : w.cell? ⟨b, 5, none⟩ = some (.int .u32 0) := hB.cell 5
  have c6 : w.cell? ⟨b, 6, none⟩ = some (.int .i32 0) := hB.cell 6
  have z6 : w.frozen? ⟨b, 6, none⟩ = false := hB.free 6
  have hB1 := hB.setAt 6 (.int .i32 1)
  have hL1 := hL.setOther ⟨b, 6, none⟩ (.int .i32 1) hne
  have hT1 : Turn (fun k => k = b ∨ (some l : Option Nat) = some k) w (w.setCell ⟨b, 6, none⟩ (.int .i32 1)) := (Turn.refl _ w).set _ _ (.inr (.inl rfl))
  obtain ⟨x, hx, hwx, hbx⟩ := hw.2 (i / 64) (by omega)
  have hx1 : (bits .and .u64 (x : Int) ((bitN (i : Int) : Nat) : Int) != 0) = S i := by
    rw [and_bit_ne x i hx, hbx (i % 64) (by omega), show 64 * (i / 64) + i % 64 = i by omega]
  have ei : ((i : Int) / 64).toNat = i / 64 := by omega
  go_enter_defers Tryz.func42, Tryz.ntmps42
  go_wp2_with fail
  refine (knows_yes b n i _ (hB.cell 0) (by omega) (by omega)).mono ?_
  rintro e w' ⟨rfl, rfl⟩
  go_wp2_with fail
  refine (rlock_open Tryz.rwRLib b 2 0 _ _ _ c2 c5 c6 z6 (by rw [wrap32_up]; decide)).mono ?_
  rintro e w' ⟨rfl, rfl⟩
  rw [wrap32_up]
  generalize w.setCell ⟨b, 2 + 4, none⟩ (.int .i32 1) = w1 at *
  have k1 : w1.cell? ⟨b, 1, none⟩ = some (.int .i64 0) := hB1.cell 1
  clear c2 c5 c6 z6 hB hL
  go_wp2_with fail
  go_region_held3 (fun w' => w'.cell? ⟨b, 1, none⟩ = some (.int .i64 0)) (first | go_keep | exact hk2)
    (first
      | (go_at_call 67; refine (find_some b l n 0 1 ws hw.1 i (by omega) (by omega) _ ?_ ?_).mono ?_; exact hB1; exact hL1; rintro e w2 ⟨rfl, hT2⟩; rw [ei]; have hB2 := hB1.drew.turn (M := fun _ => False) hT2 (fun h => h); have hL2 := hL1.drew.turn (M := fun _ => False) hT2 (fun h => h); have hk2 : w2.cell? ⟨b, 1, none⟩ = some (.int .i64 0) := hB2.cell 1))
  have kx : w2.cell? ⟨l, i / 64, none⟩ = some (.int .u64 x) := (hL2.cell _).trans hwx
  go_wp2_with fail
  refine (uload_any _ x _ kx).mono ?_
  rintro e w' ⟨rfl, rfl⟩
  go_wp2_with fail
  refine (bitOf_any i _ (by omega)).mono ?_
  rintro e w' ⟨rfl, rfl⟩
  go_wp2_with fail
  refine leaves_cons (f := 63) (args := #[.pointer (some ⟨b, 2, none⟩)]) (by simp) (by simp [go_sem]) ?_
  refine (runlock_deferred Tryz.rwRLib b 2 1 _ _ .returning _ (hB2.cell 2) (hB2.cell 4) (hB2.cell 6) (hB2.free 6) (by rw [wrap32_down]; decide)).mono ?_
  rintro e u' w'' ⟨rfl, rfl, rfl⟩
  rw [wrap32_down]
  refine ⟨_, results_tmp rfl _ _ _, ?_⟩
  exact ⟨some l, rfl, ⟨hn, hSn, hB2.setAt 6 _, hne, ws, hL2.setOther _ _ hne, hw⟩, .inl rfl, (hT1.drew.trans hT2 (fun _ _ h => h.elim)).set _ _ (.inr (.inl rfl))⟩

/-- Has, of a number that there is. -/
theorem has_yes (b : Nat) (lo : Option Nat) (n : Nat) (S : Nat → Bool) (i : Nat) (w : World) (hi : i < n) (hA : SetAt w b lo n S) :
    Calls Tryz.prog 42 #[.pointer (some ⟨b, 0, none⟩), .int .i64 i] w (TurnPost b lo n (S i) S w) := by
  cases lo with
  | none => rw [hA.2.2.2 i]; exact has_nil b n S i w hi hA
  | some l => exact has_some b l n S i w hi hA

set_option maxRecDepth 100000 in
set_option maxHeartbeats 1600000 in
/-- Drop, where nothing is laid. -/
theorem drop_nil (b : Nat) (n : Nat) (S : Nat → Bool) (i : Nat) (w : World) (hi : i < n) (hA : SetAt w b none n S) :
    Calls Tryz.prog 72 #[.pointer (some ⟨b, 0, none⟩), .int .i64 i] w (TurnPost b none n false S w) := by
  obtain ⟨hn, hSn, hB, hS0⟩ := hA
  have c2 : w.cell? ⟨b, 2, none⟩ = some (.int .i32 0) := hB.cell 2
  have c5 : w.cell? ⟨b, 5, none⟩ = some (.int .u32 0) := hB.cell 5
  have c6 : w.cell? ⟨b, 6, none⟩ = some (.int .i32 0) := hB.cell 6
  have z6 : w.frozen? ⟨b, 6, none⟩ = false := hB.free 6
  have hB1 := hB.setAt 6 (.int .i32 1)
  have hT1 : Turn (fun k => k = b ∨ (none : Option Nat) = some k) w (w.setCell ⟨b, 6, none⟩ (.int .i32 1)) := (Turn.refl _ w).set _ _ (.inr (.inl rfl))
  go_enter_defers Tryz.func72, Tryz.ntmps72
  go_wp2_with fail
  refine (knows_yes b n i _ (hB.cell 0) (by omega) (by omega)).mono ?_
  rintro e w' ⟨rfl, rfl⟩
  go_wp2_with fail
  refine (rlock_open Tryz.rwRLib b 2 0 _ _ _ c2 c5 c6 z6 (by rw [wrap32_up]; decide)).mono ?_
  rintro e w' ⟨rfl, rfl⟩
  rw [wrap32_up]
  generalize w.setCell ⟨b, 2 + 4, none⟩ (.int .i32 1) = w1 at *
  have k1 : w1.cell? ⟨b, 1, none⟩ = some (.int .i64 0) := hB1.cell 1
  clear c2 c5 c6 z6 hB
  go_wp2_with fail
  go_region_held3 (fun w' => w'.cell? ⟨b, 1, none⟩ = some (.int .i64 0)) (first | go_keep)
    (first
      | (go_at_call 67; refine (find_nil b n 0 1 i _ ?_).mono ?_; exact hB1; rintro e w2 ⟨rfl, rfl⟩)
      | (go_at_call 64; refine (bitOf_any i _ (by omega)).mono ?_; rintro e w2 ⟨rfl, rfl⟩))
  replace hB1 := hB1.drew
  replace hT1 := hT1.drew
  generalize w1.drew = w1 at *
  go_wp2_with fail
  refine leaves_cons (f := 63) (args := #[.pointer (some ⟨b, 2, none⟩)]) (by simp) (by simp [go_sem]) ?_
  refine (runlock_deferred Tryz.rwRLib b 2 1 _ _ .returning _ (hB1.cell 2) (hB1.cell 4) (hB1.cell 6) (hB1.free 6) (by rw [wrap32_down]; decide)).mono ?_
  rintro e u' w'' ⟨rfl, rfl, rfl⟩
  rw [wrap32_down]
  refine ⟨_, results_tmp rfl _ _ _, ?_⟩
  exact ⟨none, rfl, ⟨hn, hSn, hB1.setAt 6 _, hS0⟩, .inl rfl, hT1.set _ _ (.inr (.inl rfl))⟩

set_option maxRecDepth 100000 in
set_option maxHeartbeats 1600000 in
/-- Drop, where the leaf is laid. -/
theorem drop_some (b l : Nat) (n : Nat) (S : Nat → Bool) (i : Nat) (w : World) (hi : i < n) (hA : SetAt w b (some l) n S) :
    Calls Tryz.prog 72 #[.pointer (some ⟨b, 0, none⟩), .int .i64 i] w (TurnPost b (some l) n (S i) (fun j => S j && !decide (j = i)) w) := by
  obtain ⟨hn, hSn, hB, hne, ws, hL, hw⟩ := hA
  have c2 : w.cell? ⟨b, 2, none⟩ = some (.int .i32 0) := hB.cell 2
  have c5 : w.cell? ⟨b, 5, none⟩ = some (.int .u32 0) := hB.cell 5
  have c6 : w.cell? ⟨b, 6, none⟩ = some (.int .i32 0) := hB.cell 6
  have z6 : w.frozen? ⟨b, 6, none⟩ = false := hB.free 6
  have hB1 := hB.setAt 6 (.int .i32 1)
  have hL1 := hL.setOther ⟨b, 6, none⟩ (.int .i32 1) hne
  have hT1 : Turn (fun k => k = b ∨ (some l : Option Nat) = some k) w (w.setCell ⟨b, 6, none⟩ (.int .i32 1)) := (Turn.refl _ w).set _ _ (.inr (.inl rfl))
  obtain ⟨x, hx, hwx, hbx⟩ := hw.2 (i / 64) (by omega)
  have hx1 : (bits .and .u64 (x : Int) ((bitN (i : Int) : Nat) : Int) != 0) = S i := by
    rw [and_bit_ne x i hx, hbx (i % 64) (by omega), show 64 * (i / 64) + i % 64 = i by omega]
  have ei : ((i : Int) / 64).toNat = i / 64 := by omega
  go_enter_defers Tryz.func72, Tryz.ntmps72
  go_wp2_with fail
  refine (knows_yes b n i _ (hB.cell 0) (by omega) (by omega)).mono ?_
  rintro e w' ⟨rfl, rfl⟩
  go_wp2_with fail
  refine (rlock_open Tryz.rwRLib b 2 0 _ _ _ c2 c5 c6 z6 (by rw [wrap32_up]; decide)).mono ?_
  rintro e w' ⟨rfl, rfl⟩
  rw [wrap32_up]
  generalize w.setCell ⟨b, 2 + 4, none⟩ (.int .i32 1) = w1 at *
  have k1 : w1.cell? ⟨b, 1, none⟩ = some (.int .i64 0) := hB1.cell 1
  clear c2 c5 c6 z6 hB hL
  go_wp2_with fail
  go_region_held3 (fun w' => w'.cell? ⟨b, 1, none⟩ = some (.int .i64 0)) (first | go_keep | exact hk2)
    (first
      | (go_at_call 67; refine (find_some b l n 0 1 ws hw.1 i (by omega) (by omega) _ ?_ ?_).mono ?_; exact hB1; exact hL1; rintro e w2 ⟨rfl, hT2⟩; rw [ei]; have hB2 := hB1.drew.turn (M := fun _ => False) hT2 (fun h => h); have hL2 := hL1.drew.turn (M := fun _ => False) hT2 (fun h => h); have hk2 : w2.cell? ⟨b, 1, none⟩ = some (.int .i64 0) := hB2.cell 1)
      | (go_at_call 64; refine (bitOf_any i _ (by omega)).mono ?_; rintro e w2 ⟨rfl, rfl⟩))
  go_wp2_with fail
  rw [xor_not]
  refine (uand_any ⟨l, i / 64, none⟩ x (notN i) _ hx (notN_lt _) ((hL2.cell _).trans hwx) (hL2.free _)).mono ?_
  rintro e w' ⟨rfl, rfl⟩
  have hw' := hw.drop i x hwx
  have hB3 := hB2.setOther ⟨l, i / 64, none⟩ (.int .u64 ((x &&& notN (i : Int) : Nat) : Int)) (fun h => hne h.symm)
  have hL3 := hL2.setAt (i / 64) (.int .u64 ((x &&& notN (i : Int) : Nat) : Int))
  have hT3 : Turn (fun k => k = b ∨ (some l : Option Nat) = some k) w (w2.setCell ⟨l, i / 64, none⟩ (.int .u64 ((x &&& notN (i : Int) : Nat) : Int))) :=
    (hT1.drew.trans hT2 (fun _ _ h => h.elim)).set _ _ (.inr (.inr rfl))
  generalize w2.setCell ⟨l, i / 64, none⟩ (.int .u64 ((x &&& notN (i : Int) : Nat) : Int)) = w3 at *
  go_wp2_with fail
  refine leaves_cons (f := 63) (args := #[.pointer (some ⟨b, 2, none⟩)]) (by simp) (by simp [go_sem]) ?_
  refine (runlock_deferred Tryz.rwRLib b 2 1 _ _ .returning _ (hB3.cell 2) (hB3.cell 4) (hB3.cell 6) (hB3.free 6) (by rw [wrap32_down]; decide)).mono ?_
  rintro e u' w'' ⟨rfl, rfl, rfl⟩
  rw [wrap32_down]
  refine ⟨_, results_tmp rfl _ _ _, ?_⟩
  refine ⟨some l, rfl, ⟨hn, fun j hj => ?_, hB3.setAt 6 _, hne, _, hL3.setOther _ _ hne, hw'⟩, .inl rfl, hT3.set _ _ (.inr (.inl rfl))⟩
  simp at hj
  exact hSn j hj.1

/-- Drop, of a number that there is. -/
theorem drop_yes (b : Nat) (lo : Option Nat) (n : Nat) (S : Nat → Bool) (i : Nat) (w : World) (hi : i < n) (hA : SetAt w b lo n S) :
    Calls Tryz.prog 72 #[.pointer (some ⟨b, 0, none⟩), .int .i64 i] w (TurnPost b lo n (S i) (fun j => S j && !decide (j = i)) w) := by
  cases lo with
  | none =>
    have e : (fun j => S j && !decide (j = i)) = S := by funext j; rw [hA.2.2.2 j]; rfl
    rw [hA.2.2.2 i, e]; exact drop_nil b n S i w hi hA
  | some l => exact drop_some b l n S i w hi hA

end Go.Proofs.YtidpmplkbgllfaaGreatDoor
