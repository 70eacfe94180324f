/- An arena in memory; its small methods, at this seat's numbers. seek, at this seat's numbers. seek at no class, Room, Free, hasWord, Word, Set, at this seat's numbers. Word, Set, Take, at this seat's numbers. Take, at this seat's numbers. Take at any class; Cells, at this seat's numbers. used, Give, at this seat's numbers. slices.Repeat of one number, at this seat's numbers. New, at this seat's numbers. What stands in memory between a law's steps; fit; at this seat's numbers. -/
import Derived.Test.YtidpmplkbgllfaaGreatDoorUb
import Derived.WalkMore
import Derived.Deep.LoopGhost
import Derived.Lib.SliceRun
import Derived.Deep.RegionHeld3
import Derived.Laws.Bits64b
import Derived.Laws.CopyOwn
import Derived.Laws.OwnMore
import Derived.OwnWalk
import Derived.IntWalk
namespace Go.Proofs.YtidpmplkbgllfaaGreatDoor
open Go Go.RowKit Go.Shelf Go.MuLone Go.RwLone
set_option linter.unusedSimpArgs false
set_option linter.unusedVariables false

/-- The blocks of an arena: itself, its pages' classes, its words, its set and the set's leaf. -/
structure ArB where
  a : Nat
  c : Nat
  w : Nat
  b : Nat
  lo : Option Nat
def ArB.has (X : ArB) (k : Nat) : Prop := k = X.a ∨ k = X.c ∨ k = X.w ∨ k = X.b ∨ X.lo = some k
def ArB.with (X : ArB) (lo : Option Nat) : ArB := { X with lo := lo }
def arArr (X : ArB) (P : Nat) : Array Value := #[.slice (some ⟨X.c, 0, none⟩) P P, .pointer (some ⟨X.b, 0, none⟩), .slice (some ⟨X.w, 0, none⟩) (32 * P + 1) (32 * P + 1)]

structure ArNe (X : ArB) : Prop where
  ac : X.a ≠ X.c
  aw : X.a ≠ X.w
  ab : X.a ≠ X.b
  cw : X.c ≠ X.w
  cb : X.c ≠ X.b
  wb : X.w ≠ X.b
  la : X.lo ≠ some X.a
  lc : X.lo ≠ some X.c
  lw : X.lo ≠ some X.w

/-- The arena s in memory, in the blocks X. -/
structure ArMem (w : World) (X : ArB) (s : ArS) : Prop where
  head : Blk w X.a (arArr X s.P) 76
  page : Blk w X.c (row s.P s.cls) 3
  word : Blk w X.w (row (32 * s.P + 1) s.ws) 3
  set : SetAt w X.b X.lo (32 * s.P + 1) s.S
  ne : ArNe X
  p64 : s.P ≤ 64
/-- The same, of an arena between two calls. -/
structure ArAt (w : World) (X : ArB) (s : ArS) : Prop extends ArMem w X s where
  fits : Fits s

/-- What a call on an arena leaves: v, and the arena s'. -/
def ArPost (X : ArB) (v : Value) (s' : ArS) (w : World) (e : Ending) (w' : World) : Prop :=
  ∃ lo', e = .returned v ∧ ArAt w' (X.with lo') s' ∧ (lo' = X.lo ∨ X.lo = none ∧ ∃ l, lo' = some l ∧ w.heap.size ≤ l) ∧ Turn X.has w w'

theorem ArMem.lt {w : World} {X : ArB} {s : ArS} (h : ArMem w X s) : ∀ k, X.has k → k < w.heap.size := by
  rintro k (rfl | rfl | rfl | rfl | e)
  · exact h.head.lt
  · exact h.page.lt
  · exact h.word.lt
  · exact h.set.lt.1
  · exact h.set.lt.2 _ e
theorem ArMem.turn {M : Nat → Prop} {w w' : World} {X : ArB} {s : ArS} (h : ArMem w X s) (ht : Turn M w w') (hn : ∀ k, X.has k → ¬ M k) : ArMem w' X s :=
  ⟨h.head.turn ht (hn _ (.inl rfl)), h.page.turn ht (hn _ (.inr (.inl rfl))), h.word.turn ht (hn _ (.inr (.inr (.inl rfl)))),
    h.set.turn ht (hn _ (.inr (.inr (.inr (.inl rfl))))) (fun l hl => hn _ (.inr (.inr (.inr (.inr hl))))), h.ne, h.p64⟩
theorem ArAt.turn {M : Nat → Prop} {w w' : World} {X : ArB} {s : ArS} (h : ArAt w X s) (ht : Turn M w w') (hn : ∀ k, X.has k → ¬ M k) : ArAt w' X s := ⟨h.toArMem.turn ht hn, h.fits⟩
theorem ArAt.drewN {w : World} {X : ArB} {s : ArS} (h : ArAt w X s) (n : Nat) : ArAt (w.drewN n) X s := h.turn ((Turn.refl (fun _ => False) w).drewN n) (fun _ _ h => h)
theorem ArAt.drew {w : World} {X : ArB} {s : ArS} (h : ArAt w X s) : ArAt w.drew X s := h.turn ((Turn.refl (fun _ => False) w).drew) (fun _ _ h => h)
theorem ArAt.alloc {w : World} {X : ArB} {s : ArS} (h : ArAt w X s) (o : Obj) : ArAt (w.alloc o) X s := h.turn ((Turn.refl (fun _ => False) w).alloc o) (fun _ _ h => h)

/-- A call on the set has turned the set. -/
theorem ArMem.turned {w w' : World} {X : ArB} {s : ArS} {S' : Nat → Bool} {r : Bool} {e : Ending} (h : ArMem w X s) (hP : TurnPost X.b X.lo (32 * s.P + 1) r S' w e w') :
    ∃ lo', e = .returned (.bool r) ∧ (lo' = X.lo ∨ X.lo = none ∧ ∃ l, lo' = some l ∧ w.heap.size ≤ l) ∧ Turn X.has w w' ∧ Blk w' X.a (arArr X s.P) 76 ∧ Blk w' X.c (row s.P s.cls) 3 ∧ Blk w' X.w (row (32 * s.P + 1) s.ws) 3 ∧
      SetAt w' X.b lo' (32 * s.P + 1) S' ∧ ArNe (X.with lo') := by
  obtain ⟨lo', he, hA, hlo, hT⟩ := hP
  have hn := h.ne
  refine ⟨lo', he, hlo, hT.mono ?_, h.head.turn hT ?_, h.page.turn hT ?_, h.word.turn hT ?_, hA, ⟨hn.ac, hn.aw, hn.ab, hn.cw, hn.cb, hn.wb, ?_, ?_, ?_⟩⟩
  · rintro k _ (rfl | e)
    · exact .inr (.inr (.inr (.inl rfl)))
    · exact .inr (.inr (.inr (.inr e)))
  · rintro (e | e)
    · exact hn.ab e
    · exact hn.la e
  · rintro (e | e)
    · exact hn.cb e
    · exact hn.lc e
  · rintro (e | e)
    · exact hn.wb e
    · exact hn.lw e
  · show lo' ≠ some X.a
    rcases hlo with e | ⟨_, l, e, hl⟩
    · rw [e]; exact hn.la
    · rw [e]; intro x; cases x; have := h.head.lt; omega
  · show lo' ≠ some X.c
    rcases hlo with e | ⟨_, l, e, hl⟩
    · rw [e]; exact hn.lc
    · rw [e]; intro x; cases x; have := h.page.lt; omega
  · show lo' ≠ some X.w
    rcases hlo with e | ⟨_, l, e, hl⟩
    · rw [e]; exact hn.lw
    · rw [e]; intro x; cases x; have := h.word.lt; omega

theorem ArPost.same {w : World} {X : ArB} {s : ArS} {v : Value} {e : Ending} (h : ArAt w X s) (he : e = .returned v) : ArPost X v s w e w :=
  ⟨X.lo, he, h, .inl rfl, Turn.refl _ _⟩
theorem ArPost.quiet {w w' : World} {X : ArB} {s : ArS} {v : Value} {e : Ending} (h : ArAt w X s) (he : e = .returned v ∧ w = w') : ArPost X v s w e w' := by
  obtain ⟨he, rfl⟩ := he; exact ArPost.same h he

/-- One step behind another one. -/
structure ArStep (X : ArB) (w : World) (X' : ArB) (w' : World) : Prop where
  lo : X'.lo = X.lo ∨ X.lo = none ∧ ∃ l, X'.lo = some l ∧ w.heap.size ≤ l
  eq : X' = X.with X'.lo
  turn : Turn X.has w w'
theorem ArStep.refl (X : ArB) (w : World) : ArStep X w X w := ⟨.inl rfl, rfl, Turn.refl _ _⟩
theorem ArStep.ofPost {X : ArB} {w w' : World} {v : Value} {s' : ArS} {e : Ending} (h : ArPost X v s' w e w') : ∃ X', e = .returned v ∧ ArAt w' X' s' ∧ ArStep X w X' w' := by
  obtain ⟨lo', he, hA, hlo, hT⟩ := h
  exact ⟨X.with lo', he, hA, ⟨hlo, rfl, hT⟩⟩
theorem ArStep.has_new {X X' : ArB} {w w' : World} (h : ArStep X w X' w') {k : Nat} (hk : X'.has k) : X.has k ∨ w.heap.size ≤ k := by
  have e := h.eq
  rcases hk with rfl | rfl | rfl | rfl | hk
  · rw [e]; exact .inl (.inl rfl)
  · rw [e]; exact .inl (.inr (.inl rfl))
  · rw [e]; exact .inl (.inr (.inr (.inl rfl)))
  · rw [e]; exact .inl (.inr (.inr (.inr (.inl rfl))))
  · rcases h.lo with e2 | ⟨_, l, e2, hl⟩
    · exact .inl (.inr (.inr (.inr (.inr (e2 ▸ hk)))))
    · rw [e2] at hk; cases hk; exact .inr hl
theorem ArStep.trans {X X' X2 : ArB} {w w' w2 : World} (h : ArStep X w X' w') (k : ArStep X' w' X2 w2) : ArStep X w X2 w2 := by
  have hs := h.turn.size
  refine ⟨?_, ?_, h.turn.trans k.turn fun i hi hk => ?_⟩
  · rcases k.lo with e | ⟨e0, l, e, hl⟩
    · rw [e]; exact h.lo
    · rcases h.lo with e1 | ⟨_, l', e1, _⟩
      · exact .inr ⟨by rw [← e1]; exact e0, l, e, by omega⟩
      · rw [e0] at e1; cases e1
  · have e1 := h.eq
    have e2 := k.eq
    rw [e2, e1]
    rfl
  · rcases h.has_new hk with x | x
    · exact x
    · omega
theorem ArStep.post {X X' : ArB} {w w' : World} {s' : ArS} {v : Value} {e : Ending} (h : ArStep X w X' w') (he : e = .returned v) (hA : ArAt w' X' s') : ArPost X v s' w e w' :=
  ⟨X'.lo, he, h.eq ▸ hA, h.lo, h.turn⟩
theorem ArStep.ofBelow (X : ArB) {w w' : World} (hB : Below w.heap.size w w') (hlt : ∀ k, X.has k → k < w.heap.size) : ArStep X w X w' :=
  ⟨.inl rfl, rfl, ⟨hB.os, hB.tape, hB.output, hB.size, fun k hk _ => hB.block k hk⟩⟩
theorem ArStep.drew {X X' : ArB} {w w' : World} (h : ArStep X w X' w') : ArStep X w X' w'.drew := ⟨h.lo, h.eq, h.turn.drew⟩
theorem ArStep.drewN {X X' : ArB} {w w' : World} (h : ArStep X w X' w') (n : Nat) : ArStep X w X' (w'.drewN n) := ⟨h.lo, h.eq, h.turn.drewN n⟩
theorem ArStep.lead {X X' : ArB} {w w0 w' : World} (h : ArStep X w X' w') (hT : Turn X.has w0 w) (hs : w0.heap.size ≤ w.heap.size) : ArStep X w0 X' w' := by
  refine ⟨?_, h.eq, hT.trans h.turn fun _ _ h => h⟩
  rcases h.lo with e | ⟨e0, l, e, hl⟩
  · exact .inl e
  · exact .inr ⟨e0, l, e, by omega⟩

section
variable {w : World} {X : ArB} {s : ArS}

theorem ArMem.c0 (h : ArMem w X s) : w.cell? ⟨X.a, 0, none⟩ = some (.slice (some ⟨X.c, 0, none⟩) s.P s.P) := h.head.cell 0
theorem ArMem.c1 (h : ArMem w X s) : w.cell? ⟨X.a, 1, none⟩ = some (.pointer (some ⟨X.b, 0, none⟩)) := h.head.cell 1
theorem ArMem.c2 (h : ArMem w X s) : w.cell? ⟨X.a, 2, none⟩ = some (.slice (some ⟨X.w, 0, none⟩) (32 * s.P + 1) (32 * s.P + 1)) := h.head.cell 2

theorem pages_any (h : ArMem w X s) : Calls Tryz.prog 24 #[.pointer (some ⟨X.a, 0, none⟩)] w fun e w' => e = .returned (.int .i64 (s.P : Int)) ∧ w = w' := by
  have h0 := h.c0
  go_enter Tryz.func24, Tryz.ntmps24
  go_wp2
  go_ret
  exact ⟨rfl, rfl⟩

theorem size_any (h : ArMem w X s) : Calls Tryz.prog 32 #[.pointer (some ⟨X.a, 0, none⟩)] w fun e w' => e = .returned (.int .i64 ((32 * s.P + 1 : Nat) : Int)) ∧ w = w' := by
  have h0 := h.c2
  obtain ⟨n, hn⟩ : ∃ n, n = 32 * s.P + 1 := ⟨_, rfl⟩
  rw [← hn] at h0 ⊢
  clear hn
  go_enter Tryz.func32, Tryz.ntmps32
  go_wp2
  go_ret
  exact ⟨rfl, rfl⟩

/-- The page of any Ref; -1: of none. -/
def pgI (s : ArS) (r : Int) : Int := if 1 ≤ r ∧ r ≤ 32 * s.P then ((pg r.toNat : Nat) : Int) else -1
def clsI (s : ArS) (p : Int) : Int := if 0 ≤ p ∧ p < s.P then s.cls p.toNat else -1
def inS (S : Nat → Bool) (x : Int) : Bool := decide (0 ≤ x) && S x.toNat
theorem inS_nat (S : Nat → Bool) (j : Nat) : inS S (j : Int) = S j := by simp [inS]

theorem page_no (h : ArMem w X s) (r : Int) (hr : ¬ (1 ≤ r ∧ r ≤ 32 * s.P)) : Calls Tryz.prog 16 #[.pointer (some ⟨X.a, 0, none⟩), .int .i64 r] w fun e w' => e = .returned (.int .i64 (-1)) ∧ w = w' := by
  have cS := size_any h
  obtain ⟨n, hn⟩ : ∃ n, n = 32 * s.P + 1 := ⟨_, rfl⟩
  rw [← hn] at cS
  by_cases h1 : r < 1
  · clear hr
    go_enter Tryz.func16, Tryz.ntmps16
    go_wp2
    go_ret
    exact ⟨rfl, rfl⟩
  · have h2 : (n : Int) ≤ r := by omega
    clear hn hr h
    go_enter Tryz.func16, Tryz.ntmps16
    go_wp2_with fail
    refine cS.mono ?_
    rintro e w' ⟨rfl, rfl⟩
    go_wp2_with fail
    go_ret
    exact ⟨rfl, rfl⟩

theorem page_yes (h : ArMem w X s) (r : Nat) (h1 : 1 ≤ r) (h2 : r ≤ 32 * s.P) : Calls Tryz.prog 16 #[.pointer (some ⟨X.a, 0, none⟩), .int .i64 r] w fun e w' => e = .returned (.int .i64 ((pg r : Nat) : Int)) ∧ w = w' := by
  have cS := size_any h
  have hp := h.p64
  obtain ⟨n, hn⟩ : ∃ n, n = 32 * s.P + 1 := ⟨_, rfl⟩
  rw [← hn] at cS
  have h3 : (r : Int) < n := by omega
  have h4 : (1 : Int) ≤ r := by omega
  have h5 : (r : Int) ≤ 2048 := by omega
  clear hn h h1 h2 hp
  go_enter Tryz.func16, Tryz.ntmps16
  go_wp2_with fail
  refine cS.mono ?_
  rintro e w' ⟨rfl, rfl⟩
  go_wp2_with fail
  go_ret
  exact ⟨ret_num (by unfold pg; omega), rfl⟩

theorem page_any (h : ArMem w X s) (r : Int) : Calls Tryz.prog 16 #[.pointer (some ⟨X.a, 0, none⟩), .int .i64 r] w fun e w' => e = .returned (.int .i64 (pgI s r)) ∧ w = w' := by
  unfold pgI
  by_cases hr : 1 ≤ r ∧ r ≤ 32 * s.P
  · rw [if_pos hr]
    obtain ⟨n, rfl⟩ : ∃ n : Nat, r = n := ⟨r.toNat, by omega⟩
    exact page_yes h n (by omega) (by omega)
  · rw [if_neg hr]; exact page_no h r hr

theorem ret_bool {a b : Bool} (h : a = b) : Ending.returned (.bool a) = .returned (.bool b) := by rw [h]
theorem knowsP_any (h : ArMem w X s) (p : Int) : Calls Tryz.prog 43 #[.pointer (some ⟨X.a, 0, none⟩), .int .i64 p] w fun e w' => e = .returned (.bool (decide (0 ≤ p ∧ p < s.P))) ∧ w = w' := by
  have cS := pages_any h
  by_cases h1 : 0 ≤ p
  · by_cases h2 : p < s.P
    · rw [decide_eq_true ⟨h1, h2⟩]
      clear h
      generalize s.P = n at *
      go_enter Tryz.func43, Tryz.ntmps43
      go_wp2_with fail
      refine cS.mono ?_
      rintro e w' ⟨rfl, rfl⟩
      go_wp2_with fail
      go_ret
      exact ⟨rfl, rfl⟩
    · rw [decide_eq_false (fun x => h2 x.2)]
      clear h
      generalize s.P = n at *
      go_enter Tryz.func43, Tryz.ntmps43
      go_wp2_with fail
      refine cS.mono ?_
      rintro e w' ⟨rfl, rfl⟩
      go_wp2_with fail
      go_ret
      exact ⟨ret_bool (decide_eq_false (by omega)), rfl⟩
  · rw [decide_eq_false (fun x => h1 x.1)]
    clear cS
    go_enter Tryz.func43, Tryz.ntmps43
    go_wp2_with fail
    go_ret
    exact ⟨rfl, rfl⟩

theorem ref_any (p o : Int) (hp : 0 ≤ p) (hp2 : p ≤ 64) (ho : 0 ≤ o) (ho2 : o ≤ 64) : Calls Tryz.prog 45 #[.int .i64 p, .int .i64 o] w fun e w' => e = .returned (.int .i64 (p * 32 + o + 1)) ∧ w = w' := by
  go_enter Tryz.func45, Tryz.ntmps45
  go_wp2
  go_ret
  exact ⟨rfl, rfl⟩

theorem cell_row {b n : Nat} {f : Nat → Int} (h : Blk w b (row n f) 3) {k : Nat} (hk : k < n) : w.cell? ⟨b, k, none⟩ = some (.int .i64 (f k)) := (h.cell k).trans (row_get f hk)

theorem class_any (h : ArMem w X s) (p : Int) : Calls Tryz.prog 21 #[.pointer (some ⟨X.a, 0, none⟩), .int .i64 p] w fun e w' => e = .returned (.int .i64 (clsI s p)) ∧ w = w' := by
  have cK := knowsP_any h p
  unfold clsI
  by_cases hp : 0 ≤ p ∧ p < s.P
  · rw [if_pos hp]
    rw [decide_eq_true hp] at cK
    obtain ⟨n, rfl⟩ : ∃ n : Nat, p = n := ⟨p.toNat, by omega⟩
    have h0 := h.c0
    have h1 := cell_row h.page (k := n) (by omega)
    have hn : (n : Int) < s.P := hp.2
    rw [Int.toNat_natCast]
    clear h hp
    generalize s.cls n = v at *
    generalize s.P = m at *
    go_enter Tryz.func21, Tryz.ntmps21
    go_wp2_with fail
    refine cK.mono ?_
    rintro e w' ⟨rfl, rfl⟩
    go_wp2_with fail
    go_ret
    exact ⟨rfl, rfl⟩
  · rw [if_neg hp]
    rw [decide_eq_false hp] at cK
    clear hp
    go_enter Tryz.func21, Tryz.ntmps21
    go_wp2_with fail
    refine cK.mono ?_
    rintro e w' ⟨rfl, rfl⟩
    go_wp2_with fail
    go_ret
    exact ⟨rfl, rfl⟩

theorem may_in (h : ArMem w X s) (r : Int) : (may (32 * s.P + 1) r && s.S r.toNat) = inS s.S r := by
  unfold may inS
  by_cases h0 : 0 ≤ r
  · cases hS : s.S r.toNat with
    | true => have := h.set.2.1 _ hS; simp [h0]; omega
    | false => simp
  · simp [h0]

theorem ArMem.below {w' : World} (h : ArMem w X s) (hB : Below w.heap.size w w') : ArMem w' X s := h.turn (Turn.ofBelow hB) (fun k hk e => by have := h.lt k hk; omega)
theorem ArAt.below {w' : World} (h : ArAt w X s) (hB : Below w.heap.size w w') : ArAt w' X s := h.turn (Turn.ofBelow hB) (fun k hk e => by have := h.lt k hk; omega)
theorem below_to {B : Nat} {w0 w1 w2 : World} (h : Below B w0 w1) (k : Below w1.heap.size w1 w2) (hB : B ≤ w1.heap.size) : Below B w0 w2 := h.trans (k.mono hB)
theorem below_step {w0 w1 w2 : World} (h : Below w0.heap.size w0 w1) (k : Below w1.heap.size w1 w2) : Below w0.heap.size w0 w2 := below_to h k h.size

theorem has_any (h : ArMem w X s) (r : Int) : Calls Tryz.prog 19 #[.pointer (some ⟨X.a, 0, none⟩), .int .i64 r] w fun e w' => e = .returned (.bool (inS s.S r)) ∧ Below w.heap.size w w' := by
  have h1 := h.c1
  have cH := has_q X.b X.lo (32 * s.P + 1) s.S r w h.set
  rw [may_in h r] at cH
  go_enter Tryz.func19, Tryz.ntmps19
  go_wp2_with fail
  refine cH.mono ?_
  rintro e w1 ⟨rfl, hB⟩
  clear cH
  go_wp2_with fail
  go_ret
  exact ⟨rfl, hB⟩
end
end Go.Proofs.YtidpmplkbgllfaaGreatDoor

namespace Go.Proofs.YtidpmplkbgllfaaGreatDoor
open Go Go.RowKit Go.Shelf Go.MuLone Go.RwLone
set_option linter.unusedSimpArgs false
set_option linter.unusedVariables false

theorem TableAt.turn {M : Nat → Prop} {w w' : World} (hT : TableAt w) (ht : Turn M w w') (hn : ¬ M 0) : TableAt w' := by
  obtain ⟨T, fr, hT⟩ := hT
  exact ⟨T, fr, (ht.block _ (lt_of_block hT) hn).trans hT⟩
theorem TableAt.lt {w : World} (hT : TableAt w) : 0 < w.heap.size := by
  obtain ⟨T, fr, hT⟩ := hT; exact lt_of_block hT
/-- The table is none of an arena's blocks. -/
theorem TableAt.far {w : World} {X : ArB} {s : ArS} (hT : TableAt w) (h : ArAt w X s) : ¬ X.has 0 := by
  have t0 := hT.cell 0
  have t1 := hT.cell 1
  rintro (e | e | e | e | e)
  · have := h.head.cell 0
    rw [← e, t0] at this; cases this
  · have h1 := h.page.cell 1
    rw [← e, t1] at h1
    by_cases hp : 1 < s.P
    · rw [row_get _ hp] at h1
      have h2 : (4 : Int) = s.cls 1 := by simpa using h1
      rcases h.fits.cl 1 hp with x | x
      · omega
      · rw [← h2] at x; cases x
    · have h2 : (row s.P s.cls)[1]? = none := Array.getElem?_eq_none (by rw [row_size]; omega)
      rw [h2] at h1; cases h1
  · obtain ⟨T, fr, hT⟩ := hT
    have h1 := h.word
    unfold Blk at h1
    rw [← e, hT] at h1
    have h2 : wordsRow = row (32 * s.P + 1) s.ws := by simpa using congrArg (fun o => match o with | some (.cells cs _ _) => cs | _ => #[]) h1
    have h3 := congrArg Array.size h2
    rw [row_size] at h3
    have : wordsRow.size = 3 := rfl
    omega
  · obtain ⟨d, l, hB⟩ := h.set.2.2.blk
    have h1 := hB.cell 2
    rw [← e] at h1
    have t2 := hT.cell 2
    rw [t2] at h1; cases h1
  · obtain ⟨_, _, h3⟩ := h.set
    rw [e] at h3
    obtain ⟨_, _, ws, h6, h7⟩ := h3
    obtain ⟨x, hx, hw, _⟩ := h7.2 0 (by omega)
    have h1 := h6.cell 0
    rw [t0, hw] at h1; cases h1
theorem TableAt.below {w w' : World} (hT : TableAt w) (hB : Below w.heap.size w w') : TableAt w' := hT.turn (Turn.ofBelow hB) (fun e => by have := hT.lt; omega)
theorem TableAt.step {w w' : World} {X X' : ArB} {s : ArS} (hT : TableAt w) (h : ArAt w X s) (hs : ArStep X w X' w') : TableAt w' := hT.turn hs.turn (hT.far h)

theorem free_next {s : ArS} {c : Int} {p k W C : Nat} (hW : wN c = W) (hCW : C * W = 32) (hk : k < C) (hW1 : W = 2 ∨ W = 4 ∨ W = 8) (h : ∀ r, r ≤ 32 * p + k * W → free1 s c r = false) (hS : s.S (32 * p + k * W + 1) = true) :
    ∀ r, r ≤ 32 * p + (k + 1) * W → free1 s c r = false := fun r hr => by
  by_cases h1 : r ≤ 32 * p + k * W
  · exact h r h1
  · cases e : free1 s c r with
    | false => rfl
    | true =>
      obtain ⟨a1, a2, a3, a4, a5⟩ := free1_open e
      rw [hW] at a4
      have : r = 32 * p + k * W + 1 := by
        rcases hW1 with rfl | rfl | rfl <;> omega
      rw [this, hS] at a5; cases a5
theorem free_cell {s : ArS} {c : Int} {p k W C : Nat} (hW : wN c = W) (hCW : C * W = 32) (hk : k < C) (hW1 : W = 2 ∨ W = 4 ∨ W = 8) (hp : p < s.P) (hc : s.cls p = c) (h : ∀ r, r ≤ 32 * p + k * W → free1 s c r = false) (hS : s.S (32 * p + k * W + 1) = false) :
    free1 s c (32 * p + k * W + 1) = true ∧ ∀ r, r < 32 * p + k * W + 1 → free1 s c r = false := by
  refine ⟨free1_mk (by omega) ?_ ?_ ?_ hS, fun r hr => h r (by omega)⟩
  · rcases hW1 with rfl | rfl | rfl <;> omega
  · rw [show pg (32 * p + k * W + 1) = p by unfold pg; rcases hW1 with rfl | rfl | rfl <;> omega]; exact hc
  · rw [hW]; rcases hW1 with rfl | rfl | rfl <;> omega
theorem free_other {s : ArS} {c : Int} {p : Nat} (hc : s.cls p ≠ c) (h : ∀ r, r ≤ 32 * p → free1 s c r = false) : ∀ r, r ≤ 32 * (p + 1) → free1 s c r = false := fun r hr => by
  by_cases h1 : r ≤ 32 * p
  · exact h r h1
  · cases e : free1 s c r with
    | false => rfl
    | true =>
      obtain ⟨a1, a2, a3, a4, a5⟩ := free1_open e
      rw [show pg r = p by unfold pg; omega] at a3
      exact absurd a3 hc

/-- Between two rounds over the pages. -/
def SeekO (s : ArS) (w : World) (c : Int) (v6 v18 : Value) (wr : World) : Prop :=
  ∃ p : Nat, p ≤ s.P ∧ v18 = .int .i64 (p : Int) ∧ v6 = .int .i64 ((spare s p : Nat) : Int) ∧ Below w.heap.size w wr ∧ ∀ r, r ≤ 32 * p → free1 s c r = false
/-- Between two rounds over a page's cells. -/
def SeekI (s : ArS) (w : World) (c : Int) (p W C : Nat) (v6 v25 : Value) (wr : World) : Prop :=
  ∃ k : Nat, k ≤ C ∧ v25 = .int .i64 (k : Int) ∧ v6 = .int .i64 ((spare s p : Nat) : Int) ∧ Below w.heap.size w wr ∧ ∀ r, r ≤ 32 * p + k * W → free1 s c r = false

theorem cellsW (c : Int) (C : Nat) (w : World) (hT : TableAt w) (h : cellsOfC c = C) : Calls Tryz.prog 59 #[.int .i64 c] w fun e w' => e = .returned (.int .i64 (C : Int)) ∧ w = w' := by
  rw [← h]; exact cellsC_any c w hT
theorem offsetW (c : Int) (k : Nat) (W C : Nat) (w : World) (hT : TableAt w) (hW : wordsOf c = W) (hC : cellsOfC c = C) (hk : k < C) : Calls Tryz.prog 60 #[.int .i64 c, .int .i64 (k : Int)] w fun e w' => e = .returned (.tuple #[.int .i64 ((k * W : Nat) : Int), .bool true]) ∧ w = w' := by
  have h := offset_yes c k w hT (by omega) (by omega)
  rw [hW] at h
  rw [Int.natCast_mul]; exact h
theorem hasW {w : World} {X : ArB} {s : ArS} (h : ArMem w X s) (r : Nat) (x : Int) (b : Bool) (hx : x = r) (hb : s.S r = b) : Calls Tryz.prog 19 #[.pointer (some ⟨X.a, 0, none⟩), .int .i64 x] w fun e w' => e = .returned (.bool b) ∧ Below w.heap.size w w' := by
  subst hx hb
  have hh := has_any h r
  rw [inS_nat] at hh
  exact hh
theorem kW_le {k W C : Nat} (hCW : C * W = 32) (hW1 : W = 2 ∨ W = 4 ∨ W = 8) (hk : k < C) : k * W + W ≤ 32 := by
  rcases hW1 with rfl | rfl | rfl <;> omega
theorem SeekI.mk {s : ArS} {w w1 w2 : World} {c : Int} {p W C k : Nat} (x : Int) (hx : x = k) (hk : k ≤ C) (h1 : Below w.heap.size w w1) (h2 : Below w1.heap.size w1 w2) (hf : ∀ r, r ≤ 32 * p + k * W → free1 s c r = false) :
    SeekI s w c p W C (.int .i64 ((spare s p : Nat) : Int)) (.int .i64 x) w2 := ⟨k, hk, by rw [hx], rfl, below_step h1 h2, hf⟩
theorem SeekO.mk {s : ArS} {w w1 : World} {c : Int} {p : Nat} (x y : Int) (hx : x = p) (hy : y = (spare s p : Nat)) (hp : p ≤ s.P) (h1 : Below w.heap.size w w1) (hf : ∀ r, r ≤ 32 * p → free1 s c r = false) :
    SeekO s w c (.int .i64 y) (.int .i64 x) w1 := ⟨p, hp, by rw [hx], by rw [hy], h1, hf⟩
/-- What seek leaves: the Ref, and all that there was. -/
def SeekPost (s : ArS) (c : Int) (w : World) (e : Ending) (w' : World) : Prop :=
  e = .returned (.tuple #[.int .i64 ((seekF s c : Nat) : Int), .bool (((seekF s c : Nat) : Int) != 0)]) ∧ Below w.heap.size w w'
theorem seek_post {s : ArS} {c : Int} {w w1 : World} {r : Nat} {x : Int} {b : Bool} {e : Ending} (he : e = .returned (.tuple #[.int .i64 x, .bool b])) (hx : x = r) (hb : b = ((r : Int) != 0)) (h1 : Below w.heap.size w w1) (hr : seekF s c = r) :
    SeekPost s c w e w1 := by
  subst hx hb
  unfold SeekPost
  rw [hr]
  exact ⟨he, h1⟩
theorem spare_up {s : ArS} {p : Nat} (h : s.cls p ≠ -1 ∨ spare s p ≠ 0) : spare s (p + 1) = spare s p := by
  rw [spare_step, if_neg (by omega)]
theorem spare_at {s : ArS} {p : Nat} (h : s.cls p = -1) (h2 : spare s p = 0) : spare s (p + 1) = 32 * p + 1 := by
  rw [spare_step, if_pos ⟨h, h2⟩]
theorem not_eqb {a b : Int} (h : a ≠ b) : (a == b) = false := by simpa using h

set_option maxRecDepth 100000 in
set_option maxHeartbeats 4000000 in
theorem seek_yes {w : World} {X : ArB} {s : ArS} (h : ArAt w X s) (hT : TableAt w) (c : Int) (hc : okC c = true) (W C : Nat) (hW : wordsOf c = W) (hC : cellsOfC c = C) (hCW : C * W = 32) (hW1 : W = 2 ∨ W = 4 ∨ W = 8) (hC4 : 4 ≤ C) (hC16 : C ≤ 16) :
    Calls Tryz.prog 38 #[.pointer (some ⟨X.a, 0, none⟩), .int .i64 c] w (SeekPost s c w) := by
  have hT0 := hT
  have h0 := h.c0
  have hp64 := h.fits.p64
  have hW' : wN c = W := by unfold wN; omega
  have HC := Lib.hid hC
  have HW := Lib.hid hW
  have HW' := Lib.hid hW'
  have HCW := Lib.hid hCW
  clear hC hW hW' hCW
  have hc0 : ¬ (-1 : Int) = c := by rcases okC_cases hc with x | x | x <;> omega
  go_enter Tryz.func38, Tryz.ntmps38
  go_wp2_with fail
  go_step3
  go_wp2_with fail
  go_step3
  go_wp2_with fail
  clear h0
  go_loopw [6, 18] (fun v6 v18 wr => SeekO s w c v6 v18 wr) (fun _ v18 _ => s.P - (intOf v18).toNat)
  case atStart => exact ⟨0, Nat.zero_le _, rfl, rfl, Below.refl _ _, fun r hr => by simp [free1]; omega⟩
  case round =>
    obtain ⟨p, hp, rfl, rfl, hBr, hfree⟩ := hrel
    have hA := h.below hBr
    have hT := hT0.below hBr
    have HF := Lib.hid hfree
    clear hfree
    have hpos : (0 : Int) < C := by omega
    by_cases hlt : p < s.P
    · have h0 : wr.cell? ⟨X.c, p, none⟩ = some (.int .i64 (s.cls p)) := cell_row hA.page hlt
      by_cases hcl : s.cls p = c
      · rw [hcl] at h0
        have HCL := Lib.hid hcl
        clear hcl
        go_wp2_with fail
        refine (cellsW c C _ hT HC.out).mono ?_
        rintro e w' ⟨rfl, rfl⟩
        go_wp2_with fail
        clear h0
        go_loopw [6, 25] (fun v6 v25 wr => SeekI s w c p W C v6 v25 wr) (fun _ v25 _ => C - (intOf v25).toNat)
        case atStart => exact ⟨0, Nat.zero_le _, rfl, rfl, hBr, fun r hr => HF.out r (by omega)⟩
        case round =>
          clear hA hT HF hBr
          obtain ⟨k, hk, rfl, rfl, hBr, hfree⟩ := hrel
          have hA := h.below hBr
          have hT := hT0.below hBr
          have HF := Lib.hid hfree
          clear hfree
          by_cases hkC : k < C
          · have hkW := kW_le HCW.out hW1 hkC
            obtain ⟨o, ho⟩ : ∃ o, o = k * W := ⟨_, rfl⟩
            have cO := offsetW c k W C _ hT HW.out HC.out hkC
            rw [← ho] at cO hkW
            have HO := Lib.hid ho
            clear ho
            have hn1 : (c == -1) = false := not_eqb (fun e => hc0 e.symm)
            go_wp2_with fail
            refine cO.mono ?_
            rintro e w' ⟨rfl, rfl⟩
            go_wp2_with fail
            refine (ref_any _ _ (by omega) (by omega) (by omega) (by omega)).mono ?_
            rintro e w' ⟨rfl, rfl⟩
            go_wp2_with fail
            clear cO
            cases hS : s.S (32 * p + k * W + 1) with
            | true =>
              have HS := Lib.hid hS
              clear hS
              refine (hasW hA.toArMem (32 * p + k * W + 1) _ true (by rw [HO.out]; omega) HS.out).mono ?_
              rintro e w4 ⟨rfl, hB4⟩
              clear hn1
              go_wp2_with fail
              go_roundw
              case rel => exact SeekI.mk _ (k := k + 1) (by omega) (by omega) hBr hB4 (free_next HW'.out HCW.out hkC hW1 HF.out HS.out)
              case measure => simp [intOf]; omega
            | false =>
              have HS := Lib.hid hS
              clear hS
              refine (hasW hA.toArMem (32 * p + k * W + 1) _ false (by rw [HO.out]; omega) HS.out).mono ?_
              rintro e w4 ⟨rfl, hB4⟩
              obtain ⟨f1, f2⟩ := free_cell HW'.out HCW.out hkC hW1 hlt HCL.out HF.out HS.out
              have HR := Lib.hid (seekF_cell hc f1 f2)
              clear f1 f2 hn1
              go_wp2_with fail
              rw [Exit.noGoto_ret]
              go_ret2
              exact seek_post rfl (by rw [HO.out]; omega) (bne_iff_ne.2 (by omega)).symm (below_step hBr hB4) HR.out
          · obtain rfl : k = C := by omega
            have hpos' : ¬ ((k : Int) < k) := by omega
            go_wp2_with fail
            go_roundw
            case rel => exact SeekO.mk _ _ (p := p + 1) (by omega) (by rw [spare_up (.inl (by rw [HCL.out]; exact fun e => hc0 e.symm))]) hlt hBr (fun r hr => HF.out r (by rw [HCW.out]; omega))
            case measure => simp [intOf]; omega
      · have hclE : (s.cls p == c) = false := not_eqb hcl
        have hclN : (s.cls p != c) = true := bne_iff_ne.2 hcl
        have HN := Lib.hid (free_other hcl HF.out)
        clear HF
        have cO := fun (wx : World) (hTx : TableAt wx) => offsetW c 0 W C wx hTx HW.out HC.out (by omega)
        rw [Nat.zero_mul] at cO
        by_cases hm : s.cls p = -1
        · rw [hm] at h0 hclE hclN
          have HM := Lib.hid hm
          clear hm hcl
          by_cases hz : spare s p = 0
          · have HZ := Lib.hid hz
            rw [hz]
            clear hz
            go_wp2_with fail
            refine (cellsW c C _ hT HC.out).mono ?_
            rintro e w' ⟨rfl, rfl⟩
            go_wp2_with fail
            clear h0
            go_loopw [6, 25] (fun v6 v25 wx => v6 = .int .i64 0 ∧ v25 = .int .i64 0 ∧ wr = wx) (fun _ _ _ => 0)
            case atStart => exact ⟨rfl, rfl, rfl⟩
            case round =>
              obtain ⟨rfl, rfl, rfl⟩ := hrel
              go_wp2_with fail
              refine (cO _ hT).mono ?_
              rintro e w' ⟨rfl, rfl⟩
              go_wp2_with fail
              refine (ref_any _ _ (by omega) (by omega) (by omega) (by omega)).mono ?_
              rintro e w' ⟨rfl, rfl⟩
              go_wp2_with fail
              go_roundw
              case rel => exact SeekO.mk _ _ (p := p + 1) (by omega) (by rw [spare_at HM.out HZ.out]; omega) hlt hBr HN.out
              case measure => simp [intOf]; omega
          · have hzE : (((spare s p : Nat) : Int) == 0) = false := not_eqb (by omega)
            have HZ := Lib.hid hz
            clear hz
            go_wp2_with fail
            refine (cellsW c C _ hT HC.out).mono ?_
            rintro e w' ⟨rfl, rfl⟩
            go_wp2_with fail
            clear h0
            go_loopw [6, 25] (fun v6 v25 wx => v6 = .int .i64 ((spare s p : Nat) : Int) ∧ v25 = .int .i64 0 ∧ wr = wx) (fun _ _ _ => 0)
            case atStart => exact ⟨rfl, rfl, rfl⟩
            case round =>
              obtain ⟨rfl, rfl, rfl⟩ := hrel
              go_wp2_with fail
              refine (cO _ hT).mono ?_
              rintro e w' ⟨rfl, rfl⟩
              go_wp2_with fail
              refine (ref_any _ _ (by omega) (by omega) (by omega) (by omega)).mono ?_
              rintro e w' ⟨rfl, rfl⟩
              go_wp2_with fail
              go_roundw
              case rel => exact SeekO.mk _ _ (p := p + 1) (by omega) (by rw [spare_up (.inr HZ.out)]) hlt hBr HN.out
              case measure => simp [intOf]; omega
        · have hmE : (s.cls p == -1) = false := not_eqb hm
          have HM := Lib.hid hm
          clear hm hcl
          go_wp2_with fail
          refine (cellsW c C _ hT HC.out).mono ?_
          rintro e w' ⟨rfl, rfl⟩
          go_wp2_with fail
          clear h0
          go_loopw [6, 25] (fun v6 v25 wx => v6 = .int .i64 ((spare s p : Nat) : Int) ∧ v25 = .int .i64 0 ∧ wr = wx) (fun _ _ _ => 0)
          case atStart => exact ⟨rfl, rfl, rfl⟩
          case round =>
            obtain ⟨rfl, rfl, rfl⟩ := hrel
            go_wp2_with fail
            refine (cO _ hT).mono ?_
            rintro e w' ⟨rfl, rfl⟩
            go_wp2_with fail
            refine (ref_any _ _ (by omega) (by omega) (by omega) (by omega)).mono ?_
            rintro e w' ⟨rfl, rfl⟩
            go_wp2_with fail
            go_roundw
            case rel => exact SeekO.mk _ _ (p := p + 1) (by omega) (by rw [spare_up (.inl HM.out)]) hlt hBr HN.out
            case measure => simp [intOf]; omega
    · obtain rfl : p = s.P := by omega
      go_wp2_with fail
      rw [Exit.noGoto_ret]
      go_ret2
      exact seek_post rfl rfl rfl hBr (seekF_page hc HF.out)
end Go.Proofs.YtidpmplkbgllfaaGreatDoor

namespace Go.Proofs.YtidpmplkbgllfaaGreatDoor
open Go Go.RowKit Go.Shelf Go.MuLone Go.RwLone
set_option linter.unusedSimpArgs false
set_option linter.unusedVariables false

theorem cells_none {c : Int} (h : okC c = false) : cellsOfC c = ((0 : Nat) : Int) := by
  have : c < 0 ∨ 2 < c := by simp [okC] at h; omega
  unfold cellsOfC
  rw [if_neg (by omega), if_neg (by omega), if_neg (by omega)]; rfl

set_option maxRecDepth 100000 in
set_option maxHeartbeats 4000000 in
theorem seek_no {w : World} {X : ArB} {s : ArS} (h : ArAt w X s) (hT : TableAt w) (c : Int) (hc : okC c = false) :
    Calls Tryz.prog 38 #[.pointer (some ⟨X.a, 0, none⟩), .int .i64 c] w (SeekPost s c w) := by
  have h0 := h.c0
  have hp64 := h.fits.p64
  have cC := cellsW c 0 w hT (cells_none hc)
  go_enter Tryz.func38, Tryz.ntmps38
  go_wp2_with fail
  go_step3
  go_wp2_with fail
  go_step3
  go_wp2_with fail
  clear h0
  go_loopw [6, 18] (fun v6 v18 wr => ∃ p : Nat, p ≤ s.P ∧ v6 = .int .i64 0 ∧ v18 = .int .i64 (p : Int) ∧ w = wr) (fun _ v18 _ => s.P - (intOf v18).toNat)
  case atStart => exact ⟨0, Nat.zero_le _, rfl, rfl, rfl⟩
  case round =>
    obtain ⟨p, hp, rfl, rfl, rfl⟩ := hrel
    by_cases hlt : p < s.P
    · have h0 : w.cell? ⟨X.c, p, none⟩ = some (.int .i64 (s.cls p)) := cell_row h.page hlt
      go_wp2_with fail
      refine cC.mono ?_
      rintro e w' ⟨rfl, rfl⟩
      go_wp2_with fail
      clear h0
      go_loopw [6, 25] (fun v6 v25 wx => v6 = .int .i64 0 ∧ v25 = .int .i64 0 ∧ w = wx) (fun _ _ _ => 0)
      case atStart => exact ⟨rfl, rfl, rfl⟩
      case round =>
        obtain ⟨rfl, rfl, rfl⟩ := hrel
        go_wp2_with fail
        go_roundw
        case rel => exact ⟨p + 1, by omega, rfl, by go_num, trivial⟩
        case measure => simp [intOf]; omega
    · go_wp2_with fail
      rw [Exit.noGoto_ret]
      go_ret2
      exact seek_post rfl rfl rfl (Below.refl _ _) (seekF_bad hc)

theorem seek_any {w : World} {X : ArB} {s : ArS} (h : ArAt w X s) (hT : TableAt w) (c : Int) :
    Calls Tryz.prog 38 #[.pointer (some ⟨X.a, 0, none⟩), .int .i64 c] w (SeekPost s c w) := by
  cases hc : okC c with
  | false => exact seek_no h hT c hc
  | true =>
    rcases okC_cases hc with rfl | rfl | rfl
    · exact seek_yes h hT 0 hc 2 16 rfl rfl rfl (by omega) (by omega) (by omega)
    · exact seek_yes h hT 1 hc 4 8 rfl rfl rfl (by omega) (by omega) (by omega)
    · exact seek_yes h hT 2 hc 8 4 rfl rfl rfl (by omega) (by omega) (by omega)

section
variable {w : World} {X : ArB} {s : ArS}

/-- How many of the first pages are free. -/
def freeTo (s : ArS) (p : Nat) : Nat := (List.range p).countP fun q => s.cls q == -1
theorem freeTo_succ (s : ArS) (p : Nat) : freeTo s (p + 1) = freeTo s p + if s.cls p = -1 then 1 else 0 := by
  unfold freeTo
  rw [List.range_succ, List.countP_append]
  by_cases h : s.cls p = -1 <;> simp [h]
theorem freeTo_le (s : ArS) (p : Nat) : freeTo s p ≤ p := by
  unfold freeTo
  have := List.countP_le_length (p := fun q => s.cls q == -1) (l := List.range p)
  simpa using this

set_option maxHeartbeats 1000000 in
theorem free_any (h : ArAt w X s) :
    Calls Tryz.prog 23 #[.pointer (some ⟨X.a, 0, none⟩)] w fun e w' => e = .returned (.int .i64 ((freeTo s s.P : Nat) : Int)) ∧ w = w' := by
  have h0 := h.c0
  have hp64 := h.fits.p64
  go_enter Tryz.func23, Tryz.ntmps23
  go_wp2_with fail
  clear h0
  go_loopw [3, 11] (fun v3 v11 wx => ∃ p : Nat, p ≤ s.P ∧ v3 = .int .i64 ((freeTo s p : Nat) : Int) ∧ v11 = .int .i64 (p : Int) ∧ w = wx) (fun _ v11 _ => s.P - (intOf v11).toNat)
  case atStart => exact ⟨0, Nat.zero_le _, rfl, rfl, rfl⟩
  case round =>
    obtain ⟨p, hp, rfl, rfl, rfl⟩ := hrel
    by_cases hlt : p < s.P
    · have h0 : w.cell? ⟨X.c, p, none⟩ = some (.int .i64 (s.cls p)) := cell_row h.page hlt
      have hfl := freeTo_le s p
      have hfs := freeTo_succ s p
      by_cases hm : s.cls p = -1
      · rw [hm] at h0
        rw [if_pos hm] at hfs
        have HF := Lib.hid hfs
        clear hfs hm
        go_wp2_with fail
        go_roundw
        case rel => exact ⟨p + 1, by omega, by rw [HF.out]; go_num, by go_num, trivial⟩
        case measure => simp [intOf]; omega
      · have hmE : (s.cls p == -1) = false := not_eqb hm
        rw [if_neg hm] at hfs
        have HF := Lib.hid hfs
        clear hfs hm
        go_wp2_with fail
        go_roundw
        case rel => exact ⟨p + 1, by omega, by rw [HF.out]; go_num, by go_num, trivial⟩
        case measure => simp [intOf]; omega
    · obtain rfl : p = s.P := by omega
      go_wp2_with fail
      go_ret
      exact ⟨rfl, rfl⟩

/-- Has the arena a word i of a cell r? -/
def hasWd (s : ArS) (r i : Int) : Bool := inS s.S r && (decide (0 ≤ i) && decide (i < wordsOf (s.cls (pg r.toNat))))

set_option maxHeartbeats 1000000 in
theorem hasWord_any (h : ArAt w X s) (hT : TableAt w) (r i : Int) :
    Calls Tryz.prog 70 #[.pointer (some ⟨X.a, 0, none⟩), .int .i64 r, .int .i64 i] w fun e w' => e = .returned (.bool (hasWd s r i)) ∧ Below w.heap.size w w' := by
  have cH := has_any h.toArMem r
  cases hS : inS s.S r with
  | false =>
    have hw : hasWd s r i = false := by simp [hasWd, hS]
    rw [hw]
    rw [hS] at cH
    clear hw hS
    go_enter Tryz.func70, Tryz.ntmps70
    go_wp2_with fail
    refine cH.mono ?_
    rintro e w1 ⟨rfl, hB⟩
    clear cH
    go_wp2_with fail
    go_ret
    exact ⟨rfl, hB⟩
  | true =>
    rw [hS] at cH
    by_cases h0 : 0 ≤ i
    · have hr : 0 ≤ r ∧ s.S r.toNat = true := by simpa [inS] using hS
      obtain ⟨n, rfl⟩ : ∃ n : Nat, r = n := ⟨r.toNat, by omega⟩
      obtain ⟨a1, a2, a3, _⟩ := h.fits.at_ n (by simpa using hr.2)
      have hw : hasWd s (n : Int) i = decide (i < wordsOf (s.cls (pg n))) := by simp [hasWd, hS, h0]
      rw [hw]
      obtain ⟨c, hcq⟩ : ∃ c, s.cls (pg n) = c := ⟨_, rfl⟩
      obtain ⟨W, hWq⟩ : ∃ W, wordsOf c = W := ⟨_, rfl⟩
      rw [hcq, hWq]
      have HCQ := Lib.hid hcq
      have HWQ := Lib.hid hWq
      have HS := Lib.hid hS
      clear hw hS hr hcq hWq
      go_enter Tryz.func70, Tryz.ntmps70
      go_wp2_with fail
      refine cH.mono ?_
      rintro e w1 ⟨rfl, hB⟩
      have hA := h.below hB
      have hT1 := hT.below hB
      have cP := page_yes hA.toArMem n a1 a2
      have cC := class_any hA.toArMem ((pg n : Nat) : Int)
      have e2 : clsI s ((pg n : Nat) : Int) = s.cls (pg n) := by
        unfold clsI; rw [if_pos (by unfold pg; omega)]; rfl
      rw [e2, HCQ.out] at cC
      have cW := wordsC_any c w1 hT1
      rw [HWQ.out] at cW
      have hw3 : W ≤ 8 := by
        rw [← HWQ.out]
        rcases cells_words c with ⟨e, _⟩ | ⟨e, _⟩ | ⟨e, _⟩ | ⟨e, _⟩ <;> omega
      clear e2 cH
      by_cases hlt : i < W
      · have hd : decide (i < W) = true := decide_eq_true hlt
        have HD := Lib.hid hd
        clear hd
        go_wp2_with fail
        refine cP.mono ?_
        rintro e w' ⟨rfl, rfl⟩
        go_wp2_with fail
        refine cC.mono ?_
        rintro e w' ⟨rfl, rfl⟩
        go_wp2_with fail
        refine cW.mono ?_
        rintro e w' ⟨rfl, rfl⟩
        go_wp2_with fail
        go_ret
        exact ⟨ret_bool HD.out.symm, hB⟩
      · have hd : decide (i < W) = false := decide_eq_false hlt
        have HD := Lib.hid hd
        clear hd
        go_wp2_with fail
        refine cP.mono ?_
        rintro e w' ⟨rfl, rfl⟩
        go_wp2_with fail
        refine cC.mono ?_
        rintro e w' ⟨rfl, rfl⟩
        go_wp2_with fail
        refine cW.mono ?_
        rintro e w' ⟨rfl, rfl⟩
        go_wp2_with fail
        go_ret
        exact ⟨rfl, hB⟩
    · have hw : hasWd s r i = false := by simp [hasWd, h0]
      rw [hw]
      have HS := Lib.hid hS
      clear hw hS
      go_enter Tryz.func70, Tryz.ntmps70
      go_wp2_with fail
      refine cH.mono ?_
      rintro e w1 ⟨rfl, hB⟩
      clear cH
      go_wp2_with fail
      go_ret
      exact ⟨rfl, hB⟩
end
end Go.Proofs.YtidpmplkbgllfaaGreatDoor

namespace Go.Proofs.YtidpmplkbgllfaaGreatDoor
open Go Go.RowKit Go.Shelf Go.MuLone Go.RwLone
set_option linter.unusedSimpArgs false
set_option linter.unusedVariables false

section
variable {w : World} {X : ArB} {s : ArS}

theorem hasWd_is (hF : Fits s) {r i : Int} (h : hasWd s r i = true) : ∃ n k : Nat, r = n ∧ i = k ∧ s.S n = true ∧ k < wN (s.cls (pg n)) ∧ 1 ≤ n ∧ n + k ≤ 32 * s.P := by
  simp only [hasWd, inS, Bool.and_eq_true, decide_eq_true_eq] at h
  obtain ⟨⟨h1, h2⟩, h3, h4⟩ := h
  obtain ⟨n, rfl⟩ : ∃ n : Nat, r = n := ⟨r.toNat, by omega⟩
  obtain ⟨k, rfl⟩ : ∃ k : Nat, i = k := ⟨i.toNat, by omega⟩
  rw [Int.toNat_natCast] at h2 h4
  obtain ⟨a1, a2, a3, a4⟩ := hF.at_ n h2
  refine ⟨n, k, rfl, rfl, h2, by unfold wN; omega, a1, ?_⟩
  rcases okC_cases a3 with e | e | e <;> rw [e] at h4 a4 <;> simp [wN, wordsOf] at h4 a4 <;> omega

def wordI (s : ArS) (r i : Int) : Int := if hasWd s r i = true then s.ws (r + i).toNat else 0
def ArS.setW (s : ArS) (r i x : Int) : ArS := if hasWd s r i = true then { s with ws := upd s.ws (r + i).toNat x } else s
theorem Fits.setW (h : Fits s) (r i x : Int) : Fits (s.setW r i x) := by
  unfold ArS.setW
  split
  · exact ⟨h.p64, h.cl, h.at_, h.used⟩
  · exact h

theorem word_any (h : ArAt w X s) (hT : TableAt w) (r i : Int) :
    Calls Tryz.prog 49 #[.pointer (some ⟨X.a, 0, none⟩), .int .i64 r, .int .i64 i] w fun e w' => e = .returned (.int .i64 (wordI s r i)) ∧ Below w.heap.size w w' := by
  have cH := hasWord_any h hT r i
  unfold wordI
  cases hw : hasWd s r i with
  | false =>
    rw [if_neg (by decide)]
    rw [hw] at cH
    clear hw
    go_enter Tryz.func49, Tryz.ntmps49
    go_wp2_with fail
    refine cH.mono ?_
    rintro e w1 ⟨rfl, hB⟩
    clear cH
    go_wp2_with fail
    go_ret
    exact ⟨rfl, hB⟩
  | true =>
    rw [if_pos rfl]
    rw [hw] at cH
    obtain ⟨n, k, rfl, rfl, hS, hk, h1, h2⟩ := hasWd_is h.fits hw
    have hp := h.fits.p64
    rw [show ((n : Int) + (k : Int)).toNat = n + k by omega]
    clear hw hS hk
    go_enter Tryz.func49, Tryz.ntmps49
    go_wp2_with fail
    refine cH.mono ?_
    rintro e w1 ⟨rfl, hB⟩
    have hA := h.below hB
    have c2 := hA.c2
    have c3 := cell_row hA.word (k := n + k) (by omega)
    have hle : (n : Int) + (k : Int) < ((32 * s.P + 1 : Nat) : Int) := by omega
    clear cH
    obtain ⟨N, hN⟩ : ∃ N, N = 32 * s.P + 1 := ⟨_, rfl⟩
    rw [← hN] at c2 hle
    have hN2 : N ≤ 2049 := by omega
    clear hN
    go_wp2_with fail
    go_ret
    exact ⟨rfl, hB⟩

theorem set_any (h : ArAt w X s) (hT : TableAt w) (r i x : Int) :
    Calls Tryz.prog 48 #[.pointer (some ⟨X.a, 0, none⟩), .int .i64 r, .int .i64 i, .int .i64 x] w (ArPost X (.bool (hasWd s r i)) (s.setW r i x) w) := by
  have cH := hasWord_any h hT r i
  have hF := h.fits.setW r i x
  unfold ArS.setW at hF ⊢
  cases hw : hasWd s r i with
  | false =>
    rw [if_neg (by decide)]
    rw [hw] at cH
    clear hw hF
    go_enter Tryz.func48, Tryz.ntmps48
    go_wp2_with fail
    refine cH.mono ?_
    rintro e w1 ⟨rfl, hB⟩
    clear cH
    go_wp2_with fail
    go_ret
    exact (ArStep.ofBelow X hB h.lt).post rfl (h.below hB)
  | true =>
    rw [if_pos hw] at hF
    rw [if_pos rfl]
    rw [hw] at cH
    obtain ⟨n, k, rfl, rfl, hS, hk, h1, h2⟩ := hasWd_is h.fits hw
    have hp := h.fits.p64
    rw [show ((n : Int) + (k : Int)).toNat = n + k by omega] at hF ⊢
    clear hw hS hk
    have HF := Lib.hid hF
    clear hF
    go_enter Tryz.func48, Tryz.ntmps48
    go_wp2_with fail
    refine cH.mono ?_
    rintro e w1 ⟨rfl, hB⟩
    have hA := h.below hB
    have c2 := hA.c2
    have c3 := cell_row hA.word (k := n + k) (by omega)
    have c4 := hA.word.free (n + k)
    have hle : (n : Int) + (k : Int) < ((32 * s.P + 1 : Nat) : Int) := by omega
    have hlt : n + k < 32 * s.P + 1 := by omega
    have hne : X.a ≠ X.w ∧ X.c ≠ X.w ∧ X.b ≠ X.w := ⟨h.ne.aw, h.ne.cw, fun e => h.ne.wb e.symm⟩
    have hF2 : ArAt (w1.setCell ⟨X.w, n + k, none⟩ (.int .i64 x)) X { s with ws := upd s.ws (n + k) x } := by
      have hT : Turn (fun b => b = X.w) w1 (w1.setCell ⟨X.w, n + k, none⟩ (.int .i64 x)) := (Turn.refl (fun b => b = X.w) w1).set _ _ (.inr rfl)
      refine ⟨⟨hA.head.turn hT hA.ne.aw, hA.page.turn hT hA.ne.cw, ?_, hA.set.turn hT (fun e => hA.ne.wb e.symm) (fun l hl e => hA.ne.lw (by rw [hl, e])), hA.ne, hp⟩, HF.out⟩
      have hB := hA.word.setAt (n + k) (.int .i64 x)
      rw [row_set _ _ hlt] at hB
      exact hB
    have hS2 : ArStep X w X (w1.setCell ⟨X.w, n + k, none⟩ (.int .i64 x)) := ⟨.inl rfl, rfl, ((ArStep.ofBelow X hB h.lt).turn).set _ _ (.inr (.inr (.inr (.inl rfl))))⟩
    clear cH hne hlt HF hA
    generalize s.ws (n + k) = v at *
    obtain ⟨N, hN⟩ : ∃ N, N = 32 * s.P + 1 := ⟨_, rfl⟩
    rw [← hN] at c2 hle
    have hN2 : N ≤ 2049 := by omega
    clear hN
    go_wp2_with fail
    go_ret
    exact hS2.post rfl hF2

/-- Size and Page, over the head alone. -/
theorem size_head {P : Nat} (hB : Blk w X.a (arArr X P) 76) : Calls Tryz.prog 32 #[.pointer (some ⟨X.a, 0, none⟩)] w fun e w' => e = .returned (.int .i64 ((32 * P + 1 : Nat) : Int)) ∧ w = w' := by
  have h0 : w.cell? ⟨X.a, 2, none⟩ = some (.slice (some ⟨X.w, 0, none⟩) (32 * P + 1) (32 * P + 1)) := hB.cell 2
  obtain ⟨n, hn⟩ : ∃ n, n = 32 * P + 1 := ⟨_, rfl⟩
  rw [← hn] at h0 ⊢
  clear hn
  go_enter Tryz.func32, Tryz.ntmps32
  go_wp2
  go_ret
  exact ⟨rfl, rfl⟩
theorem page_head {P : Nat} (hB : Blk w X.a (arArr X P) 76) (hp : P ≤ 64) (r : Nat) (h1 : 1 ≤ r) (h2 : r ≤ 32 * P) : Calls Tryz.prog 16 #[.pointer (some ⟨X.a, 0, none⟩), .int .i64 r] w fun e w' => e = .returned (.int .i64 ((pg r : Nat) : Int)) ∧ w = w' := by
  have cS := size_head hB
  obtain ⟨n, hn⟩ : ∃ n, n = 32 * P + 1 := ⟨_, rfl⟩
  rw [← hn] at cS
  have h3 : (r : Int) < n := by omega
  have h4 : (1 : Int) ≤ r := by omega
  have h5 : (r : Int) ≤ 2048 := by omega
  clear hn hB h1 h2 hp
  go_enter Tryz.func16, Tryz.ntmps16
  go_wp2_with fail
  refine cS.mono ?_
  rintro e w' ⟨rfl, rfl⟩
  go_wp2_with fail
  go_ret
  exact ⟨ret_num (by unfold pg; omega), rfl⟩
end
end Go.Proofs.YtidpmplkbgllfaaGreatDoor

namespace Go.Proofs.YtidpmplkbgllfaaGreatDoor
open Go Go.RowKit Go.Shelf Go.MuLone Go.RwLone
set_option linter.unusedSimpArgs false
set_option linter.unusedVariables false

theorem clr_zero (f : Nat → Int) (o : Nat) : clr f o 0 = f := by funext q; simp only [clr]; rw [if_neg (by omega)]
theorem clr_upd (f : Nat → Int) (o m : Nat) : clr (upd f o 0) (o + 1) m = clr f o (m + 1) := by
  funext q
  simp only [clr, upd]
  by_cases h1 : o + 1 ≤ q ∧ q < o + 1 + m
  · rw [if_pos h1, if_pos (by omega)]
  · rw [if_neg h1]
    by_cases h2 : q = o
    · rw [if_pos h2, if_pos (by omega)]
    · rw [if_neg h2, if_neg (by omega)]
theorem Blk.zeros {b n : Nat} {T : TypeId} : ∀ (m o : Nat) (f : Nat → Int) (w : World), Blk w b (row n f) T → o + m ≤ n → Blk (w.setCells b o (List.replicate m (.int .i64 0))) b (row n (clr f o m)) T
  | 0, o, f, w, h, _ => by rw [clr_zero]; exact h
  | m + 1, o, f, w, h, hm => by
    rw [List.replicate_succ, World.setCells, ← clr_upd]
    refine Blk.zeros m (o + 1) _ _ ?_ (by omega)
    have h2 := h.setAt o (.int .i64 0)
    rw [row_set _ _ (by omega)] at h2
    exact h2
theorem Turn.setCells {M : Nat → Prop} {b : Nat} : ∀ (vs : List Value) (o : Nat) (w w' : World), Turn M w w' → M b → Turn M w (w'.setCells b o vs)
  | [], _, _, _, h, _ => h
  | v :: vs, o, w, w', h, hb => Turn.setCells vs (o + 1) w _ (h.set ⟨b, o, none⟩ v (.inr hb)) hb

theorem wordsW (c : Int) (W : Nat) (w : World) (hT : TableAt w) (h : wordsOf c = W) : Calls Tryz.prog 40 #[.int .i64 c] w fun e w' => e = .returned (.int .i64 (W : Int)) ∧ w = w' := by
  rw [← h]; exact wordsC_any c w hT
theorem zero_int (w : World) : (zeroValue 3).run Tryz.prog w = .ok (.int .i64 0) w := by kernel_rfl

section
variable {w : World} {X : ArB} {s : ArS}

theorem take_no (h : ArAt w X s) (hT : TableAt w) (c : Int) (h0 : seekF s c = 0) :
    Calls Tryz.prog 14 #[.pointer (some ⟨X.a, 0, none⟩), .int .i64 c] w (ArPost X (.tuple #[.int .i64 0, .bool false]) s w) := by
  have cS := seek_any h hT c
  unfold SeekPost at cS
  rw [h0] at cS
  clear h0
  go_enter Tryz.func14, Tryz.ntmps14
  go_wp2_with fail
  refine cS.mono ?_
  rintro e w1 ⟨rfl, hB⟩
  clear cS
  go_wp2_with fail
  go_ret2
  exact (ArStep.ofBelow X hB h.lt).post rfl (h.below hB)

set_option maxRecDepth 100000 in
set_option maxHeartbeats 4000000 in
theorem take_yes (h : ArAt w X s) (hT : TableAt w) (c : Int) (r W : Nat) (hr : seekF s c = r) (h1 : 1 ≤ r) (h2 : r + W ≤ 32 * s.P + 1) (hfree : s.S r = false) (hW : wordsOf c = W) (hW1 : 1 ≤ W) (hW8 : W ≤ 8) (hF : Fits (s.take c))
    (hs : s.take c = { s with cls := upd s.cls (pg r) c, S := putN s.S r, ws := clr s.ws r W }) :
    Calls Tryz.prog 14 #[.pointer (some ⟨X.a, 0, none⟩), .int .i64 c] w (ArPost X (.tuple #[.int .i64 (r : Int), .bool true]) (s.take c) w) := by
  have cS := seek_any h hT c
  unfold SeekPost at cS
  rw [hr] at cS
  rw [bne_iff_ne.2 (show ((r : Nat) : Int) ≠ 0 by omega)] at cS
  rw [hs] at hF ⊢
  have hp := h.fits.p64
  have HW := Lib.hid hW
  have HF := Lib.hid hF
  have HS := Lib.hid hfree
  clear hr hs hF hW hfree
  go_enter Tryz.func14, Tryz.ntmps14
  go_wp2_with fail
  refine cS.mono ?_
  rintro e w1 ⟨rfl, hB⟩
  have hA := h.below hB
  have hSt := ArStep.ofBelow X hB h.lt
  have hT1 := hT.below hB
  clear cS hB
  have k1 : w1.cell? ⟨X.a, 1, none⟩ = some (.pointer (some ⟨X.b, 0, none⟩)) := hA.c1
  go_wp2_with fail
  have cP : Calls Tryz.prog 39 #[.pointer (some ⟨X.b, 0, none⟩), .int .i64 r] w1 (TurnPost X.b X.lo (32 * s.P + 1) true (putN s.S r) w1) := put_at X.b X.lo (32 * s.P + 1) s.S (putN s.S r) true r w1 (by omega) hA.set (by rw [HS.out]; rfl) rfl
  refine cP.mono ?_
  intro e w2 hP
  obtain ⟨lo2, rfl, hlo, hTn, b1, b2, b3, b4, b5⟩ := hA.turned hP
  have hT2 := hT1.turn hTn (hT1.far hA)
  have hne2 : ¬ X.has 0 := hT1.far hA
  have hSt2 : ArStep X w1 (X.with lo2) w2 := ⟨hlo, rfl, hTn⟩
  replace hSt := hSt.trans hSt2
  replace b1 : Blk w2 X.a (arArr X s.P) 76 := b1
  replace b2 : Blk w2 X.c (row s.P s.cls) 3 := b2
  replace b3 : Blk w2 X.w (row (32 * s.P + 1) s.ws) 3 := b3
  replace b4 : SetAt w2 X.b lo2 (32 * s.P + 1) (putN s.S r) := b4
  replace b5 : ArNe (X.with lo2) := b5
  clear hP cP k1 hSt2 hlo hTn hA
  have hpg : pg r < s.P := by unfold pg; omega
  have d0 : w2.cell? ⟨X.a, 0, none⟩ = some (.slice (some ⟨X.c, 0, none⟩) s.P s.P) := b1.cell 0
  have d1 : w2.cell? ⟨X.c, pg r, none⟩ = some (.int .i64 (s.cls (pg r))) := cell_row b2 hpg
  have d2 : w2.frozen? ⟨X.c, pg r, none⟩ = false := b2.free _
  have d3 : (pg r : Int) < s.P := by omega
  have d4 : X.a ≠ X.c := b5.ac
  have d5 : (w2.setCell ⟨X.c, pg r, none⟩ (.int .i64 c)).drew.cell? ⟨X.a, 0, none⟩ = some (.slice (some ⟨X.c, 0, none⟩) s.P s.P) := (b1.setOther ⟨X.c, pg r, none⟩ (.int .i64 c) b5.ac).cell 0
  have cPg := fun n => page_head (X := X) (w := w2.drewN n) (b1.drewN n) hp r h1 (by omega)
  have cPg0 := page_head (X := X) (w := w2.drew) b1.drew hp r h1 (by omega)
  go_wp2_with fail
  clear hT hT1
  go_region_held3 (fun w' => w'.cell? ⟨X.a, 0, none⟩ = some (.slice (some ⟨X.c, 0, none⟩) s.P s.P)) (first | exact d0 | exact d5)
    (first
      | (go_at_call 16; refine cPg0.mono ?_; rintro e w' ⟨rfl, rfl⟩))
  have hT3 : TableAt ((w2.setCell ⟨X.c, pg r, none⟩ (.int .i64 c)).drew) := hT2.turn (((Turn.refl (fun k => k = X.c) w2).set ⟨X.c, pg r, none⟩ (.int .i64 c) (.inr rfl)).drew) (fun e => hne2 (.inr (.inl e)))
  have g1 : Blk ((w2.setCell ⟨X.c, pg r, none⟩ (.int .i64 c)).drew) X.a (arArr X s.P) 76 := (b1.setOther ⟨X.c, pg r, none⟩ (.int .i64 c) b5.ac)
  have g2 : Blk ((w2.setCell ⟨X.c, pg r, none⟩ (.int .i64 c)).drew) X.c (row s.P (upd s.cls (pg r) c)) 3 := by
    have := b2.setAt (pg r) (.int .i64 c)
    rw [row_set _ _ hpg] at this
    exact this
  have g3 : Blk ((w2.setCell ⟨X.c, pg r, none⟩ (.int .i64 c)).drew) X.w (row (32 * s.P + 1) s.ws) 3 := (b3.setOther ⟨X.c, pg r, none⟩ (.int .i64 c) (fun e => b5.cw e.symm))
  have hTt : Turn (fun k => k = X.c) w2 ((w2.setCell ⟨X.c, pg r, none⟩ (.int .i64 c)).drew) := ((Turn.refl (fun k => k = X.c) w2).set ⟨X.c, pg r, none⟩ (.int .i64 c) (.inr rfl)).drew
  have g4 : SetAt ((w2.setCell ⟨X.c, pg r, none⟩ (.int .i64 c)).drew) X.b lo2 (32 * s.P + 1) (putN s.S r) := b4.turn hTt (fun e => b5.cb e.symm) (fun l hl e => b5.lc (by show lo2 = some X.c; rw [hl, e]))
  have hSt3 : ArStep X w (X.with lo2) ((w2.setCell ⟨X.c, pg r, none⟩ (.int .i64 c)).drew) := ⟨hSt.lo, rfl, hSt.turn.trans hTt (fun k _ e => .inr (.inl e))⟩
  clear d0 d1 d2 d3 d4 d5 cPg cPg0 b1 b2 b3 b4 hT2 hTt hSt hpg
  generalize (w2.setCell ⟨X.c, pg r, none⟩ (.int .i64 c)).drew = w3 at *
  have e0 : w3.cell? ⟨X.a, 2, none⟩ = some (.slice (some ⟨X.w, 0, none⟩) (32 * s.P + 1) (32 * s.P + 1)) := g1.cell 2
  have hcl : ∀ ty, (Builtin.clear_ #[74] ty #[.slice (some ⟨X.w, r, none⟩) W (32 * s.P + 1 - r)]).run Tryz.prog w3.drew = .ok (.tuple #[]) (w3.drew.setCells X.w r (List.replicate W (.int .i64 0))) :=
    fun ty => Lib.run_clear_slice w3.drew _ _ ty _ Tryz.underlying74 zero_int rfl rfl X.w r W _ (by omega) (fun j hj => by
      have := cell_row g3 (k := r + j) (by omega)
      show (w3.cell? _).isSome = true
      rw [this]; rfl) (fun j hj => g3.free _)
  have e5 : (w3.drew.setCells X.w r (List.replicate W (.int .i64 0))).cell? ⟨X.a, 2, none⟩ = some (.slice (some ⟨X.w, 0, none⟩) (32 * s.P + 1) (32 * s.P + 1)) :=
    (World.cell?_setCells_out X.w _ r w3.drew ⟨X.a, 2, none⟩ (fun e _ => absurd e b5.aw)).trans e0
  have cWd := wordsW c W w3.drew hT3 HW.out
  have n1 : (r : Int) < ((32 * s.P + 1 : Nat) : Int) := by omega
  have n2 : (W : Int) ≤ ((32 * s.P + 1 - r : Nat) : Int) := by omega
  have n3 : (1 : Int) ≤ (r : Int) := by omega
  have hend : ArAt (w3.drew.setCells X.w r (List.replicate W (.int .i64 0))) (X.with lo2) { s with cls := upd s.cls (pg r) c, S := putN s.S r, ws := clr s.ws r W } := by
    have hTt : Turn (fun k => k = X.w) w3 (w3.drew.setCells X.w r (List.replicate W (.int .i64 0))) := Turn.setCells _ _ _ _ ((Turn.refl _ w3).drew) rfl
    exact ⟨⟨g1.turn hTt b5.aw, g2.turn hTt b5.cw, Blk.zeros W r s.ws w3.drew g3 (by omega), g4.turn hTt (fun e => b5.wb e.symm) (fun l hl e => b5.lw (by show lo2 = some X.w; rw [hl, e])), b5, hp⟩, HF.out⟩
  have hstep : ArStep X w (X.with lo2) (w3.drew.setCells X.w r (List.replicate W (.int .i64 0))) := ⟨hSt3.lo, rfl, Turn.setCells _ _ _ _ hSt3.turn.drew (.inr (.inr (.inl rfl)))⟩
  clear g1 g2 g3 g4 hSt3 HF h HS
  obtain ⟨N, hN⟩ : ∃ N, N = 32 * s.P + 1 := ⟨_, rfl⟩
  rw [← hN] at e0 hcl e5 n1 n2
  have n4 : N ≤ 2049 := by omega
  have n5 : ¬ N = r := by omega
  have n6 : ¬ N - r = 0 := by omega
  have n7 : r < N := by omega
  have n8 : W ≤ N - r := by omega
  have n9 : ¬ N ≤ r := by omega
  have n10 : r ≤ N := by omega
  clear hN h2
  go_wp2_with fail
  go_region_held3 (fun w' => w'.cell? ⟨X.a, 2, none⟩ = some (.slice (some ⟨X.w, 0, none⟩) N N)) (first | exact e0 | exact e5)
    (first
      | (go_at_call 40; refine cWd.mono ?_; rintro e w' ⟨rfl, rfl⟩))
  go_wp2_with fail
  go_ret2
  exact hstep.post rfl hend
end
end Go.Proofs.YtidpmplkbgllfaaGreatDoor

namespace Go.Proofs.YtidpmplkbgllfaaGreatDoor
open Go Go.RowKit Go.Shelf Go.MuLone Go.RwLone
set_option linter.unusedSimpArgs false
set_option linter.unusedVariables false
attribute [local go_sem] Oper.semAt_some

theorem wN_pos {c : Int} (hc : okC c = true) : (wN c = 2 ∨ wN c = 4 ∨ wN c = 8) ∧ wordsOf c = (wN c : Nat) := by
  rcases okC_cases hc with rfl | rfl | rfl <;> simp [wN, wordsOf]

theorem take_any {w : World} {X : ArB} {s : ArS} (h : ArAt w X s) (hT : TableAt w) (c : Int) :
    Calls Tryz.prog 14 #[.pointer (some ⟨X.a, 0, none⟩), .int .i64 c] w (ArPost X (.tuple #[.int .i64 ((seekF s c : Nat) : Int), .bool (decide (seekF s c ≠ 0))]) (s.take c) w) := by
  by_cases h0 : seekF s c = 0
  · rw [take_none h0, h0]; exact take_no h hT c h0
  · obtain ⟨hc, h1, h2, h3, h4, h5, h6⟩ := seekF_is h.fits h0
    obtain ⟨hw, hw2⟩ := wN_pos hc
    rw [decide_eq_true h0]
    have hr : (seekF s c - 1) % 32 + wN c ≤ 32 := by rcases hw with e | e | e <;> rw [e] at h5 ⊢ <;> omega
    exact take_yes h hT c (seekF s c) (wN c) rfl h1 (by omega) h4 hw2 (by omega) (by omega) (h.fits.take c) (take_some h0)

theorem ArMem.same {w w' : World} {X : ArB} {s : ArS} (h : ArMem w X s) (hk : ∀ k, X.has k → w'.heap[k]? = w.heap[k]?) : ArMem w' X s := by
  have hb := hk X.b (.inr (.inr (.inr (.inl rfl))))
  refine ⟨(hk _ (.inl rfl)).trans h.head, (hk _ (.inr (.inl rfl))).trans h.page, (hk _ (.inr (.inr (.inl rfl)))).trans h.word, ?_, h.ne, h.p64⟩
  obtain ⟨h1, h2, h3⟩ := h.set
  refine ⟨h1, h2, ?_⟩
  have hl : ∀ l, X.lo = some l → w'.heap[l]? = w.heap[l]? := fun l e => hk l (.inr (.inr (.inr (.inr e))))
  generalize X.lo = lo at *
  cases lo with
  | none => exact ⟨hb.trans h3.1, h3.2⟩
  | some l =>
    obtain ⟨h4, h5, ws, h6, h7⟩ := h3
    exact ⟨hb.trans h4, h5, ws, (hl l rfl).trans h6, h7⟩

theorem ArAt.same {w w' : World} {X : ArB} {s : ArS} (h : ArAt w X s) (hk : ∀ k, X.has k → w'.heap[k]? = w.heap[k]?) : ArAt w' X s := ⟨h.toArMem.same hk, h.fits⟩

/-- Which cells of a page are taken, by where they begin. -/
def inPage (S : Nat → Bool) (p : Nat) : Nat → Bool := fun o => S (32 * p + o + 1)
theorem elems_yes {T : Nat → Bool} {j : Nat} (h : T j = true) : elems T (j + 1) = elems T j ++ [j] := by
  unfold elems; rw [List.range_succ, List.filter_append]; simp [h]
theorem elems_no {T : Nat → Bool} {j : Nat} (h : T j = false) : elems T (j + 1) = elems T j := by
  unfold elems; rw [List.range_succ, List.filter_append]; simp [h]

/-- What a round over a page's cells keeps: the arena, the closure's boxes. -/
def KpAr (X : ArB) (B : Nat) (W W' : World) : Prop :=
  (∀ k, X.has k → W'.heap[k]? = W.heap[k]?) ∧ W'.heap[B]? = W.heap[B]? ∧ W'.heap[B + 1]? = W.heap[B + 1]?
theorem KpAr.trans {X : ArB} {B : Nat} {A C D : World} (h : KpAr X B A C) (k : KpAr X B C D) : KpAr X B A D :=
  ⟨fun i hi => (k.1 i hi).trans (h.1 i hi), k.2.1.trans h.2.1, k.2.2.trans h.2.2⟩
theorem KpAr.putObj {X : ArB} {B : Nat} {n0 : Nat} (hX : ∀ k, X.has k → k < n0) (hB : B + 1 < n0) (W : World) (l : Nat) (o : Obj) (h : n0 ≤ l) : KpAr X B W (W.putObj l o) :=
  ⟨fun k hk => World.putObj_heap_other (by have := hX k hk; omega), World.putObj_heap_other (by omega), World.putObj_heap_other (by omega)⟩
theorem KpAr.ofBelow {X : ArB} {B : Nat} {n0 : Nat} {W W' : World} (h : Below n0 W W') (hX : ∀ k, X.has k → k < n0) (hB : B + 1 < n0) : KpAr X B W W' :=
  ⟨fun k hk => h.block k (hX k hk), h.block _ (by omega), h.block _ hB⟩

theorem cellsfn_any (a : Nat) (p : Int) (w : World) :
    Calls Tryz.prog 22 #[.pointer (some ⟨a, 0, none⟩), .int .i64 p] w fun e w' => e = .returned (.func (.func 44) #[] #[.pointer (some ⟨w.heap.size, 0, none⟩), .pointer (some ⟨w.heap.size + 1, 0, none⟩)]) ∧ (w.alloc (.cells #[.pointer (some ⟨a, 0, none⟩)] 27)).alloc (.cells #[.int .i64 p] 3) = w' := by
  go_enter Tryz.func22, Tryz.ntmps22
  go_wp2_with fail
  go_ret
  exact ⟨rfl, rfl⟩

/-- What holds between two places of a page. -/
def CellRel (X : ArB) (s : ArS) (B p : Nat) (J : List (Fin 32) → World → Prop) (v10 : Value) (W : World) : Prop :=
  ArMem W X s ∧ W.cell? ⟨B, 0, none⟩ = some (.pointer (some ⟨X.a, 0, none⟩)) ∧ W.cell? ⟨B + 1, 0, none⟩ = some (.int .i64 (p : Int)) ∧
    ∃ j : Nat, j ≤ 32 ∧ v10 = .int .i64 (j : Int) ∧ ∃ q : List (Fin 32), q.map Fin.val = elems (inPage s.S p) j ∧ J q W

theorem abides_below {β : Type} {n0 : Nat} {J : β → World → Prop} (hJ : AbidesFrom n0 J) {x : β} {W W' : World} (h : J x W) (hB : Below W.heap.size W W') : J x W' :=
  hJ _ _ _ none h ⟨hB.os, hB.tape, hB.output, hB.size, fun k hk _ => hB.block k hk⟩ (fun r e => by cases e)

set_option maxRecDepth 100000 in
set_option maxHeartbeats 4000000 in
theorem cells1_in (n : Nat) {X : ArB} {s : ArS} (B l p : Nat) (hp : p < s.P) (J Jx : List (Fin 32) → World → Prop) (W : World) (hJa : AbidesFrom W.heap.size J)
    (hY : ∀ pre (x : Fin 32) W1, J pre W1 → pre.length < 32 → YieldAt Fence.wide (n - 1) Tryz.prog l #[.int .i64 ((32 * p + x.val + 1 : Nat) : Int)] W1 fun e W' =>
      (e = .returned (.bool true) ∧ J (pre ++ [x]) W' ∧ KpAr X B W1 W') ∨ (e = .returned (.bool false) ∧ Jx (pre ++ [x]) W'))
    (hA : ArMem W X s) (hB0 : W.cell? ⟨B, 0, none⟩ = some (.pointer (some ⟨X.a, 0, none⟩))) (hB1 : W.cell? ⟨B + 1, 0, none⟩ = some (.int .i64 (p : Int))) (h0 : J [] W) :
    CallsIn Fence.wide n Tryz.prog 44 #[.func (.yield l) #[] #[], .pointer (some ⟨B, 0, none⟩), .pointer (some ⟨B + 1, 0, none⟩)] W fun e W' => (∃ v, e = .returned v) ∧
      ((∃ xs : List (Fin 32), xs.map Fin.val = elems (inPage s.S p) 32 ∧ J xs W') ∨ (∃ pre : List (Fin 32), (∃ j, inPage s.S p j = true ∧ pre.map Fin.val = elems (inPage s.S p) (j + 1)) ∧ Jx pre W')) := by
  have hp64 := hA.p64
  refine callsIn_of_wp Tryz.func44 rfl (by trivial) ?_ rfl
  simp only [Tryz.ntmps44, List.size_toArray, List.length_cons, List.length_nil, Nat.reduceAdd, Nat.reduceSub, Array.replicate_succ, Array.replicate_zero, List.push_toArray, List.append_toArray, List.nil_append, List.cons_append]
  have cK := knowsP_any hA (p : Int)
  rw [decide_eq_true (by omega)] at cK
  gi_wp2_with fail
  refine ⟨trivial, fun h => (by cases h), ?_⟩
  refine (callsIn_wide.2 cK).mono ?_
  rintro e w' ⟨rfl, rfl⟩
  clear cK
  gi_wp2_with fail
  gi_loopw [10] (fun v10 wr => CellRel X s B p J v10 wr) (fun v10 _ => 32 - (intOf v10).toNat)
  case atStart => exact ⟨hA, hB0, hB1, 0, by omega, rfl, [], rfl, h0⟩
  case round =>
    clear hA hB0 hB1
    obtain ⟨hA, hB0, hB1, j, hj, rfl, q, hq, hJ⟩ := hrel
    have HQ := Lib.hid hq
    clear hq
    by_cases hlt : j < 32
    · have hJ1 : (j : Int) < 32 := by omega
      have cR := ref_any (w := wr) (p : Int) (j : Int) (by omega) (by omega) (by omega) (by omega)
      gi_wp2_with fail
      refine ⟨trivial, fun h => (by cases h), ?_⟩
      refine (callsIn_wide.2 cR).mono ?_
      rintro e w' ⟨rfl, rfl⟩
      clear cR
      gi_wp2_with fail
      refine ⟨trivial, fun h => (by cases h), ?_⟩
      cases hS : s.S (32 * p + j + 1) with
      | false =>
        have HS := Lib.hid hS
        clear hS
        refine (callsIn_wide.2 (hasW hA (32 * p + j + 1) _ false (by omega) HS.out)).mono ?_
        rintro e w4 ⟨rfl, hBl⟩
        have hA4 := hA.below hBl
        have hB04 : w4.cell? ⟨B, 0, none⟩ = some (.pointer (some ⟨X.a, 0, none⟩)) := (hBl.cell (p := ⟨B, 0, none⟩) (World.block_lt_of_cell? wr _ hB0)).trans hB0
        have hB14 : w4.cell? ⟨B + 1, 0, none⟩ = some (.int .i64 (p : Int)) := (hBl.cell (p := ⟨B + 1, 0, none⟩) (World.block_lt_of_cell? wr _ hB1)).trans hB1
        have hJ4 := abides_below hJa hJ hBl
        clear hA hB0 hB1 hJ
        gi_wp2_with fail
        refine ⟨fun f h => (by cases h), ?_⟩
        gi_wp2_with fail
        go_roundw
        case rel => exact ⟨hA4, hB04, hB14, j + 1, by omega, by go_num, q, by rw [elems_no (T := inPage s.S p) HS.out]; exact HQ.out, hJ4⟩
        case measure => simp [intOf]; omega
      | true =>
        have HS := Lib.hid hS
        clear hS
        refine (callsIn_wide.2 (hasW hA (32 * p + j + 1) _ true (by omega) HS.out)).mono ?_
        rintro e w4 ⟨rfl, hBl⟩
        have hA4 := hA.below hBl
        have hB04 : w4.cell? ⟨B, 0, none⟩ = some (.pointer (some ⟨X.a, 0, none⟩)) := (hBl.cell (p := ⟨B, 0, none⟩) (World.block_lt_of_cell? wr _ hB0)).trans hB0
        have hB14 : w4.cell? ⟨B + 1, 0, none⟩ = some (.int .i64 (p : Int)) := (hBl.cell (p := ⟨B + 1, 0, none⟩) (World.block_lt_of_cell? wr _ hB1)).trans hB1
        have hJ4 := abides_below hJa hJ hBl
        have hlen : q.length < 32 := by
          have h1 := congrArg List.length HQ.out
          rw [List.length_map] at h1
          have h2 := elems_length (inPage s.S p) j
          omega
        have hY' := hY q ⟨j, hlt⟩ w4 hJ4 hlen
        rw [show ((32 * p + (⟨j, hlt⟩ : Fin 32).val + 1 : Nat) : Int) = (p : Int) * 32 + (j : Int) + 1 by show ((32 * p + j + 1 : Nat) : Int) = _; omega] at hY'
        obtain ⟨fn, tmps, assign, body, hy, hY2⟩ := hY'
        clear hA hB0 hB1 hJ hJ4 hBl
        gi_wp2_with fail
        refine ⟨fun h => (by cases h), ?_⟩
        refine hY2.mono ?_
        rintro e W3 (⟨rfl, hJ3, hk3⟩ | ⟨rfl, hJx3⟩)
        · have hA3 := hA4.same hk3.1
          have hB03 : W3.cell? ⟨B, 0, none⟩ = some (.pointer (some ⟨X.a, 0, none⟩)) := (World.cell?_of_block (w := w4) (a := ⟨B, 0, none⟩) hk3.2.1).trans hB04
          have hB13 : W3.cell? ⟨B + 1, 0, none⟩ = some (.int .i64 (p : Int)) := (World.cell?_of_block (w := w4) (a := ⟨B + 1, 0, none⟩) hk3.2.2).trans hB14
          clear hA4 hB04 hB14 hk3 hy hY2
          gi_wp2_with fail
          go_roundw
          case rel => exact ⟨hA3, hB03, hB13, j + 1, by omega, by go_num, _, by rw [elems_yes (T := inPage s.S p) HS.out, List.map_append, HQ.out]; rfl, hJ3⟩
          case measure => simp [intOf]; omega
        · gi_wp2_with fail
          refine bodyPost_ret (results_none rfl _ _ _) rfl ?_
          exact ⟨⟨_, rfl⟩, .inr ⟨_, ⟨j, HS.out, by rw [elems_yes (T := inPage s.S p) HS.out, List.map_append, HQ.out]; rfl⟩, hJx3⟩⟩
    · obtain rfl : j = 32 := by omega
      gi_wp2_with fail
      go_end0
      exact ⟨⟨_, rfl⟩, .inl ⟨q, HQ.out, hJ⟩⟩
end Go.Proofs.YtidpmplkbgllfaaGreatDoor

namespace Go.Proofs.YtidpmplkbgllfaaGreatDoor
open Go Go.RowKit Go.Shelf Go.MuLone Go.RwLone
set_option linter.unusedSimpArgs false
set_option linter.unusedVariables false
attribute [local go_sem] Oper.semAt_some

def cellArgs (p : Nat) (x : Fin 32) : Array Value := #[.int .i64 ((32 * p + x.val + 1 : Nat) : Int)]

/-- The iterator over a page's cells. -/
theorem cells_stops (n : Nat) {X : ArB} {s : ArS} (B p : Nat) (hp : p < s.P) (w : World) (hA : ArMem w X s) (hB0 : w.cell? ⟨B, 0, none⟩ = some (.pointer (some ⟨X.a, 0, none⟩))) (hB1 : w.cell? ⟨B + 1, 0, none⟩ = some (.int .i64 (p : Int))) :
    SeqStopsK Fence.wide n Tryz.prog 44 #[.pointer (some ⟨B, 0, none⟩), .pointer (some ⟨B + 1, 0, none⟩)] (cellArgs p) (KpAr X B)
      (fun xs => xs.map Fin.val = elems (inPage s.S p) 32) (fun pre => ∃ j, inPage s.S p j = true ∧ pre.map Fin.val = elems (inPage s.S p) (j + 1)) 32 w := fun l J Jx W hW hJa _ hY h0 =>
  cells1_in n B l p hp J Jx W hJa hY (hA.below hW) ((hW.cell (p := ⟨B, 0, none⟩) (World.block_lt_of_cell? w _ hB0)).trans hB0) ((hW.cell (p := ⟨B + 1, 0, none⟩) (World.block_lt_of_cell? w _ hB1)).trans hB1) h0

/-- The iterator over the cells of a page that there is not. -/
theorem cells_stops_no (n : Nat) {X : ArB} {s : ArS} (B : Nat) (p : Int) (hp : ¬ (0 ≤ p ∧ p < s.P)) (w : World) (hA : ArMem w X s) (hB0 : w.cell? ⟨B, 0, none⟩ = some (.pointer (some ⟨X.a, 0, none⟩))) (hB1 : w.cell? ⟨B + 1, 0, none⟩ = some (.int .i64 p)) :
    SeqStopsK Fence.wide n Tryz.prog 44 #[.pointer (some ⟨B, 0, none⟩), .pointer (some ⟨B + 1, 0, none⟩)] (cellArgs 0) (KpAr X B)
      (fun xs => xs = []) (fun _ => False) 32 w := fun l J Jx W hW hJa _ hY h0 => by
  replace hA := hA.below hW
  replace hB0 := (hW.cell (p := ⟨B, 0, none⟩) (World.block_lt_of_cell? w _ hB0)).trans hB0
  replace hB1 := (hW.cell (p := ⟨B + 1, 0, none⟩) (World.block_lt_of_cell? w _ hB1)).trans hB1
  refine callsIn_of_wp Tryz.func44 rfl (by trivial) ?_ rfl
  simp only [Tryz.ntmps44, List.size_toArray, List.length_cons, List.length_nil, Nat.reduceAdd, Nat.reduceSub, Array.replicate_succ, Array.replicate_zero, List.push_toArray, List.append_toArray, List.nil_append, List.cons_append]
  have cK := knowsP_any hA p
  rw [decide_eq_false hp] at cK
  gi_wp2_with fail
  refine ⟨trivial, fun h => (by cases h), ?_⟩
  refine (callsIn_wide.2 cK).mono ?_
  rintro e w' ⟨rfl, rfl⟩
  clear cK
  gi_wp2_with fail
  refine bodyPost_ret (results_none rfl _ _ _) rfl ?_
  exact ⟨⟨_, rfl⟩, .inl ⟨[], rfl, h0⟩⟩

theorem used_elems (S : Nat → Bool) (p : Nat) : usedIn S p = true ↔ elems (inPage S p) 32 ≠ [] := by
  rw [usedIn_yes]
  constructor
  · rintro ⟨k, hk, h⟩ e
    have : k ∈ elems (inPage S p) 32 := by unfold elems; simp [hk, inPage, h]
    rw [e] at this; cases this
  · intro h
    obtain ⟨k, hk⟩ := List.exists_mem_of_ne_nil _ h
    unfold elems at hk
    simp [inPage] at hk
    exact ⟨k, hk.1, hk.2⟩

/-- The end of a body whose result lies in a box. -/
theorem take_end {V : World} {D : Nat} (hK : V.heap[D]? = some (.deferred (some []))) {w : World} {B : Nat} (hD : B ≤ D) (hb : Below B w V) : Below B w (V.putObj D (.deferred none)) :=
  ⟨hb.os, hb.tape, hb.output, by have := hb.size; simp; omega, fun k hk => by rw [World.putObj_heap_other (by omega), hb.block k hk]⟩

set_option maxRecDepth 100000 in
set_option maxHeartbeats 4000000 in
theorem used_any {w : World} {X : ArB} {s : ArS} (h : ArMem w X s) (p : Nat) (hp : p < s.P) :
    Calls Tryz.prog 73 #[.pointer (some ⟨X.a, 0, none⟩), .int .i64 (p : Int)] w fun e w' => e = .returned (.bool (usedIn s.S p)) ∧ Below w.heap.size w w' := by
  obtain ⟨N, h1⟩ : ∃ N : Nat, 6 ≤ N := ⟨6, Nat.le_refl _⟩
  refine calls_of_wp_marks Tryz.func73 rfl N ?_
  simp only [Tryz.ntmps73, List.size_toArray, List.length_cons, List.length_nil, Nat.reduceAdd, Nat.reduceSub, Array.replicate_succ, Array.replicate_zero, List.push_toArray, List.append_toArray, List.nil_append, List.cons_append]
  gi_wp2_with fail
  refine ⟨trivial, fun h => (by cases h), ?_⟩
  refine (callsIn_wide.2 (cellsfn_any X.a (p : Int) _)).mono ?_
  rintro e w' ⟨rfl, rfl⟩
  have hR : Blk (((w.alloc (.cells #[.bool false] 4)).alloc (.cells #[.pointer (some ⟨X.a, 0, none⟩)] 27)).alloc (.cells #[.int .i64 p] 3)) w.heap.size #[.bool false] 4 := ((Blk.new w _ _).alloc _).alloc _
  have hM := ((h.turn ((Turn.refl (fun _ => False) w).alloc (.cells #[.bool false] 4)) (fun _ _ h => h)).turn ((Turn.refl (fun _ => False) _).alloc (.cells #[.pointer (some ⟨X.a, 0, none⟩)] 27)) (fun _ _ h => h)).turn ((Turn.refl (fun _ => False) _).alloc (.cells #[.int .i64 p] 3)) (fun _ _ h => h)
  have b0 : (((w.alloc (.cells #[.bool false] 4)).alloc (.cells #[.pointer (some ⟨X.a, 0, none⟩)] 27)).alloc (.cells #[.int .i64 p] 3)).cell? ⟨w.heap.size + 1, 0, none⟩ = some (.pointer (some ⟨X.a, 0, none⟩)) := by
    have := ((Blk.new (w.alloc (.cells #[.bool false] 4)) #[.pointer (some ⟨X.a, 0, none⟩)] 27).alloc (.cells #[.int .i64 p] 3)).cell 0
    simpa using this
  have b1 : (((w.alloc (.cells #[.bool false] 4)).alloc (.cells #[.pointer (some ⟨X.a, 0, none⟩)] 27)).alloc (.cells #[.int .i64 p] 3)).cell? ⟨w.heap.size + 1 + 1, 0, none⟩ = some (.int .i64 p) := by
    have := (Blk.new ((w.alloc (.cells #[.bool false] 4)).alloc (.cells #[.pointer (some ⟨X.a, 0, none⟩)] 27)) #[.int .i64 p] 3).cell 0
    simpa using this
  have hBb := (((Below.refl w.heap.size w).alloc (Nat.le_refl _) (.cells #[.bool false] 4)).alloc (by simp) (.cells #[.pointer (some ⟨X.a, 0, none⟩)] 27)).alloc (by simp; omega) (.cells #[.int .i64 p] 3)
  have hs6 : (((w.alloc (.cells #[.bool false] 4)).alloc (.cells #[.pointer (some ⟨X.a, 0, none⟩)] 27)).alloc (.cells #[.int .i64 p] 3)).heap.size = w.heap.size + 3 := by simp
  have hlt := h.lt
  gi_wp2_with fail
  generalize ((w.alloc (.cells #[.bool false] 4)).alloc (.cells #[.pointer (some ⟨X.a, 0, none⟩)] 27)).alloc (.cells #[.int .i64 p] 3) = W6 at *
  refine wpIn_rangeFunc_ownF rfl (by omega) (gf := 44) (lb := #[.pointer (some ⟨w.heap.size + 1, 0, none⟩), .pointer (some ⟨w.heap.size + 1 + 1, 0, none⟩)]) rfl trivial (enters_of Tryz.func44 (by kernel_rfl) rfl)
    (cells_stops (N - 1) (w.heap.size + 1) p hp W6 hM b0 b1) KpAr.trans (fun W l o o' hl _ _ _ => KpAr.putObj (n0 := W6.heap.size) (fun k hk => by have := hlt k hk; omega) (by omega) W l o' hl) (Below.refl _ _) (fun _ => rfl)
    (fun pre W => pre = [] ∧ Below W6.heap.size W6 W) (fun c pre W => (c = .ret ∧ (∃ q x, pre = q ++ [x]) ∧ W.cell? ⟨w.heap.size, 0, none⟩ = some (.bool true)) ∧ Below w.heap.size w W)
    (OwnFrom.and (Own.from (fun s A B row hs hg hr => hs) _) (ownFrom_below (Nat.le_refl _) (Nat.le_refl _)))
    (fun c => OwnFrom.and (Own.from (fun s A B row hs hg hr => ⟨hs.1, hs.2.1, cell_kept hs.2.2 hg hr⟩) _) (ownFrom_below (by omega) (by omega)))
    ⟨rfl, Below.refl _ _⟩ ?a1 ?assign ?body ?done ?stop
  case assign =>
    intro l0 x W K hK
    unfold cellArgs
    gi_wp2
    exact hK
  case body =>
    rintro l0 pre x W ⟨rfl, hI⟩ _
    have hRW : W.cell? ⟨w.heap.size, 0, none⟩ = some (.bool false) := (hI.cell (p := ⟨w.heap.size, 0, none⟩) hR.lt).trans (hR.cell 0)
    have hZW : W.frozen? ⟨w.heap.size, 0, none⟩ = false := (hI.frozen (p := ⟨w.heap.size, 0, none⟩) hR.lt).trans (hR.free 0)
    gi_wp2
    refine ⟨KeepsOthers.setCell _ _ _, ⟨rfl, ⟨[], x, rfl⟩, World.cell?_setCell_same _ _ _ hRW⟩, (hBb.trans (hI.mono (by omega))).setCell (p := ⟨w.heap.size, 0, none⟩) (Nat.le_refl _) _⟩
  case done =>
    rintro D xs W hD hxs ⟨rfl, hI⟩ hK
    have hU : usedIn s.S p = false := by
      cases e : usedIn s.S p with
      | false => rfl
      | true => exact absurd hxs.symm ((used_elems _ _).1 e)
    have HU := Lib.hid hU
    have hRW : W.cell? ⟨w.heap.size, 0, none⟩ = some (.bool false) := (hI.cell (p := ⟨w.heap.size, 0, none⟩) hR.lt).trans (hR.cell 0)
    have hZW : W.frozen? ⟨w.heap.size, 0, none⟩ = false := (hI.frozen (p := ⟨w.heap.size, 0, none⟩) hR.lt).trans (hR.free 0)
    have hBW := hBb.trans (hI.mono (by omega))
    clear hU hxs
    gi_wp2_with fail
    have hK9 := (KeepsOthers.setCell W ⟨w.heap.size, 0, none⟩ (.bool false)).same D _ hK rfl
    have hR9 : (W.setCell ⟨w.heap.size, 0, none⟩ (.bool false)).cell? ⟨w.heap.size, 0, none⟩ = some (.bool false) := World.cell?_setCell_same _ _ _ hRW
    have hB9 := hBW.setCell (p := ⟨w.heap.size, 0, none⟩) (Nat.le_refl _) (.bool false)
    generalize W.setCell ⟨w.heap.size, 0, none⟩ (.bool false) = V at *
    refine ⟨by simp, .inl ⟨D, _, rfl, run_takeDeferred hK9, ?_⟩⟩
    have hRF : (V.putObj D (.deferred none)).cell? ⟨w.heap.size, 0, none⟩ = some (.bool false) := (World.cell?_of_block (w := V) (World.putObj_heap_other (by simp; omega))).trans hR9
    have hBF := take_end hK9 (by omega) hB9
    generalize V.putObj D (.deferred none) = V2 at *
    refine ⟨.bool false, ?_, ret_bool HU.out.symm, hBF⟩
    simp [results, Tryz.f73, go_sem, hRF]
  case stop =>
    rintro D c pre W hD ⟨j, hj, hpre⟩ ⟨⟨rfl, _, hR9⟩, hB9⟩ hK9
    have hU : usedIn s.S p = true := by
      refine usedIn_yes.2 ?_
      by_cases hj32 : j < 32
      · exact ⟨j, hj32, hj⟩
      · exfalso
        have hx : ∀ x ∈ pre.map Fin.val, x < 32 := fun x hx => by
          obtain ⟨y, _, rfl⟩ := List.mem_map.1 hx
          exact y.isLt
        have : j < 32 := hx j (by rw [hpre, elems_yes hj]; simp)
        omega
    have HU := Lib.hid hU
    clear hU hpre hj
    gi_wp2_with fail
    refine ⟨by simp, .inl ⟨D, _, rfl, run_takeDeferred hK9, ?_⟩⟩
    have hRF : (W.putObj D (.deferred none)).cell? ⟨w.heap.size, 0, none⟩ = some (.bool true) := (World.cell?_of_block (w := W) (World.putObj_heap_other (by simp; omega))).trans hR9
    have hBF := take_end hK9 (by omega) hB9
    generalize W.putObj D (.deferred none) = V2 at *
    refine ⟨.bool true, ?_, ret_bool HU.out.symm, hBF⟩
    simp [results, Tryz.f73, go_sem, hRF]

/-- A cell is given, whatever the Ref is. -/
def ArS.giveI (s : ArS) (r : Int) : ArS := if inS s.S r = true then s.give r.toNat else s
theorem giveI_no {s : ArS} {r : Int} (h : inS s.S r = false) : s.giveI r = s := by unfold ArS.giveI; rw [if_neg (by rw [h]; decide)]
theorem giveI_nat {s : ArS} {r : Nat} (h : s.S r = true) : s.giveI (r : Int) = { s with cls := giveCls s r, S := dropN s.S r } := by
  unfold ArS.giveI
  rw [if_pos (by rw [inS_nat]; exact h), Int.toNat_natCast]
  unfold ArS.give
  rw [if_pos h]
theorem Fits.giveI {s : ArS} (h : Fits s) (r : Int) : Fits (s.giveI r) := by
  unfold ArS.giveI
  split
  · exact h.give _
  · exact h

theorem give_no {w : World} {X : ArB} {s : ArS} (h : ArAt w X s) (r : Int) (hr : inS s.S r = false) :
    Calls Tryz.prog 56 #[.pointer (some ⟨X.a, 0, none⟩), .int .i64 r] w (ArPost X (.bool false) s w) := by
  have c1 := h.c1
  have cD := drop_x X.b X.lo (32 * s.P + 1) s.S r w h.set
  rw [may_in h.toArMem r, hr] at cD
  have hS : dropS s.S r = s.S := by
    funext j
    by_cases e : (j : Int) = r
    · subst e
      rw [inS_nat] at hr
      simp [dropS, hr]
    · simp [dropS, e]
  rw [hS] at cD
  clear hr hS
  go_enter Tryz.func56, Tryz.ntmps56
  go_wp2_with fail
  refine cD.mono ?_
  intro e w2 hP
  obtain ⟨lo2, rfl, hlo, hTn, b1, b2, b3, b4, b5⟩ := h.toArMem.turned hP
  have hA : ArAt w2 (X.with lo2) s := ⟨⟨b1, b2, b3, b4, b5, h.p64⟩, h.fits⟩
  clear hP cD c1
  go_wp2_with fail
  go_ret
  exact ⟨lo2, rfl, hA, hlo, hTn⟩

set_option maxRecDepth 100000 in
set_option maxHeartbeats 4000000 in
theorem give_yes {w : World} {X : ArB} {s : ArS} (h : ArAt w X s) (r : Nat) (hr : s.S r = true) :
    Calls Tryz.prog 56 #[.pointer (some ⟨X.a, 0, none⟩), .int .i64 r] w (ArPost X (.bool true) { s with cls := giveCls s r, S := dropN s.S r } w) := by
  have c1 := h.c1
  obtain ⟨a1, a2, a3, a4⟩ := h.fits.at_ r hr
  have hF := h.fits.giveI (r : Int)
  rw [giveI_nat hr] at hF
  have hp := h.p64
  have cD : Calls Tryz.prog 72 #[.pointer (some ⟨X.b, 0, none⟩), .int .i64 r] w (TurnPost X.b X.lo (32 * s.P + 1) true (dropN s.S r) w) := drop_at X.b X.lo (32 * s.P + 1) s.S (dropN s.S r) true r w (by omega) h.set hr.symm rfl
  have HF := Lib.hid hF
  clear hF hr a3 a4
  have hpg : pg r < s.P := by unfold pg; omega
  go_enter Tryz.func56, Tryz.ntmps56
  go_wp2_with fail
  refine cD.mono ?_
  intro e w2 hP
  obtain ⟨lo2, rfl, hlo, hTn, b1, b2, b3, b4, b5⟩ := h.toArMem.turned hP
  have hM : ArMem w2 (X.with lo2) { s with S := dropN s.S r } := ⟨b1, b2, b3, b4, b5, h.p64⟩
  have hSt : ArStep X w (X.with lo2) w2 := ⟨hlo, rfl, hTn⟩
  have cP : Calls Tryz.prog 16 #[.pointer (some ⟨X.a, 0, none⟩), .int .i64 r] w2 fun e w' => e = .returned (.int .i64 ((pg r : Nat) : Int)) ∧ w2 = w' := page_yes hM r a1 a2
  have cU : Calls Tryz.prog 73 #[.pointer (some ⟨X.a, 0, none⟩), .int .i64 ((pg r : Nat) : Int)] w2 fun e w' => e = .returned (.bool (usedIn (dropN s.S r) (pg r))) ∧ Below w2.heap.size w2 w' := used_any hM (pg r) hpg
  clear hP cD c1 b1 b2 b3 b4 b5 hlo hTn a1 a2
  go_wp2_with fail
  refine cP.mono ?_
  rintro e w' ⟨rfl, rfl⟩
  clear cP
  go_wp2_with fail
  cases hU : usedIn (dropN s.S r) (pg r) with
  | true =>
    rw [hU] at cU
    have HG : Hid (giveCls s r = s.cls) := Lib.hid (by unfold giveCls; rw [if_pos hU])
    clear hU
    refine cU.mono ?_
    rintro e w3 ⟨rfl, hB⟩
    clear cU
    have hM3 := hM.below hB
    have hS3 := hSt.trans (ArStep.ofBelow _ hB hM.lt)
    have hA : ArAt w3 (X.with lo2) { s with cls := giveCls s r, S := dropN s.S r } := ⟨⟨hM3.head, by
      have := hM3.page
      show Blk w3 _ (row s.P (giveCls s r)) _
      rw [HG.out]; exact this, hM3.word, hM3.set, hM3.ne, hp⟩, HF.out⟩
    clear hM hM3 hSt hB HF HG
    go_wp2_with fail
    go_ret
    exact hS3.post rfl hA
  | false =>
    rw [hU] at cU
    have HG : Hid (giveCls s r = upd s.cls (pg r) (-1)) := Lib.hid (by unfold giveCls; rw [if_neg (by rw [hU]; decide)])
    clear hU
    refine cU.mono ?_
    rintro e w3 ⟨rfl, hB⟩
    clear cU
    have hM3 := hM.below hB
    have hS3 := hSt.trans (ArStep.ofBelow _ hB hM.lt)
    have k0 : w3.cell? ⟨X.a, 0, none⟩ = some (.slice (some ⟨X.c, 0, none⟩) s.P s.P) := hM3.c0
    have k1 : w3.cell? ⟨X.c, pg r, none⟩ = some (.int .i64 (s.cls (pg r))) := cell_row hM3.page hpg
    have k2 : w3.frozen? ⟨X.c, pg r, none⟩ = false := hM3.page.free _
    have k3 : ((pg r : Nat) : Int) < s.P := by omega
    have hTt : Turn (fun k => k = X.c) w3 (w3.setCell ⟨X.c, pg r, none⟩ (.int .i64 (-1))) := (Turn.refl _ w3).set _ _ (.inr rfl)
    have hA : ArAt (w3.setCell ⟨X.c, pg r, none⟩ (.int .i64 (-1))) (X.with lo2) { s with cls := giveCls s r, S := dropN s.S r } := ⟨⟨hM3.head.turn hTt hM3.ne.ac, by
      have := hM3.page.setAt (pg r) (.int .i64 (-1))
      show Blk _ _ (row s.P (giveCls s r)) _
      rw [HG.out, ← row_set _ _ hpg]; exact this, hM3.word.turn hTt (fun e => hM3.ne.cw e.symm), hM3.set.turn hTt (fun e => hM3.ne.cb e.symm) (fun l hl e => hM3.ne.lc (by rw [hl, e]; rfl)), hM3.ne, hp⟩, HF.out⟩
    have hS4 : ArStep X w (X.with lo2) (w3.setCell ⟨X.c, pg r, none⟩ (.int .i64 (-1))) := ⟨hS3.lo, rfl, hS3.turn.set _ _ (.inr (.inr (.inl rfl)))⟩
    clear hM hM3 hSt hB HF HG hS3 hTt
    go_wp2_with fail
    go_ret
    exact hS4.post rfl hA

theorem give_any {w : World} {X : ArB} {s : ArS} (h : ArAt w X s) (r : Int) :
    Calls Tryz.prog 56 #[.pointer (some ⟨X.a, 0, none⟩), .int .i64 r] w (ArPost X (.bool (inS s.S r)) (s.giveI r) w) := by
  cases hr : inS s.S r with
  | false => rw [giveI_no hr]; exact give_no h r hr
  | true =>
    have h0 : 0 ≤ r ∧ s.S r.toNat = true := by simpa [inS] using hr
    obtain ⟨n, rfl⟩ : ∃ n : Nat, r = n := ⟨r.toNat, by omega⟩
    rw [inS_nat] at hr
    rw [giveI_nat hr]
    exact give_yes h n hr
end Go.Proofs.YtidpmplkbgllfaaGreatDoor

namespace Go.Proofs.YtidpmplkbgllfaaGreatDoor
open Go Go.RowKit Go.Shelf Go.MuLone Go.RwLone
set_option linter.unusedSimpArgs false
set_option linter.unusedVariables false

theorem maskN (a : Nat) (ha : a < 18446744073709551616) : bits .and .u64 (a : Int) 4294967295 = ((a % 4294967296 : Nat) : Int) := by
  have h := u64_and_nat a 4294967295 ha (by omega)
  have e : a &&& 4294967295 = a % 4294967296 := Nat.and_two_pow_sub_one_eq_mod a 32
  rw [e] at h
  exact h
theorem wrapN (a : Nat) (ha : a < 18446744073709551616) : IntKind.u64.wrap (a : Int) = (a : Int) := by rw [IntKind.wrap_u64]; omega

set_option maxHeartbeats 1000000 in
theorem mul64_one (c : Nat) (hc : c ≤ 64) (w : World) :
    Calls Tryz.prog 94 #[.int .u64 1, .int .u64 (c : Int)] w fun e w' => e = .returned (.tuple #[.int .u64 0, .int .u64 (c : Int)]) ∧ w = w' := by
  have m1 : bits .and .u64 1 4294967295 = 1 := by decide
  have m2 : bits .and .u64 (c : Int) 4294967295 = (c : Int) := by rw [maskN c (by omega), Nat.mod_eq_of_lt (by omega)]
  have m3 : (c : Int) / 4294967296 = 0 := by omega
  have m4 : bits .and .u64 0 4294967295 = 0 := by decide
  have m5 : (0 : Int) ≤ c := by omega
  have m6 : (c : Int) ≤ 64 := by omega
  have m7 := wrapN c (by omega)
  go_enter Tryz.func94, Tryz.ntmps94
  go_wp2
  go_ret2
  exact ⟨rfl, rfl⟩

theorem mul_one (c : Nat) (hc : c ≤ 64) (w : World) :
    Calls Tryz.prog 69 #[.int .u64 1, .int .u64 (c : Int)] w fun e w' => e = .returned (.tuple #[.int .u64 0, .int .u64 (c : Int)]) ∧ w = w' := by
  go_enter Tryz.func69, Tryz.ntmps69
  go_wp2_with fail
  refine (mul64_one c hc _).mono ?_
  rintro e w' ⟨rfl, rfl⟩
  go_wp2_with fail
  go_ret2
  exact ⟨rfl, rfl⟩

theorem infoInt : (Tryz.prog.info? 3).map (fun i => (i.zero, i.size, i.bytes)) = some (some (.int .i64 0), 1, 8) := by kernel_rfl
theorem sizeInt : (Tryz.prog.info? 3).map (·.size) = some 1 := by kernel_rfl
theorem make_ints (n : Nat) (hn : n ≤ 4096) (w : World) : (Instr.makeSlice 74 (.int .i64 (n : Int)) (.int .i64 (n : Int))).run Tryz.prog w = .ok (.slice (some ⟨w.heap.size, 0, none⟩) n n) (w.alloc (.cells (row n fun _ => 0) 3)) := by
  obtain ⟨i0, hi, hz0, hz1, hz2⟩ := info_parts infoInt
  have h := run_make (P := Tryz.prog) w 74 3 i0 (.int .i64 0) Tryz.underlying74 hi hz0 .i64 .i64 (n : Int) (n : Int) (by omega) (Int.le_refl _) (by rw [hz2]; omega) (by omega)
  simp only [Int.toNat_natCast, hz1] at h
  rw [h]
  have e : madeCells (Value.int .i64 0).cells (n * 1) = row n fun _ => 0 := by
    apply Array.ext'
    rw [Nat.mul_one]
    refine (toList_madeCells_one (Value.int .i64 0) n).trans ?_
    rw [← row_const]; simp
  rw [e]

/-- The first n places hold v, the others 0. -/
def fill (v : Int) (n : Nat) : Nat → Int := fun k => if k < n then v else 0
theorem splice_fill (v : Int) (c n m : Nat) (h : n + m ≤ c) : (splice (row c (fill v n)).toList n (List.replicate m (.int .i64 v))).toArray = row c (fill v (n + m)) := by
  apply Array.ext_getElem?
  intro j
  have hl : (row c (fill v n)).toList.length = c := by simp [row]
  simp only [splice, List.length_replicate, List.getElem?_toArray]
  by_cases h1 : j < n
  · rw [List.getElem?_append_left (by rw [List.length_take, hl]; omega), List.getElem?_take_of_lt h1, Array.getElem?_toList, row_get _ (by omega), row_get _ (by omega)]
    simp [fill, h1, show j < n + m by omega]
  · rw [List.getElem?_append_right (by rw [List.length_take, hl]; omega), List.length_take, hl, Nat.min_eq_left (by omega)]
    by_cases h2 : j < n + m
    · rw [List.getElem?_append_left (by simp; omega), List.getElem?_replicate, if_pos (by omega), row_get _ (by omega)]
      simp [fill, h2]
    · rw [List.getElem?_append_right (by simp; omega), List.length_replicate, List.getElem?_drop, Array.getElem?_toList, show n + m + (j - n - m) = j by omega]
      by_cases h3 : j < c
      · rw [row_get _ h3, row_get _ h3]; simp [fill, h1, h2]
      · rw [Array.getElem?_eq_none (by rw [row_size]; omega), Array.getElem?_eq_none (by rw [row_size]; omega)]

theorem natMin (a b : Nat) : Nat.min a b ≤ a ∧ Nat.min a b ≤ b ∧ (Nat.min a b = a ∨ Nat.min a b = b) := by
  show min a b ≤ a ∧ min a b ≤ b ∧ (min a b = a ∨ min a b = b); omega
/-- Some of a row copied into itself, or into another one. -/
theorem copy_fill {w : World} {g : Nat} {v : Int} {c n m : Nat} (hg : Blk w g (row c (fill v n)) 3) (sb sLen sCap dLen dCap : Nat) (hm : m = Nat.min sLen dLen) (hsrc : ∀ j, j < m → w.cell? ⟨sb, j, none⟩ = some (.int .i64 v)) (hfit : n + m ≤ c) (ty : TypeId) :
    (Builtin.copy_ #[74, 74] ty #[.slice (some ⟨g, n, none⟩) dLen dCap, .slice (some ⟨sb, 0, none⟩) sLen sCap]).run Tryz.prog w = .ok (.int .i64 (m : Int)) (w.setRow g (row c (fill v (n + m)))) := by
  have h := run_copy_row (P := Tryz.prog) w 74 74 ty 3 g n dLen dCap ⟨sb, 0, none⟩ sLen sCap (row c (fill v n)) 3 (List.replicate m (.int .i64 v)) Tryz.underlying74 sizeInt hg (by simpa using hm) (fun j u hj => by
    rw [List.getElem?_replicate] at hj
    by_cases h : j < m
    · rw [if_pos h] at hj
      cases hj
      have := hsrc j h
      show w.cell? ((⟨sb, 0, none⟩ : Addr).add j) = _
      unfold Addr.add
      split
      · rename_i h0; subst h0; exact this
      · simpa using this
    · rw [if_neg h] at hj; cases hj) (by simp [row]; omega) (by intro u hu; rw [List.eq_of_mem_replicate hu]; rfl)
  rw [h]
  have e := splice_fill v c n m hfit
  unfold splice at e
  rw [List.append_assoc, e]
  simp [goInt]
theorem blk_setRow {w : World} {g : Nat} {cs cs' : Array Value} {T : TypeId} (h : Blk w g cs T) : Blk (w.setRow g cs') g cs' T := setRow_heap w g cs cs' T (0, 0) h

set_option maxRecDepth 100000 in
set_option maxHeartbeats 4000000 in
/-- Repeat, of one number. -/
theorem repeat_any (xb : Nat) (v : Int) (c : Nat) (hc : c ≤ 64) (w : World) (hx : Blk w xb #[.int .i64 v] 3) :
    Calls Tryz.prog 46 #[.slice (some ⟨xb, 0, none⟩) 1 1, .int .i64 (c : Int)] w fun e w' => ∃ g, e = .returned (.slice (some ⟨g, 0, none⟩) c c) ∧ w.heap.size ≤ g ∧ Blk w' g (row c fun _ => v) 3 ∧ Below w.heap.size w w' := by
  have m5 : (0 : Int) ≤ c := by omega
  have m6 : (c : Int) ≤ 64 := by omega
  have e0 : (fun _ : Nat => (0 : Int)) = fill v 0 := by funext k; simp [fill]
  have hmk := make_ints c (by omega)
  rw [e0] at hmk
  clear e0
  have hxl := hx.lt
  have hg : Blk (w.alloc (.cells (row c (fill v 0)) 3)) w.heap.size (row c (fill v 0)) 3 := Blk.new w _ _
  have hBl := (Below.refl w.heap.size w).alloc (Nat.le_refl _) (.cells (row c (fill v 0)) 3)
  have hcp := fun ty => copy_fill (m := Nat.min 1 c) hg xb 1 1 c c rfl (fun j hj => by
    have h0 : j = 0 := by have := natMin 1 c; omega
    subst h0
    exact (hx.alloc _).cell 0) (by have := natMin 1 c; omega) ty
  rw [Nat.zero_add] at hcp
  replace hg := blk_setRow (cs' := row c (fill v (Nat.min 1 c))) hg
  replace hBl := hBl.trans (below_setRow (Below.refl w.heap.size _) (Nat.le_refl _) (row c (fill v (Nat.min 1 c))))
  have HM : Hid (Nat.min 1 c = if c = 0 then 0 else 1) := Lib.hid (by have := natMin 1 c; split <;> omega)
  have m7 : Nat.min 1 c ≤ c := (natMin 1 c).2.1
  generalize Nat.min 1 c = n0 at *
  go_enter Tryz.func46, Tryz.ntmps46
  go_wp2_with fail
  refine (mul_one c hc _).mono ?_
  rintro e w' ⟨rfl, rfl⟩
  go_wp2_with fail
  clear hcp hmk
  generalize (w.alloc (.cells (row c (fill v 0)) 3)).setRow w.heap.size (row c (fill v n0)) = W2 at *
  go_loopw [8] (fun v8 wr => ∃ n : Nat, n ≤ c ∧ (n = 0 → c = 0) ∧ v8 = .int .i64 (n : Int) ∧ Blk wr w.heap.size (row c (fill v n)) 3 ∧ Below w.heap.size w wr) (fun v8 _ => c - (intOf v8).toNat)
  case atStart => exact ⟨n0, m7, fun e => by have := HM.out; rw [e] at this; split at this <;> omega, rfl, hg, hBl⟩
  case round =>
    clear hg hBl HM m7
    obtain ⟨n, hn, hn0, rfl, hg, hBl⟩ := hrel
    by_cases hlt : n < c
    · have hm1 : 1 ≤ n := by omega
      obtain ⟨m, hm⟩ : ∃ m, m = Nat.min n (c - n) := ⟨_, rfl⟩
      have hmn := natMin n (c - n)
      rw [← hm] at hmn
      have hm2 : n + m ≤ c := by omega
      have hm3 : 1 ≤ m := by omega
      have hcp := fun ty => copy_fill (w := wr.drew) (m := m) hg w.heap.size n c (c - n) (c - n) hm (fun j hj => by
        have hj2 : j < n := by omega
        refine (cell_row hg (by omega)).trans ?_
        simp [fill, hj2]) hm2 ty
      have hg2 := blk_setRow (w := wr.drew) (cs' := row c (fill v (n + m))) hg
      have hB2 := hBl.drew.trans (below_setRow (Below.refl w.heap.size wr.drew) (Nat.le_refl _) (row c (fill v (n + m))))
      clear hm hn0 hg hBl
      have n5 : (m : Int) ≤ 64 := by omega
      clear hmn
      have n1 : (n : Int) < (c : Int) := by omega
      have n2 : ¬ c = n := by omega
      have n3 : ¬ c = 0 := by omega
      have n4 : ¬ c ≤ n := by omega
      have n6 : ¬ c - n = 0 := by omega
      have n7 : IntKind.i64.wrap ((n : Int) + (m : Int)) = (n : Int) + (m : Int) := IntWalk.i64_in _ (by omega)
      go_wp2_with fail
      go_region_held3 (fun w' => True) (first | trivial)
        (first | fail)
      clear n7
      go_wp2_with fail
      go_roundw
      case rel => exact ⟨n + m, hm2, by omega, by go_num, hg2, hB2⟩
      case measure => simp [intOf]; omega
    · obtain rfl : n = c := by omega
      go_wp2_with fail
      go_ret
      refine ⟨w.heap.size, rfl, Nat.le_refl _, ?_, hBl⟩
      rw [row_congr (g := fill v n) (fun k hk => by simp [fill, hk])]
      exact hg
end Go.Proofs.YtidpmplkbgllfaaGreatDoor

namespace Go.Proofs.YtidpmplkbgllfaaGreatDoor
open Go Go.RowKit Go.Shelf Go.MuLone Go.RwLone
set_option linter.unusedSimpArgs false
set_option linter.unusedVariables false

theorem blk_types {w : World} {b : Nat} {cs cs' : Array Value} {T T' : TypeId} (h : Blk w b cs T) (h' : Blk w b cs' T') (hne : T ≠ T') : False := by
  unfold Blk at h h'
  have := congrArg (fun o => match o with | some (Obj.cells _ t _) => t | _ => T) (h.symm.trans h')
  exact hne (by simpa using this)
theorem Blk.below {w w' : World} {b : Nat} {cs : Array Value} {T : TypeId} (h : Blk w b cs T) (hB : Below w.heap.size w w') : Blk w' b cs T := h.turn (Turn.ofBelow hB) (fun e => by have := h.lt; omega)
theorem new_fin {w V : World} {c g b m : Nat} (hc : c ≤ 64) (hg : Blk V g (row c fun _ => -1) 3) (hb : SetAt V b none (32 * c + 1) (fun _ => false)) (hm : Blk V m (row (32 * c + 1) fun _ => 0) 3) (h1 : w.heap.size ≤ g) (h2 : w.heap.size ≤ b) (h3 : w.heap.size ≤ m)
    (hgm : g ≠ m) (hB : Below w.heap.size w V) (a : Nat) (W : World) (ha : a = V.heap.size) (hW : W = V.alloc (.cells #[.slice (some ⟨g, 0, none⟩) c c, .pointer (some ⟨b, 0, none⟩), .slice (some ⟨m, 0, none⟩) (c * 32 + 1) (c * 32 + 1)] 76)) :
    ∃ X : ArB, Ending.returned (.pointer (some ⟨a, 0, none⟩)) = .returned (.pointer (some ⟨X.a, 0, none⟩)) ∧ ArAt W X (.new c) ∧ (∀ k, X.has k → w.heap.size ≤ k) ∧ Below w.heap.size w W := by
  rw [Nat.mul_comm c 32] at hW
  subst ha hW
  have g1 := hg.lt
  have g2 := hb.lt.1
  have g3 := hm.lt
  have hs := hB.size
  obtain ⟨d, l, hB2⟩ := hb.2.2.blk
  have e1 : g ≠ b := fun e => by rw [e] at hg; exact blk_types hg hB2 (by decide)
  have e2 : m ≠ b := fun e => by rw [e] at hm; exact blk_types hm hB2 (by decide)
  have hT := (Turn.refl (fun _ => False) V).alloc (.cells #[.slice (some ⟨g, 0, none⟩) c c, .pointer (some ⟨b, 0, none⟩), .slice (some ⟨m, 0, none⟩) (32 * c + 1) (32 * c + 1)] 76)
  refine ⟨⟨V.heap.size, g, m, b, none⟩, rfl, ⟨⟨Blk.new V _ _, hg.turn hT (fun h => h), hm.turn hT (fun h => h), hb.turn hT (fun h => h) (fun _ _ h => h), ⟨?_, ?_, ?_, hgm, e1, e2, fun h => (by cases h), fun h => (by cases h), fun h => (by cases h)⟩, hc⟩, fits_new hc⟩, ?_, hB.alloc hs _⟩
  · show V.heap.size ≠ g; omega
  · show V.heap.size ≠ m; omega
  · show V.heap.size ≠ b; omega
  · rintro k (rfl | rfl | rfl | rfl | h)
    · exact hs
    · exact h1
    · exact h3
    · exact h2
    · cases h

set_option maxRecDepth 100000 in
set_option maxHeartbeats 4000000 in
theorem new_arena (n : Int) (c : Nat) (hn : (c : Int) = min (max n 0) 64) (w : World) :
    Calls Tryz.prog 26 #[.int .i64 n] w fun e w' => ∃ X, e = .returned (.pointer (some ⟨X.a, 0, none⟩)) ∧ ArAt w' X (.new c) ∧ (∀ k, X.has k → w.heap.size ≤ k) ∧ Below w.heap.size w w' := by
  have hc : c ≤ 64 := by omega
  obtain ⟨m0, hm0⟩ : ∃ m0 : Int, (if n < 0 then 0 else n) = m0 := ⟨_, rfl⟩
  have hq : (if 64 < m0 then 64 else m0) = (c : Int) := by rw [← hm0]; split <;> split <;> omega
  have hc0 : (0 : Int) ≤ c := by omega
  have hc1 : (c : Int) ≤ 64 := by omega
  clear hn
  have hmk := make_ints (c * 32 + 1) (by omega)
  rw [show (((c * 32 + 1 : Nat)) : Int) = (c : Int) * 32 + 1 by omega] at hmk
  go_enter Tryz.func26, Tryz.ntmps26
  go_wp2_with fail
  clear hm0 hq
  go_region_held3 (fun w' => True) (first | trivial)
    (first
      | (go_at_call 46; refine (repeat_any _ (-1) c hc _ ?_).mono ?_; (first | exact Blk.new w #[.int .i64 (-1)] 3 | exact (Blk.new w #[.int .i64 (-1)] 3).alloc _ | exact Blk.new (w.alloc (.cells (row (c * 32 + 1) fun _ => 0) 3)) #[.int .i64 (-1)] 3 | (have h1 := Blk.new (w.alloc (.cells (row (c * 32 + 1) fun _ => 0) 3)) #[.int .i64 (-1)] 3; simp only [World.size_alloc] at h1; exact h1)); rintro e w2 ⟨g, rfl, hg1, hg2, hg3⟩)
      | (go_at_call 31; refine (new_at _ (by omega) _ (c * 32 + 1) (by omega)).mono ?_; rintro e w3 ⟨b, hb1, rfl, hb2, hb3⟩))
  all_goals (rw [Nat.mul_comm c 32] at hb2)
  all_goals (have hbl := Turn.below hb3 _ (Nat.le_refl _) (fun _ _ h => h))
  all_goals (have hgV := hg2)
  · have s1 := hg3.size
    have s2 := hbl.size
    simp only [World.size_drew, World.size_alloc] at hg1 s1
    have hT := (Turn.refl (fun _ => False) w3).alloc (.cells (row (32 * c + 1) fun _ => 0) 3)
    have hlt := hg2.lt
    have hfin := new_fin (w := w) (V := w3.alloc (.cells (row (32 * c + 1) fun _ => 0) 3)) hc ((hg2.below hbl).turn hT (fun h => h)) (hb2.turn hT (fun h => h) (fun _ _ h => h)) (Blk.new w3 _ _) (by omega) (by omega) (by omega) (by omega)
      ((((((Below.refl w.heap.size w).alloc (Nat.le_refl _) (.cells #[.int .i64 (-1)] 3)).drew.trans (hg3.mono (by simp))).trans (hbl.mono (by omega)))).alloc (by omega) _) _ _ rfl rfl
    rw [Nat.mul_comm 32 c] at hfin
    simp only [World.size_alloc] at hfin
    clear hgV hg1 hg2 hg3 hb1 hb2 hb3 hbl hT hlt
    go_wp2_with fail
    go_ret
    exact hfin
  · have s1 := hg3.size
    have s2 := hbl.size
    have hlt := hg2.lt
    have hm := (Blk.new w2 (row (c * 32 + 1) fun _ => 0) 3).below hbl
    rw [Nat.mul_comm c 32] at hm
    simp only [World.size_drew, World.size_alloc] at hg1 s1 s2
    have hfin := new_fin (w := w) (V := w3) hc ((hg2.alloc _).below hbl) hb2 hm (by omega) (by simp at hb1; omega) (by omega) (by omega)
      (((((Below.refl w.heap.size w).alloc (Nat.le_refl _) (.cells #[.int .i64 (-1)] 3)).drew.trans (hg3.mono (by simp))).alloc (by omega) _).trans (hbl.mono (by simp; omega))) _ _ rfl rfl
    clear hm hlt
    clear hgV hg1 hg2 hg3 hb1 hb2 hb3 hbl
    go_wp2_with fail
    go_ret
    exact hfin
  · have s1 := hg3.size
    have s2 := hbl.size
    have hlt := hg2.lt
    have hm0 : Blk ((w.alloc (.cells #[.int .i64 (-1)] 3)).alloc (.cells (row (c * 32 + 1) fun _ => 0) 3)).drew (w.heap.size + 1) (row (c * 32 + 1) fun _ => 0) 3 := by
      have := Blk.new (w.alloc (.cells #[.int .i64 (-1)] 3)) (row (c * 32 + 1) fun _ => 0) 3
      simp only [World.size_alloc] at this
      exact this
    have hm := (hm0.below hg3).below hbl
    rw [Nat.mul_comm c 32] at hm
    simp only [World.size_drew, World.size_alloc] at hg1 s1 s2
    have hfin := new_fin (w := w) (V := w3) hc (hg2.below hbl) hb2 hm (by omega) (by omega) (by omega) (by omega)
      (((((Below.refl w.heap.size w).alloc (Nat.le_refl _) (.cells #[.int .i64 (-1)] 3)).alloc (by simp) (.cells (row (c * 32 + 1) fun _ => 0) 3)).drew.trans (hg3.mono (by simp; omega))).trans (hbl.mono (by omega))) _ _ rfl rfl
    clear hm hlt hm0
    clear hgV hg1 hg2 hg3 hb1 hb2 hb3 hbl
    go_wp2_with fail
    go_ret
    exact hfin
  · have s1 := hg3.size
    have s2 := hbl.size
    have hlt := hg2.lt
    have hm0 : Blk ((w.alloc (.cells (row (c * 32 + 1) fun _ => 0) 3)).alloc (.cells #[.int .i64 (-1)] 3)).drew w.heap.size (row (c * 32 + 1) fun _ => 0) 3 := (Blk.new w (row (c * 32 + 1) fun _ => 0) 3).alloc _
    have hm := (hm0.below hg3).below hbl
    rw [Nat.mul_comm c 32] at hm
    simp only [World.size_drew, World.size_alloc] at hg1 s1 s2
    have hfin := new_fin (w := w) (V := w3) hc (hg2.below hbl) hb2 hm (by omega) (by omega) (by omega) (by omega)
      (((((Below.refl w.heap.size w).alloc (Nat.le_refl _) (.cells (row (c * 32 + 1) fun _ => 0) 3)).alloc (by simp) (.cells #[.int .i64 (-1)] 3)).drew.trans (hg3.mono (by simp; omega))).trans (hbl.mono (by omega))) _ _ rfl rfl
    clear hm hlt hm0
    clear hgV hg1 hg2 hg3 hb1 hb2 hb3 hbl
    go_wp2_with fail
    go_ret
    exact hfin
end Go.Proofs.YtidpmplkbgllfaaGreatDoor

namespace Go.Proofs.YtidpmplkbgllfaaGreatDoor
open Go Go.RowKit Go.Shelf Go.MuLone Go.RwLone
set_option linter.unusedSimpArgs false
set_option linter.unusedVariables false

/-- An arena that a call made: all of its blocks lie from B on. -/
structure ArIn (B : Nat) (X : ArB) (s : ArS) (wb wr : World) : Prop where
  at_ : ArAt wr X s
  own : ∀ k, X.has k → B ≤ k
  below : Below B wb wr
  base : B ≤ wb.heap.size
  tab : TableAt wb
  tabB : 0 < B

section
variable {B : Nat} {X : ArB} {s s' : ArS} {wb wr w' : World} {v : Value} {e : Ending}
theorem ArIn.size (h : ArIn B X s wb wr) : B ≤ wr.heap.size := Nat.le_trans h.base h.below.size
theorem ArIn.tabAt (h : ArIn B X s wb wr) : TableAt wr := by
  obtain ⟨T, fr, hT⟩ := h.tab
  exact ⟨T, fr, (h.below.block _ h.tabB).trans hT⟩
theorem ArIn.ask (h : ArIn B X s wb wr) (hB : Below wr.heap.size wr w') : ArIn B X s wb w' :=
  ⟨h.at_.below hB, h.own, h.below.trans (hB.mono h.size), h.base, h.tab, h.tabB⟩
theorem ArIn.drew (h : ArIn B X s wb wr) : ArIn B X s wb wr.drew := h.ask (Below.refl _ wr).drew
theorem ArIn.alloc (h : ArIn B X s wb wr) (o : Obj) : ArIn B X s wb (wr.alloc o) := h.ask ((Below.refl _ wr).alloc (Nat.le_refl _) o)
theorem ArIn.step {X' : ArB} (h : ArIn B X s wb wr) (hA : ArAt w' X' s') (hS : ArStep X wr X' w') : ArIn B X' s' wb w' := by
  have hsz := h.size
  refine ⟨hA, fun k hk => ?_, h.below.trans (hS.turn.below B hsz (fun k hk hx => by have := h.own k hx; omega)), h.base, h.tab, h.tabB⟩
  rcases hS.has_new hk with x | x
  · exact h.own k x
  · omega
theorem ArIn.post (h : ArIn B X s wb wr) (hP : ArPost X v s' wr e w') : e = .returned v ∧ ∃ lo', ArIn B (X.with lo') s' wb w' ∧ ArStep X wr (X.with lo') w' := by
  obtain ⟨lo', he, hA, hlo, hT⟩ := hP
  exact ⟨he, lo', h.step hA ⟨hlo, rfl, hT⟩, ⟨hlo, rfl, hT⟩⟩

/-- What is none of the arena's blocks stays, and stays none. -/
theorem ArStep.keep {X' : ArB} (h : ArStep X wr X' w') {k : Nat} (hk : k < wr.heap.size) (hn : ¬ X.has k) : w'.heap[k]? = wr.heap[k]? ∧ ¬ X'.has k :=
  ⟨h.turn.block k hk hn, fun hx => by rcases h.has_new hx with y | y; exact hn y; omega⟩
theorem Blk.step {X' : ArB} {b : Nat} {cs : Array Value} {T : TypeId} (hb : Blk wr b cs T) (h : ArStep X wr X' w') (hn : ¬ X.has b) : Blk w' b cs T ∧ ¬ X'.has b :=
  ⟨(h.keep hb.lt hn).1.trans hb, (h.keep hb.lt hn).2⟩

/-- A block of another type is none of an arena's. -/
theorem ArAt.far {b : Nat} {cs : Array Value} {T : TypeId} (h : ArAt wr X s) (hb : Blk wr b cs T) (h1 : T ≠ 76) (h2 : T ≠ 3) (h3 : T ≠ 116) (h4 : T ≠ 150) : ¬ X.has b := by
  rintro (e | e | e | e | e)
  · rw [e] at hb; exact blk_types hb h.head h1
  · rw [e] at hb; exact blk_types hb h.page h2
  · rw [e] at hb; exact blk_types hb h.word h2
  · obtain ⟨d, l, hB⟩ := h.set.2.2.blk
    rw [e] at hb; exact blk_types hb hB h3
  · obtain ⟨_, _, h5⟩ := h.set
    rw [e] at h5
    obtain ⟨_, _, ws, h6, _⟩ := h5
    exact blk_types hb h6 h4
/-- What holds no cells is none of an arena's blocks. -/
theorem ArAt.farObj {b : Nat} {o : Obj} (h : ArAt wr X s) (hb : wr.heap[b]? = some o) (ho : o.isCells = false) : ¬ X.has b := by
  have go : ∀ {k cs T}, Blk wr k cs T → b ≠ k := fun hk e => by
    subst e
    unfold Blk at hk
    rw [hk] at hb; cases hb; cases ho
  rintro (e | e | e | e | e)
  · exact go h.head e
  · exact go h.page e
  · exact go h.word e
  · obtain ⟨d, l, hB⟩ := h.set.2.2.blk
    exact go hB e
  · obtain ⟨_, _, h5⟩ := h.set
    rw [e] at h5
    obtain ⟨_, _, ws, h6, _⟩ := h5
    exact go h6 rfl

theorem ArIn.take (h : ArIn B X s wb wr) (c : Int) : Calls Tryz.prog 14 #[.pointer (some ⟨X.a, 0, none⟩), .int .i64 c] wr fun e w' =>
    e = .returned (.tuple #[.int .i64 ((seekF s c : Nat) : Int), .bool (decide (seekF s c ≠ 0))]) ∧ ∃ lo', ArIn B (X.with lo') (s.take c) wb w' ∧ ArStep X wr (X.with lo') w' :=
  (take_any h.at_ h.tabAt c).mono fun _ _ hP => h.post hP
theorem ArIn.give (h : ArIn B X s wb wr) (r : Int) : Calls Tryz.prog 56 #[.pointer (some ⟨X.a, 0, none⟩), .int .i64 r] wr fun e w' =>
    e = .returned (.bool (inS s.S r)) ∧ ∃ lo', ArIn B (X.with lo') (s.giveI r) wb w' ∧ ArStep X wr (X.with lo') w' :=
  (give_any h.at_ r).mono fun _ _ hP => h.post hP
theorem ArIn.free (h : ArIn B X s wb wr) : Calls Tryz.prog 23 #[.pointer (some ⟨X.a, 0, none⟩)] wr fun e w' => e = .returned (.int .i64 ((freeTo s s.P : Nat) : Int)) ∧ wr = w' := free_any h.at_
theorem ArIn.has (h : ArIn B X s wb wr) (r : Int) : Calls Tryz.prog 19 #[.pointer (some ⟨X.a, 0, none⟩), .int .i64 r] wr fun e w' => e = .returned (.bool (inS s.S r)) ∧ Below wr.heap.size wr w' := has_any h.at_.toArMem r
end

/-- A new arena, seen from a base. -/
theorem new_in (n : Int) (c : Nat) (hn : (c : Int) = min (max n 0) 64) (B : Nat) (wb wr : World) (hB : Below B wb wr) (hb : B ≤ wb.heap.size) (hT : TableAt wb) (hg : 0 < B) :
    Calls Tryz.prog 26 #[.int .i64 n] wr fun e w' => ∃ X, e = .returned (.pointer (some ⟨X.a, 0, none⟩)) ∧ ArIn B X (.new c) wb w' ∧ (∀ k, X.has k → wr.heap.size ≤ k) ∧ Below wr.heap.size wr w' :=
  (new_arena n c hn wr).mono fun e w' ⟨X, he, hA, ho, hBl⟩ => ⟨X, he, ⟨hA, fun k hk => Nat.le_trans (Nat.le_trans hb hB.size) (ho k hk), hB.trans (hBl.mono (Nat.le_trans hb hB.size)), hb, hT, hg⟩, ho, hBl⟩

theorem fit1 : seekF (.new 2) 2 = 1 := by decide +kernel
theorem fit2 : seekF ((ArS.new 2).take 2) 2 = 9 := by decide +kernel
theorem fit3 : freeTo (((ArS.new 2).take 2).take 2) (((ArS.new 2).take 2).take 2).P = 1 := by decide +kernel
theorem fit4 : inS (((ArS.new 2).take 2).take 2).S 9 = true := by decide +kernel
theorem fit5 : inS (((ArS.new 2).take 2).take 2).S 2 = false := by decide +kernel

end Go.Proofs.YtidpmplkbgllfaaGreatDoor
