/- An arena in memory; its small methods, at this seat's numbers. -/
import Derived.Test.YtoemfehlnnbjdaaDoorArM
import Derived.Test.YtoemfehlnnbjdaaDoorSetQ
namespace Go.Proofs.YtoemfehlnnbjdaaDoor
open Go Go.RowKit Go.Shelf Go.MuLone Go.RwLone
set_option linter.unusedSimpArgs false
set_option linter.unusedVariables false

/-- The blocks of an arena: itself, its pages' classes, its words, its set and the set's leaf. -/
structure ArB where
  a : Nat
  c : Nat
  w : Nat
  b : Nat
  lo : Option Nat
def ArB.has (X : ArB) (k : Nat) : Prop := k = X.a ∨ k = X.c ∨ k = X.w ∨ k = X.b ∨ X.lo = some k
def ArB.with (X : ArB) (lo : Option Nat) : ArB := { X with lo := lo }
def arArr (X : ArB) (P : Nat) : Array Value := #[.slice (some ⟨X.c, 0, none⟩) P P, .pointer (some ⟨X.b, 0, none⟩), .slice (some ⟨X.w, 0, none⟩) (32 * P + 1) (32 * P + 1)]

structure ArNe (X : ArB) : Prop where
  ac : X.a ≠ X.c
  aw : X.a ≠ X.w
  ab : X.a ≠ X.b
  cw : X.c ≠ X.w
  cb : X.c ≠ X.b
  wb : X.w ≠ X.b
  la : X.lo ≠ some X.a
  lc : X.lo ≠ some X.c
  lw : X.lo ≠ some X.w

/-- The arena s in memory, in the blocks X. -/
structure ArMem (w : World) (X : ArB) (s : ArS) : Prop where
  head : Blk w X.a (arArr X s.P) 79
  page : Blk w X.c (row s.P s.cls) 3
  word : Blk w X.w (row (32 * s.P + 1) s.ws) 3
  set : SetAt w X.b X.lo (32 * s.P + 1) s.S
  ne : ArNe X
  p64 : s.P ≤ 64
/-- The same, of an arena between two calls. -/
structure ArAt (w : World) (X : ArB) (s : ArS) : Prop extends ArMem w X s where
  fits : Fits s

/-- What a call on an arena leaves: v, and the arena s'. -/
def ArPost (X : ArB) (v : Value) (s' : ArS) (w : World) (e : Ending) (w' : World) : Prop :=
  ∃ lo', e = .returned v ∧ ArAt w' (X.with lo') s' ∧ (lo' = X.lo ∨ X.lo = none ∧ ∃ l, lo' = some l ∧ w.heap.size ≤ l) ∧ Turn X.has w w'

theorem ArMem.lt {w : World} {X : ArB} {s : ArS} (h : ArMem w X s) : ∀ k, X.has k → k < w.heap.size := by
  rintro k (rfl | rfl | rfl | rfl | e)
  · exact h.head.lt
  · exact h.page.lt
  · exact h.word.lt
  · exact h.set.lt.1
  · exact h.set.lt.2 _ e
theorem ArMem.turn {M : Nat → Prop} {w w' : World} {X : ArB} {s : ArS} (h : ArMem w X s) (ht : Turn M w w') (hn : ∀ k, X.has k → ¬ M k) : ArMem w' X s :=
  ⟨h.head.turn ht (hn _ (.inl rfl)), h.page.turn ht (hn _ (.inr (.inl rfl))), h.word.turn ht (hn _ (.inr (.inr (.inl rfl)))),
    h.set.turn ht (hn _ (.inr (.inr (.inr (.inl rfl))))) (fun l hl => hn _ (.inr (.inr (.inr (.inr hl))))), h.ne, h.p64⟩
theorem ArAt.turn {M : Nat → Prop} {w w' : World} {X : ArB} {s : ArS} (h : ArAt w X s) (ht : Turn M w w') (hn : ∀ k, X.has k → ¬ M k) : ArAt w' X s := ⟨h.toArMem.turn ht hn, h.fits⟩
theorem ArAt.drewN {w : World} {X : ArB} {s : ArS} (h : ArAt w X s) (n : Nat) : ArAt (w.drewN n) X s := h.turn ((Turn.refl (fun _ => False) w).drewN n) (fun _ _ h => h)
theorem ArAt.drew {w : World} {X : ArB} {s : ArS} (h : ArAt w X s) : ArAt w.drew X s := h.turn ((Turn.refl (fun _ => False) w).drew) (fun _ _ h => h)
theorem ArAt.alloc {w : World} {X : ArB} {s : ArS} (h : ArAt w X s) (o : Obj) : ArAt (w.alloc o) X s := h.turn ((Turn.refl (fun _ => False) w).alloc o) (fun _ _ h => h)

/-- A call on the set has turned the set. -/
theorem ArMem.turned {w w' : World} {X : ArB} {s : ArS} {S' : Nat → Bool} {r : Bool} {e : Ending} (h : ArMem w X s) (hP : TurnPost X.b X.lo (32 * s.P + 1) r S' w e w') :
    ∃ lo', e = .returned (.bool r) ∧ (lo' = X.lo ∨ X.lo = none ∧ ∃ l, lo' = some l ∧ w.heap.size ≤ l) ∧ Turn X.has w w' ∧ Blk w' X.a (arArr X s.P) 79 ∧ Blk w' X.c (row s.P s.cls) 3 ∧ Blk w' X.w (row (32 * s.P + 1) s.ws) 3 ∧
      SetAt w' X.b lo' (32 * s.P + 1) S' ∧ ArNe (X.with lo') := by
  obtain ⟨lo', he, hA, hlo, hT⟩ := hP
  have hn := h.ne
  refine ⟨lo', he, hlo, hT.mono ?_, h.head.turn hT ?_, h.page.turn hT ?_, h.word.turn hT ?_, hA, ⟨hn.ac, hn.aw, hn.ab, hn.cw, hn.cb, hn.wb, ?_, ?_, ?_⟩⟩
  · rintro k _ (rfl | e)
    · exact .inr (.inr (.inr (.inl rfl)))
    · exact .inr (.inr (.inr (.inr e)))
  · rintro (e | e)
    · exact hn.ab e
    · exact hn.la e
  · rintro (e | e)
    · exact hn.cb e
    · exact hn.lc e
  · rintro (e | e)
    · exact hn.wb e
    · exact hn.lw e
  · show lo' ≠ some X.a
    rcases hlo with e | ⟨_, l, e, hl⟩
    · rw [e]; exact hn.la
    · rw [e]; intro x; cases x; have := h.head.lt; omega
  · show lo' ≠ some X.c
    rcases hlo with e | ⟨_, l, e, hl⟩
    · rw [e]; exact hn.lc
    · rw [e]; intro x; cases x; have := h.page.lt; omega
  · show lo' ≠ some X.w
    rcases hlo with e | ⟨_, l, e, hl⟩
    · rw [e]; exact hn.lw
    · rw [e]; intro x; cases x; have := h.word.lt; omega

theorem ArPost.same {w : World} {X : ArB} {s : ArS} {v : Value} {e : Ending} (h : ArAt w X s) (he : e = .returned v) : ArPost X v s w e w :=
  ⟨X.lo, he, h, .inl rfl, Turn.refl _ _⟩
theorem ArPost.quiet {w w' : World} {X : ArB} {s : ArS} {v : Value} {e : Ending} (h : ArAt w X s) (he : e = .returned v ∧ w = w') : ArPost X v s w e w' := by
  obtain ⟨he, rfl⟩ := he; exact ArPost.same h he

/-- One step behind another one. -/
structure ArStep (X : ArB) (w : World) (X' : ArB) (w' : World) : Prop where
  lo : X'.lo = X.lo ∨ X.lo = none ∧ ∃ l, X'.lo = some l ∧ w.heap.size ≤ l
  eq : X' = X.with X'.lo
  turn : Turn X.has w w'
theorem ArStep.refl (X : ArB) (w : World) : ArStep X w X w := ⟨.inl rfl, rfl, Turn.refl _ _⟩
theorem ArStep.ofPost {X : ArB} {w w' : World} {v : Value} {s' : ArS} {e : Ending} (h : ArPost X v s' w e w') : ∃ X', e = .returned v ∧ ArAt w' X' s' ∧ ArStep X w X' w' := by
  obtain ⟨lo', he, hA, hlo, hT⟩ := h
  exact ⟨X.with lo', he, hA, ⟨hlo, rfl, hT⟩⟩
theorem ArStep.has_new {X X' : ArB} {w w' : World} (h : ArStep X w X' w') {k : Nat} (hk : X'.has k) : X.has k ∨ w.heap.size ≤ k := by
  have e := h.eq
  rcases hk with rfl | rfl | rfl | rfl | hk
  · rw [e]; exact .inl (.inl rfl)
  · rw [e]; exact .inl (.inr (.inl rfl))
  · rw [e]; exact .inl (.inr (.inr (.inl rfl)))
  · rw [e]; exact .inl (.inr (.inr (.inr (.inl rfl))))
  · rcases h.lo with e2 | ⟨_, l, e2, hl⟩
    · exact .inl (.inr (.inr (.inr (.inr (e2 ▸ hk)))))
    · rw [e2] at hk; cases hk; exact .inr hl
theorem ArStep.trans {X X' X2 : ArB} {w w' w2 : World} (h : ArStep X w X' w') (k : ArStep X' w' X2 w2) : ArStep X w X2 w2 := by
  have hs := h.turn.size
  refine ⟨?_, ?_, h.turn.trans k.turn fun i hi hk => ?_⟩
  · rcases k.lo with e | ⟨e0, l, e, hl⟩
    · rw [e]; exact h.lo
    · rcases h.lo with e1 | ⟨_, l', e1, _⟩
      · exact .inr ⟨by rw [← e1]; exact e0, l, e, by omega⟩
      · rw [e0] at e1; cases e1
  · have e1 := h.eq
    have e2 := k.eq
    rw [e2, e1]
    rfl
  · rcases h.has_new hk with x | x
    · exact x
    · omega
theorem ArStep.post {X X' : ArB} {w w' : World} {s' : ArS} {v : Value} {e : Ending} (h : ArStep X w X' w') (he : e = .returned v) (hA : ArAt w' X' s') : ArPost X v s' w e w' :=
  ⟨X'.lo, he, h.eq ▸ hA, h.lo, h.turn⟩
theorem ArStep.ofBelow (X : ArB) {w w' : World} (hB : Below w.heap.size w w') (hlt : ∀ k, X.has k → k < w.heap.size) : ArStep X w X w' :=
  ⟨.inl rfl, rfl, ⟨hB.os, hB.tape, hB.output, hB.size, fun k hk _ => hB.block k hk⟩⟩
theorem ArStep.drew {X X' : ArB} {w w' : World} (h : ArStep X w X' w') : ArStep X w X' w'.drew := ⟨h.lo, h.eq, h.turn.drew⟩
theorem ArStep.drewN {X X' : ArB} {w w' : World} (h : ArStep X w X' w') (n : Nat) : ArStep X w X' (w'.drewN n) := ⟨h.lo, h.eq, h.turn.drewN n⟩
theorem ArStep.lead {X X' : ArB} {w w0 w' : World} (h : ArStep X w X' w') (hT : Turn X.has w0 w) (hs : w0.heap.size ≤ w.heap.size) : ArStep X w0 X' w' := by
  refine ⟨?_, h.eq, hT.trans h.turn fun _ _ h => h⟩
  rcases h.lo with e | ⟨e0, l, e, hl⟩
  · exact .inl e
  · exact .inr ⟨e0, l, e, by omega⟩

section
variable {w : World} {X : ArB} {s : ArS}

theorem ArMem.c0 (h : ArMem w X s) : w.cell? ⟨X.a, 0, none⟩ = some (.slice (some ⟨X.c, 0, none⟩) s.P s.P) := h.head.cell 0
theorem ArMem.c1 (h : ArMem w X s) : w.cell? ⟨X.a, 1, none⟩ = some (.pointer (some ⟨X.b, 0, none⟩)) := h.head.cell 1
theorem ArMem.c2 (h : ArMem w X s) : w.cell? ⟨X.a, 2, none⟩ = some (.slice (some ⟨X.w, 0, none⟩) (32 * s.P + 1) (32 * s.P + 1)) := h.head.cell 2

theorem pages_any (h : ArMem w X s) : Calls Tryd.prog 33 #[.pointer (some ⟨X.a, 0, none⟩)] w fun e w' => e = .returned (.int .i64 (s.P : Int)) ∧ w = w' := by
  have h0 := h.c0
  go_enter Tryd.func33, Tryd.ntmps33
  go_wp2
  go_ret
  exact ⟨rfl, rfl⟩

theorem size_any (h : ArMem w X s) : Calls Tryd.prog 34 #[.pointer (some ⟨X.a, 0, none⟩)] w fun e w' => e = .returned (.int .i64 ((32 * s.P + 1 : Nat) : Int)) ∧ w = w' := by
  have h0 := h.c2
  obtain ⟨n, hn⟩ : ∃ n, n = 32 * s.P + 1 := ⟨_, rfl⟩
  rw [← hn] at h0 ⊢
  clear hn
  go_enter Tryd.func34, Tryd.ntmps34
  go_wp2
  go_ret
  exact ⟨rfl, rfl⟩

/-- The page of any Ref; -1: of none. -/
def pgI (s : ArS) (r : Int) : Int := if 1 ≤ r ∧ r ≤ 32 * s.P then ((pg r.toNat : Nat) : Int) else -1
def clsI (s : ArS) (p : Int) : Int := if 0 ≤ p ∧ p < s.P then s.cls p.toNat else -1
def inS (S : Nat → Bool) (x : Int) : Bool := decide (0 ≤ x) && S x.toNat
theorem inS_nat (S : Nat → Bool) (j : Nat) : inS S (j : Int) = S j := by simp [inS]

theorem page_no (h : ArMem w X s) (r : Int) (hr : ¬ (1 ≤ r ∧ r ≤ 32 * s.P)) : Calls Tryd.prog 43 #[.pointer (some ⟨X.a, 0, none⟩), .int .i64 r] w fun e w' => e = .returned (.int .i64 (-1)) ∧ w = w' := by
  have cS := size_any h
  obtain ⟨n, hn⟩ : ∃ n, n = 32 * s.P + 1 := ⟨_, rfl⟩
  rw [← hn] at cS
  by_cases h1 : r < 1
  · clear hr
    go_enter Tryd.func43, Tryd.ntmps43
    go_wp2
    go_ret
    exact ⟨rfl, rfl⟩
  · have h2 : (n : Int) ≤ r := by omega
    clear hn hr h
    go_enter Tryd.func43, Tryd.ntmps43
    go_wp2_with fail
    refine cS.mono ?_
    rintro e w' ⟨rfl, rfl⟩
    go_wp2_with fail
    go_ret
    exact ⟨rfl, rfl⟩

theorem page_yes (h : ArMem w X s) (r : Nat) (h1 : 1 ≤ r) (h2 : r ≤ 32 * s.P) : Calls Tryd.prog 43 #[.pointer (some ⟨X.a, 0, none⟩), .int .i64 r] w fun e w' => e = .returned (.int .i64 ((pg r : Nat) : Int)) ∧ w = w' := by
  have cS := size_any h
  have hp := h.p64
  obtain ⟨n, hn⟩ : ∃ n, n = 32 * s.P + 1 := ⟨_, rfl⟩
  rw [← hn] at cS
  have h3 : (r : Int) < n := by omega
  have h4 : (1 : Int) ≤ r := by omega
  have h5 : (r : Int) ≤ 2048 := by omega
  clear hn h h1 h2 hp
  go_enter Tryd.func43, Tryd.ntmps43
  go_wp2_with fail
  refine cS.mono ?_
  rintro e w' ⟨rfl, rfl⟩
  go_wp2_with fail
  go_ret
  exact ⟨ret_num (by unfold pg; omega), rfl⟩

theorem page_any (h : ArMem w X s) (r : Int) : Calls Tryd.prog 43 #[.pointer (some ⟨X.a, 0, none⟩), .int .i64 r] w fun e w' => e = .returned (.int .i64 (pgI s r)) ∧ w = w' := by
  unfold pgI
  by_cases hr : 1 ≤ r ∧ r ≤ 32 * s.P
  · rw [if_pos hr]
    obtain ⟨n, rfl⟩ : ∃ n : Nat, r = n := ⟨r.toNat, by omega⟩
    exact page_yes h n (by omega) (by omega)
  · rw [if_neg hr]; exact page_no h r hr

theorem ret_bool {a b : Bool} (h : a = b) : Ending.returned (.bool a) = .returned (.bool b) := by rw [h]
theorem knowsP_any (h : ArMem w X s) (p : Int) : Calls Tryd.prog 58 #[.pointer (some ⟨X.a, 0, none⟩), .int .i64 p] w fun e w' => e = .returned (.bool (decide (0 ≤ p ∧ p < s.P))) ∧ w = w' := by
  have cS := pages_any h
  by_cases h1 : 0 ≤ p
  · by_cases h2 : p < s.P
    · rw [decide_eq_true ⟨h1, h2⟩]
      clear h
      generalize s.P = n at *
      go_enter Tryd.func58, Tryd.ntmps58
      go_wp2_with fail
      refine cS.mono ?_
      rintro e w' ⟨rfl, rfl⟩
      go_wp2_with fail
      go_ret
      exact ⟨rfl, rfl⟩
    · rw [decide_eq_false (fun x => h2 x.2)]
      clear h
      generalize s.P = n at *
      go_enter Tryd.func58, Tryd.ntmps58
      go_wp2_with fail
      refine cS.mono ?_
      rintro e w' ⟨rfl, rfl⟩
      go_wp2_with fail
      go_ret
      exact ⟨ret_bool (decide_eq_false (by omega)), rfl⟩
  · rw [decide_eq_false (fun x => h1 x.1)]
    clear cS
    go_enter Tryd.func58, Tryd.ntmps58
    go_wp2_with fail
    go_ret
    exact ⟨rfl, rfl⟩

theorem ref_any (p o : Int) (hp : 0 ≤ p) (hp2 : p ≤ 64) (ho : 0 ≤ o) (ho2 : o ≤ 64) : Calls Tryd.prog 92 #[.int .i64 p, .int .i64 o] w fun e w' => e = .returned (.int .i64 (p * 32 + o + 1)) ∧ w = w' := by
  go_enter Tryd.func92, Tryd.ntmps92
  go_wp2
  go_ret
  exact ⟨rfl, rfl⟩

theorem cell_row {b n : Nat} {f : Nat → Int} (h : Blk w b (row n f) 3) {k : Nat} (hk : k < n) : w.cell? ⟨b, k, none⟩ = some (.int .i64 (f k)) := (h.cell k).trans (row_get f hk)

theorem class_any (h : ArMem w X s) (p : Int) : Calls Tryd.prog 32 #[.pointer (some ⟨X.a, 0, none⟩), .int .i64 p] w fun e w' => e = .returned (.int .i64 (clsI s p)) ∧ w = w' := by
  have cK := knowsP_any h p
  unfold clsI
  by_cases hp : 0 ≤ p ∧ p < s.P
  · rw [if_pos hp]
    rw [decide_eq_true hp] at cK
    obtain ⟨n, rfl⟩ : ∃ n : Nat, p = n := ⟨p.toNat, by omega⟩
    have h0 := h.c0
    have h1 := cell_row h.page (k := n) (by omega)
    have hn : (n : Int) < s.P := hp.2
    rw [Int.toNat_natCast]
    clear h hp
    generalize s.cls n = v at *
    generalize s.P = m at *
    go_enter Tryd.func32, Tryd.ntmps32
    go_wp2_with fail
    refine cK.mono ?_
    rintro e w' ⟨rfl, rfl⟩
    go_wp2_with fail
    go_ret
    exact ⟨rfl, rfl⟩
  · rw [if_neg hp]
    rw [decide_eq_false hp] at cK
    clear hp
    go_enter Tryd.func32, Tryd.ntmps32
    go_wp2_with fail
    refine cK.mono ?_
    rintro e w' ⟨rfl, rfl⟩
    go_wp2_with fail
    go_ret
    exact ⟨rfl, rfl⟩

theorem may_in (h : ArMem w X s) (r : Int) : (may (32 * s.P + 1) r && s.S r.toNat) = inS s.S r := by
  unfold may inS
  by_cases h0 : 0 ≤ r
  · cases hS : s.S r.toNat with
    | true => have := h.set.2.1 _ hS; simp [h0]; omega
    | false => simp
  · simp [h0]

theorem ArMem.below {w' : World} (h : ArMem w X s) (hB : Below w.heap.size w w') : ArMem w' X s := h.turn (Turn.ofBelow hB) (fun k hk e => by have := h.lt k hk; omega)
theorem ArAt.below {w' : World} (h : ArAt w X s) (hB : Below w.heap.size w w') : ArAt w' X s := h.turn (Turn.ofBelow hB) (fun k hk e => by have := h.lt k hk; omega)
theorem below_to {B : Nat} {w0 w1 w2 : World} (h : Below B w0 w1) (k : Below w1.heap.size w1 w2) (hB : B ≤ w1.heap.size) : Below B w0 w2 := h.trans (k.mono hB)
theorem below_step {w0 w1 w2 : World} (h : Below w0.heap.size w0 w1) (k : Below w1.heap.size w1 w2) : Below w0.heap.size w0 w2 := below_to h k h.size

theorem has_any (h : ArMem w X s) (r : Int) : Calls Tryd.prog 31 #[.pointer (some ⟨X.a, 0, none⟩), .int .i64 r] w fun e w' => e = .returned (.bool (inS s.S r)) ∧ Below w.heap.size w w' := by
  have h1 := h.c1
  have cH := has_q X.b X.lo (32 * s.P + 1) s.S r w h.set
  rw [may_in h r] at cH
  go_enter Tryd.func31, Tryd.ntmps31
  go_wp2_with fail
  refine cH.mono ?_
  rintro e w1 ⟨rfl, hB⟩
  clear cH
  go_wp2_with fail
  go_ret
  exact ⟨rfl, hB⟩
end
end Go.Proofs.YtoemfehlnnbjdaaDoor
