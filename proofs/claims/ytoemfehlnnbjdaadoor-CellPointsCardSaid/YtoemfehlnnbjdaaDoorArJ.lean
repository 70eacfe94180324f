/- What stands in memory between a law's steps; fit; at this seat's numbers. -/
import Derived.Test.YtoemfehlnnbjdaaDoorArI
namespace Go.Proofs.YtoemfehlnnbjdaaDoor
open Go Go.RowKit Go.Shelf Go.MuLone Go.RwLone
set_option linter.unusedSimpArgs false
set_option linter.unusedVariables false

/-- An arena that a call made: all of its blocks lie from B on. -/
structure ArIn (B : Nat) (X : ArB) (s : ArS) (wb wr : World) : Prop where
  at_ : ArAt wr X s
  own : ∀ k, X.has k → B ≤ k
  below : Below B wb wr
  base : B ≤ wb.heap.size
  tab : TableAt wb
  tabB : 0 < B

section
variable {B : Nat} {X : ArB} {s s' : ArS} {wb wr w' : World} {v : Value} {e : Ending}
theorem ArIn.size (h : ArIn B X s wb wr) : B ≤ wr.heap.size := Nat.le_trans h.base h.below.size
theorem ArIn.tabAt (h : ArIn B X s wb wr) : TableAt wr := by
  obtain ⟨T, fr, hT⟩ := h.tab
  exact ⟨T, fr, (h.below.block _ h.tabB).trans hT⟩
theorem ArIn.ask (h : ArIn B X s wb wr) (hB : Below wr.heap.size wr w') : ArIn B X s wb w' :=
  ⟨h.at_.below hB, h.own, h.below.trans (hB.mono h.size), h.base, h.tab, h.tabB⟩
theorem ArIn.drew (h : ArIn B X s wb wr) : ArIn B X s wb wr.drew := h.ask (Below.refl _ wr).drew
theorem ArIn.alloc (h : ArIn B X s wb wr) (o : Obj) : ArIn B X s wb (wr.alloc o) := h.ask ((Below.refl _ wr).alloc (Nat.le_refl _) o)
theorem ArIn.step {X' : ArB} (h : ArIn B X s wb wr) (hA : ArAt w' X' s') (hS : ArStep X wr X' w') : ArIn B X' s' wb w' := by
  have hsz := h.size
  refine ⟨hA, fun k hk => ?_, h.below.trans (hS.turn.below B hsz (fun k hk hx => by have := h.own k hx; omega)), h.base, h.tab, h.tabB⟩
  rcases hS.has_new hk with x | x
  · exact h.own k x
  · omega
theorem ArIn.post (h : ArIn B X s wb wr) (hP : ArPost X v s' wr e w') : e = .returned v ∧ ∃ lo', ArIn B (X.with lo') s' wb w' ∧ ArStep X wr (X.with lo') w' := by
  obtain ⟨lo', he, hA, hlo, hT⟩ := hP
  exact ⟨he, lo', h.step hA ⟨hlo, rfl, hT⟩, ⟨hlo, rfl, hT⟩⟩

/-- What is none of the arena's blocks stays, and stays none. -/
theorem ArStep.keep {X' : ArB} (h : ArStep X wr X' w') {k : Nat} (hk : k < wr.heap.size) (hn : ¬ X.has k) : w'.heap[k]? = wr.heap[k]? ∧ ¬ X'.has k :=
  ⟨h.turn.block k hk hn, fun hx => by rcases h.has_new hx with y | y; exact hn y; omega⟩
theorem Blk.step {X' : ArB} {b : Nat} {cs : Array Value} {T : TypeId} (hb : Blk wr b cs T) (h : ArStep X wr X' w') (hn : ¬ X.has b) : Blk w' b cs T ∧ ¬ X'.has b :=
  ⟨(h.keep hb.lt hn).1.trans hb, (h.keep hb.lt hn).2⟩

/-- A block of another type is none of an arena's. -/
theorem ArAt.far {b : Nat} {cs : Array Value} {T : TypeId} (h : ArAt wr X s) (hb : Blk wr b cs T) (h1 : T ≠ 79) (h2 : T ≠ 3) (h3 : T ≠ 113) (h4 : T ≠ 156) : ¬ X.has b := by
  rintro (e | e | e | e | e)
  · rw [e] at hb; exact blk_types hb h.head h1
  · rw [e] at hb; exact blk_types hb h.page h2
  · rw [e] at hb; exact blk_types hb h.word h2
  · obtain ⟨d, l, hB⟩ := h.set.2.2.blk
    rw [e] at hb; exact blk_types hb hB h3
  · obtain ⟨_, _, h5⟩ := h.set
    rw [e] at h5
    obtain ⟨_, _, ws, h6, _⟩ := h5
    exact blk_types hb h6 h4
/-- What holds no cells is none of an arena's blocks. -/
theorem ArAt.farObj {b : Nat} {o : Obj} (h : ArAt wr X s) (hb : wr.heap[b]? = some o) (ho : o.isCells = false) : ¬ X.has b := by
  have go : ∀ {k cs T}, Blk wr k cs T → b ≠ k := fun hk e => by
    subst e
    unfold Blk at hk
    rw [hk] at hb; cases hb; cases ho
  rintro (e | e | e | e | e)
  · exact go h.head e
  · exact go h.page e
  · exact go h.word e
  · obtain ⟨d, l, hB⟩ := h.set.2.2.blk
    exact go hB e
  · obtain ⟨_, _, h5⟩ := h.set
    rw [e] at h5
    obtain ⟨_, _, ws, h6, _⟩ := h5
    exact go h6 rfl

theorem ArIn.take (h : ArIn B X s wb wr) (c : Int) : Calls Tryd.prog 26 #[.pointer (some ⟨X.a, 0, none⟩), .int .i64 c] wr fun e w' =>
    e = .returned (.tuple #[.int .i64 ((seekF s c : Nat) : Int), .bool (decide (seekF s c ≠ 0))]) ∧ ∃ lo', ArIn B (X.with lo') (s.take c) wb w' ∧ ArStep X wr (X.with lo') w' :=
  (take_any h.at_ h.tabAt c).mono fun _ _ hP => h.post hP
theorem ArIn.give (h : ArIn B X s wb wr) (r : Int) : Calls Tryd.prog 23 #[.pointer (some ⟨X.a, 0, none⟩), .int .i64 r] wr fun e w' =>
    e = .returned (.bool (inS s.S r)) ∧ ∃ lo', ArIn B (X.with lo') (s.giveI r) wb w' ∧ ArStep X wr (X.with lo') w' :=
  (give_any h.at_ r).mono fun _ _ hP => h.post hP
theorem ArIn.room (h : ArIn B X s wb wr) (c : Int) : Calls Tryd.prog 25 #[.pointer (some ⟨X.a, 0, none⟩), .int .i64 c] wr fun e w' =>
    e = .returned (.bool (((seekF s c : Nat) : Int) != 0)) ∧ Below wr.heap.size wr w' := room_any h.at_ h.tabAt c
theorem ArIn.free (h : ArIn B X s wb wr) : Calls Tryd.prog 28 #[.pointer (some ⟨X.a, 0, none⟩)] wr fun e w' => e = .returned (.int .i64 ((freeTo s s.P : Nat) : Int)) ∧ wr = w' := free_any h.at_
theorem ArIn.has (h : ArIn B X s wb wr) (r : Int) : Calls Tryd.prog 31 #[.pointer (some ⟨X.a, 0, none⟩), .int .i64 r] wr fun e w' => e = .returned (.bool (inS s.S r)) ∧ Below wr.heap.size wr w' := has_any h.at_.toArMem r
end

/-- A new arena, seen from a base. -/
theorem new_in (n : Int) (c : Nat) (hn : (c : Int) = min (max n 0) 64) (B : Nat) (wb wr : World) (hB : Below B wb wr) (hb : B ≤ wb.heap.size) (hT : TableAt wb) (hg : 0 < B) :
    Calls Tryd.prog 8 #[.int .i64 n] wr fun e w' => ∃ X, e = .returned (.pointer (some ⟨X.a, 0, none⟩)) ∧ ArIn B X (.new c) wb w' ∧ (∀ k, X.has k → wr.heap.size ≤ k) ∧ Below wr.heap.size wr w' :=
  (new_arena n c hn wr).mono fun e w' ⟨X, he, hA, ho, hBl⟩ => ⟨X, he, ⟨hA, fun k hk => Nat.le_trans (Nat.le_trans hb hB.size) (ho k hk), hB.trans (hBl.mono (Nat.le_trans hb hB.size)), hb, hT, hg⟩, ho, hBl⟩

theorem fit1 : seekF (.new 2) 2 = 1 := by decide +kernel
theorem fit2 : seekF ((ArS.new 2).take 2) 2 = 9 := by decide +kernel
theorem fit3 : freeTo (((ArS.new 2).take 2).take 2) (((ArS.new 2).take 2).take 2).P = 1 := by decide +kernel
theorem fit4 : inS (((ArS.new 2).take 2).take 2).S 9 = true := by decide +kernel
theorem fit5 : inS (((ArS.new 2).take 2).take 2).S 2 = false := by decide +kernel

set_option maxRecDepth 100000 in
set_option maxHeartbeats 2000000 in
theorem fit_true (w : World) (hT : TableAt w) : Calls Tryd.prog 20 #[] w fun e w' => e = .returned (.bool true) ∧ Below w.heap.size w w' := by
  have hg := hT.lt
  go_enter Tryd.func20, Tryd.ntmps20
  go_wp2_with fail
  refine (new_in 2 2 (by decide) w.heap.size w w (Below.refl _ _) (Nat.le_refl _) hT hg).mono ?_
  rintro e w1 ⟨X, rfl, h1, _, _⟩
  go_wp2_with fail
  refine (h1.take 2).mono ?_
  rintro e w2 ⟨rfl, l2, h2, _⟩
  rw [fit1]
  go_wp2_with fail
  refine (h2.take 2).mono ?_
  rintro e w3 ⟨rfl, l3, h3, _⟩
  rw [fit2]
  go_wp2_with fail
  refine h3.free.mono ?_
  rintro e w' ⟨rfl, rfl⟩
  rw [fit3]
  go_wp2_with fail
  refine (h3.has 9).mono ?_
  rintro e w4 ⟨rfl, hB4⟩
  rw [fit4]
  have h4 := h3.ask hB4
  go_wp2_with fail
  refine (h4.has 2).mono ?_
  rintro e w5 ⟨rfl, hB5⟩
  rw [fit5]
  have h5 := h4.ask hB5
  go_wp2_with fail
  go_ret
  exact ⟨rfl, h5.below⟩
end Go.Proofs.YtoemfehlnnbjdaaDoor
