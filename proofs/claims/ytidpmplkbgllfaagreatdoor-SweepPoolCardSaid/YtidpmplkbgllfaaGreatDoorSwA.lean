/- An arena and a marker beside other blocks (no graph); a sweeper over them; at this seat's numbers. -/
import Derived.Test.YtidpmplkbgllfaaGreatDoorSwB
import Derived.Test.YtidpmplkbgllfaaGreatDoorUk
import Derived.Test.YtidpmplkbgllfaaGreatDoorGmN
import Derived.Test.YtidpmplkbgllfaaGreatDoorGoA
namespace Go.Proofs.YtidpmplkbgllfaaGreatDoor
open Go Go.RowKit Go.Shelf Go.MuLone Go.RwLone
set_option linter.unusedSimpArgs false
set_option linter.unusedVariables false
attribute [local go_sem] Oper.semAt_some

/-- An arena, a marker, and blocks E that calls keep. -/
structure MaIn (B : Nat) (E : Nat → Prop) (X : ArB) (s : ArS) (T : MkB) (c : Col) (wb wr : World) : Prop where
  ar : ArIn B X s wb wr
  mt : MkAt wr T X.a c
  n : T.n = 32 * s.P + 1
  inn : ∀ x, c.ma x = true → inS s.S x = true
  ownT : ∀ k, T.has k → B ≤ k ∧ ¬ X.has k ∧ ¬ E k
  ownE : ∀ k, E k → B ≤ k ∧ k < wr.heap.size ∧ ¬ X.has k
section
variable {B : Nat} {E E' : Nat → Prop} {X X' : ArB} {s s' : ArS} {T T' : MkB} {c c' : Col} {wb wr w' : World}
theorem MaIn.size (h : MaIn B E X s T c wb wr) : B ≤ wr.heap.size := h.ar.size
theorem MaIn.fits (h : MaIn B E X s T c wb wr) : Fits s := h.ar.at_.fits
theorem MaIn.ask (h : MaIn B E X s T c wb wr) (hB : Below wr.heap.size wr w') : MaIn B E X s T c wb w' :=
  ⟨h.ar.ask hB, h.mt.below hB, h.n, h.inn, h.ownT, fun k e => ⟨(h.ownE k e).1, Nat.lt_of_lt_of_le (h.ownE k e).2.1 hB.size, (h.ownE k e).2.2⟩⟩
theorem MaIn.alloc (h : MaIn B E X s T c wb wr) (o : Obj) : MaIn B E X s T c wb (wr.alloc o) := h.ask ((Below.refl _ wr).alloc (Nat.le_refl _) o)
theorem MaIn.drew (h : MaIn B E X s T c wb wr) : MaIn B E X s T c wb wr.drew := h.ask (Below.refl _ wr).drew
/-- Other blocks are watched: some of those, and new ones. -/
theorem MaIn.watch (h : MaIn B E X s T c wb wr) (hB : Below wr.heap.size wr w') (hE : ∀ k, E' k → E k ∨ (wr.heap.size ≤ k ∧ k < w'.heap.size)) : MaIn B E' X s T c wb w' := by
  have h1 := h.ask hB
  have hs := h.size
  refine ⟨h1.ar, h1.mt, h1.n, h1.inn, fun k e => ⟨(h1.ownT k e).1, (h1.ownT k e).2.1, fun e2 => ?_⟩, fun k e => ?_⟩
  · rcases hE k e2 with e3 | ⟨e3, _⟩
    · exact (h1.ownT k e).2.2 e3
    · have := h.mt.lt k e; omega
  · rcases hE k e with e3 | ⟨e3, e4⟩
    · exact h1.ownE k e3
    · exact ⟨by omega, e4, fun e5 => by have := h.ar.at_.lt k e5; omega⟩
/-- A marker's call. -/
theorem MaIn.stepMk (h : MaIn B E X s T c wb wr) (hA : MkAt w' T' X.a c') (hS : MkStep T wr T' w') (hi : ∀ x, c'.ma x = true → inS s.S x = true) : MaIn B E X s T' c' wb w' ∧ (∀ k, E k → w'.heap[k]? = wr.heap[k]?) ∧ wr.heap.size ≤ w'.heap.size := by
  have hs := h.size
  refine ⟨⟨h.ar.turnedG hS.turn (fun k e e2 => (h.ownT k e2).2.1 e) (fun k hk e => by have := (h.ownT k e).1; omega), hA, hS.n.trans h.n, hi, fun k e => ?_, fun k e => ⟨(h.ownE k e).1, Nat.lt_of_lt_of_le (h.ownE k e).2.1 hS.turn.size, (h.ownE k e).2.2⟩⟩, fun k e => hS.turn.block k (h.ownE k e).2.1 (fun e2 => (h.ownT k e2).2.2 e), hS.turn.size⟩
  rcases hS.new k e with e2 | e2
  · exact h.ownT k e2
  · exact ⟨by omega, fun e3 => by have := h.ar.at_.lt k e3; omega, fun e3 => by have := (h.ownE k e3).2.1; omega⟩
/-- An arena's call. -/
theorem MaIn.stepAr (h : MaIn B E X s T c wb wr) {lo : Option Nat} (hA : ArIn B (X.with lo) s' wb w') (hS : ArStep X wr (X.with lo) w') (hP : s'.P = s.P) (hi : ∀ x, c.ma x = true → inS s'.S x = true) : MaIn B E (X.with lo) s' T c wb w' ∧ (∀ k, E k → w'.heap[k]? = wr.heap[k]?) ∧ wr.heap.size ≤ w'.heap.size := by
  refine ⟨⟨hA, h.mt.turn hS.turn (fun k e => (h.ownT k e).2.1), by rw [hP]; exact h.n, hi, fun k e => ⟨(h.ownT k e).1, (hS.keep (h.mt.lt k e) (h.ownT k e).2.1).2, (h.ownT k e).2.2⟩, fun k e => ⟨(h.ownE k e).1, Nat.lt_of_lt_of_le (h.ownE k e).2.1 hS.turn.size, (hS.keep (h.ownE k e).2.1 (h.ownE k e).2.2).2⟩⟩, fun k e => (hS.keep (h.ownE k e).2.1 (h.ownE k e).2.2).1, hS.turn.size⟩
/-- Some of the blocks that calls keep are turned. -/
theorem MaIn.turnE {M : Nat → Prop} (h : MaIn B E X s T c wb wr) (hT : Turn M wr w') (hM : ∀ k, M k → E k) : MaIn B E X s T c wb w' :=
  ⟨h.ar.turnedG hT (fun k e e2 => (h.ownE k (hM k e2)).2.2 e) (fun k hk e => by have := (h.ownE k (hM k e)).1; omega), h.mt.turn hT (fun k e e2 => (h.ownT k e).2.2 (hM k e2)), h.n, h.inn, h.ownT, fun k e => ⟨(h.ownE k e).1, Nat.lt_of_lt_of_le (h.ownE k e).2.1 hT.size, (h.ownE k e).2.2⟩⟩
theorem ma_new (h : ArIn B X s wb wr) (room : Int) (hr : room ≤ 4096) (hE : ∀ k, E k → B ≤ k ∧ k < wr.heap.size ∧ ¬ X.has k) : Calls Tryz.prog 9 #[.pointer (some ⟨X.a, 0, none⟩), .int .i64 room] wr fun e w' =>
    ∃ T : MkB, e = .returned (.pointer (some ⟨T.m, 0, none⟩)) ∧ MaIn B E X s T Col.white wb w' ∧ Below wr.heap.size wr w' := by
  refine (mkNewM h.at_.toArMem room hr).mono ?_
  rintro e w1 ⟨T, rfl, hTn, hA, hN, hB⟩
  have hs := h.size
  exact ⟨T, rfl, ⟨h.ask hB, hA, hTn, fun x e => (by cases e), fun k e => ⟨by have := hN k e; omega, fun e2 => by have := hN k e; have := h.at_.lt k e2; omega, fun e2 => by have := hN k e; have := (hE k e2).2.1; omega⟩, fun k e => ⟨(hE k e).1, Nat.lt_of_lt_of_le (hE k e).2.1 hB.size, (hE k e).2.2⟩⟩, hB⟩
theorem MaIn.marked (h : MaIn B E X s T c wb wr) (x : Int) : Calls Tryz.prog 20 #[.pointer (some ⟨T.m, 0, none⟩), .int .i64 x] wr fun e w' => e = .returned (.bool (c.ma x)) ∧ Below wr.heap.size wr w' := by
  obtain ⟨S, S2, hS⟩ := h.mt.sees h.ar.at_.toArMem h.inn
  exact mkMarked hS x _ rfl
theorem MaIn.blacken (h : MaIn B E X s T c wb wr) (x : Int) (hx : inS s.S x = true) : Calls Tryz.prog 17 #[.pointer (some ⟨T.m, 0, none⟩), .int .i64 x] wr fun e w' =>
    e = .returned (.tuple #[]) ∧ ∃ T', T'.m = T.m ∧ MaIn B E X s T' (c.black x) wb w' ∧ (∀ k, E k → w'.heap[k]? = wr.heap[k]?) ∧ wr.heap.size ≤ w'.heap.size := by
  refine (mkBlacken h.mt h.ar.at_.toArMem h.n x hx).mono ?_
  rintro e w1 ⟨rfl, T', hA, hS⟩
  obtain ⟨g, hE⟩ := h.stepMk hA hS fun y hy => by
    have hy2 : updI c.ma x true y = true := hy
    by_cases e : y = x
    · rw [e]; exact hx
    · rw [updI_ne e] at hy2; exact h.inn y hy2
  exact ⟨rfl, T', hS.m, g, hE⟩
theorem MaIn.forget (h : MaIn B E X s T c wb wr) (x : Int) : Calls Tryz.prog 55 #[.pointer (some ⟨T.m, 0, none⟩), .int .i64 x] wr fun e w' =>
    e = .returned (.tuple #[]) ∧ ∃ T', T'.m = T.m ∧ MaIn B E X s T' (c.forget x) wb w' ∧ (∀ k, E k → w'.heap[k]? = wr.heap[k]?) ∧ wr.heap.size ≤ w'.heap.size := by
  refine (mkForget h.mt x).mono ?_
  rintro e w1 ⟨rfl, T', hA, hS⟩
  obtain ⟨g, hE⟩ := h.stepMk hA hS fun y hy => by
    have hy2 : updI c.ma x false y = true := hy
    by_cases e : y = x
    · rw [e, updI_at] at hy2; cases hy2
    · rw [updI_ne e] at hy2; exact h.inn y hy2
  exact ⟨rfl, T', hS.m, g, hE⟩
theorem MaIn.arena (h : MaIn B E X s T c wb wr) : Calls Tryz.prog 41 #[.pointer (some ⟨T.m, 0, none⟩)] wr fun e w' => e = .returned (.pointer (some ⟨X.a, 0, none⟩)) ∧ wr = w' := mkArena h.mt
theorem inS_putN {S : Nat → Bool} {r : Nat} {x : Int} (h : inS S x = true) : inS (putN S r) x = true := by
  unfold inS putN at *
  rw [Bool.and_eq_true] at *
  exact ⟨h.1, by rw [h.2]; rfl⟩
theorem MaIn.take (h : MaIn B E X s T c wb wr) (k : Int) : Calls Tryz.prog 14 #[.pointer (some ⟨X.a, 0, none⟩), .int .i64 k] wr fun e w' =>
    e = .returned (.tuple #[.int .i64 ((seekF s k : Nat) : Int), .bool (decide (seekF s k ≠ 0))]) ∧ ∃ lo', MaIn B E (X.with lo') (s.take k) T c wb w' ∧ (∀ k, E k → w'.heap[k]? = wr.heap[k]?) ∧ wr.heap.size ≤ w'.heap.size := by
  refine (h.ar.take k).mono ?_
  rintro e w1 ⟨rfl, lo, hA, hS⟩
  exact ⟨rfl, lo, h.stepAr hA hS (take_P s k) fun x hx => by
    have h1 := h.inn x hx
    by_cases e : seekF s k = 0
    · rw [take_none e]; exact h1
    · rw [take_some e]; exact inS_putN h1⟩
theorem MaIn.give (h : MaIn B E X s T c wb wr) (r : Nat) (hr : c.ma (r : Int) = false) : Calls Tryz.prog 56 #[.pointer (some ⟨X.a, 0, none⟩), .int .i64 (r : Int)] wr fun e w' =>
    e = .returned (.bool (inS s.S (r : Int))) ∧ ∃ lo', MaIn B E (X.with lo') (s.giveI (r : Int)) T c wb w' ∧ (∀ k, E k → w'.heap[k]? = wr.heap[k]?) ∧ wr.heap.size ≤ w'.heap.size := by
  refine (h.ar.give (r : Int)).mono ?_
  rintro e w1 ⟨rfl, lo, hA, hS⟩
  exact ⟨rfl, lo, h.stepAr hA hS (giveI_P s _) fun x hx => by
    have h1 := h.inn x hx
    unfold inS at h1 ⊢
    rw [Bool.and_eq_true] at h1 ⊢
    refine ⟨h1.1, ?_⟩
    have h0 : 0 ≤ x := of_decide_eq_true h1.1
    rw [giveI_S, h1.2, decide_eq_false (fun e => ?_)]
    · rfl
    · have e2 : x = (r : Int) := by omega
      rw [e2, hr] at hx; cases hx⟩
end
end Go.Proofs.YtidpmplkbgllfaaGreatDoor
