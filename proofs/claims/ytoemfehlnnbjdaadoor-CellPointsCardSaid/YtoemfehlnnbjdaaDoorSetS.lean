/- Sets asked for any number; what a round over a set leaves of others; slices that came in; at this seat's numbers. -/
import Derived.Test.YtoemfehlnnbjdaaDoorSetP
namespace Go.Proofs.YtoemfehlnnbjdaaDoor
open Go.RowKit Go.Shelf Go.MuLone Go.RwLone

/-- There is such a number. -/
def may (n : Nat) (x : Int) : Bool := decide (0 ≤ x) && decide (x < n)
def putS (n : Nat) (S : Nat → Bool) (x : Int) : Nat → Bool := fun j => S j || (may n x && decide (j = x.toNat))
def dropS (S : Nat → Bool) (x : Int) : Nat → Bool := fun j => S j && !decide ((j : Int) = x)

theorem turnPost_same {b : Nat} {lo : Option Nat} {n : Nat} {S S' : Nat → Bool} {r : Bool} {w : World} {e : Ending} {w' : World} (hA : SetAt w b lo n S) (hr : r = false) (hS : S' = S) (h : e = .returned (.bool false) ∧ w = w') : TurnPost b lo n r S' w e w' := by
  obtain ⟨rfl, rfl⟩ := h
  subst hr hS
  exact ⟨lo, rfl, hA, .inl rfl, Turn.refl _ _⟩

theorem put_x (b : Nat) (lo : Option Nat) (n : Nat) (S : Nat → Bool) (x : Int) (w : World) (hA : SetAt w b lo n S) :
    Calls Tryd.prog 44 #[.pointer (some ⟨b, 0, none⟩), .int .i64 x] w (TurnPost b lo n (may n x && !S x.toNat) (putS n S x) w) := by
  by_cases h : 0 ≤ x ∧ x < n
  · obtain ⟨i, rfl⟩ : ∃ i : Nat, x = i := ⟨x.toNat, by omega⟩
    have hm : may n i = true := by simp [may]; omega
    exact put_at b lo n S _ _ i w (by omega) hA (by simp [hm]) (by funext j; simp [putS, hm])
  · have hm : may n x = false := by simp [may]; omega
    exact (put_no b lo n S x w (by omega) hA).mono fun e w' hp => turnPost_same hA (by simp [hm]) (by funext j; simp [putS, hm]) hp

theorem drop_x (b : Nat) (lo : Option Nat) (n : Nat) (S : Nat → Bool) (x : Int) (w : World) (hA : SetAt w b lo n S) :
    Calls Tryd.prog 52 #[.pointer (some ⟨b, 0, none⟩), .int .i64 x] w (TurnPost b lo n (may n x && S x.toNat) (dropS S x) w) := by
  by_cases h : 0 ≤ x ∧ x < n
  · obtain ⟨i, rfl⟩ : ∃ i : Nat, x = i := ⟨x.toNat, by omega⟩
    have hm : may n i = true := by simp [may]; omega
    exact drop_at b lo n S _ _ i w (by omega) hA (by simp [hm]) (by
      funext j
      by_cases e : j = i
      · subst e; simp [dropS]
      · have e2 : ¬ (j : Int) = (i : Int) := by omega
        simp [dropS, e, e2])
  · have hm : may n x = false := by simp [may]; omega
    refine (drop_no b lo n S x w (by omega) hA).mono fun e w' hp => turnPost_same hA (by simp [hm]) (by
      funext j
      by_cases hj : S j = true
      · have := hA.2.1 j hj
        have hne : ¬ (j : Int) = x := by omega
        simp [dropS, hne]
      · simp [dropS, hj]) hp

theorem has_x (b : Nat) (lo : Option Nat) (n : Nat) (S : Nat → Bool) (x : Int) (w : World) (hA : SetAt w b lo n S) :
    Calls Tryd.prog 53 #[.pointer (some ⟨b, 0, none⟩), .int .i64 x] w (TurnPost b lo n (may n x && S x.toNat) S w) := by
  by_cases h : 0 ≤ x ∧ x < n
  · obtain ⟨i, rfl⟩ : ∃ i : Nat, x = i := ⟨x.toNat, by omega⟩
    have hm : may n i = true := by simp [may]; omega
    exact has_at b lo n S _ i w (by omega) hA (by simp [hm])
  · have hm : may n x = false := by simp [may]; omega
    exact (has_no b lo n S x w (by omega) hA).mono fun e w' hp => turnPost_same hA (by simp [hm]) rfl hp

theorem Blk.kept {W W' : World} {b : Nat} {cs : Array Value} {T : TypeId} {row : Option Nat} (h : Blk W b cs T) (hg : W.grownBy W' row) (hrow : ∀ r, row = some r → ∃ o : Obj, W.heap[r]? = some o ∧ o.isCells = false) : Blk W' b cs T := by
  unfold Blk at *
  rw [grownBy_keeps_cells hg hrow h rfl]; exact h

theorem SetAt.kept {W W' : World} {b : Nat} {lo : Option Nat} {n : Nat} {S : Nat → Bool} {row : Option Nat} (h : SetAt W b lo n S) (hg : W.grownBy W' row) (hrow : ∀ r, row = some r → ∃ o : Obj, W.heap[r]? = some o ∧ o.isCells = false) : SetAt W' b lo n S := by
  obtain ⟨h1, h2, h3⟩ := h
  refine ⟨h1, h2, ?_⟩
  cases lo with
  | none => exact ⟨Blk.kept h3.1 hg hrow, h3.2⟩
  | some l =>
    obtain ⟨h4, h5, ws, h6, h7⟩ := h3
    exact ⟨Blk.kept h4 hg hrow, h5, ws, Blk.kept h6 hg hrow, h7⟩

/-- A call that turns cells alone leaves loops and deferred calls. -/
theorem SetAt.others {W W' : World} {b : Nat} {lo : Option Nat} {n : Nat} {S : Nat → Bool} (h : SetAt W b lo n S) (hT : Turn (fun k => k = b ∨ lo = some k) W W') : KeepsOthers W W' :=
  ⟨hT.size, fun k o hk ho => by
    have hlt := (Array.getElem?_eq_some_iff.1 hk).1
    by_cases hm : k = b ∨ lo = some k
    · obtain ⟨_, _, h3⟩ := h
      exfalso
      cases lo with
      | none =>
        rcases hm with rfl | e
        · have hh := h3.1; unfold Blk at hh; rw [hh] at hk; cases hk; cases ho
        · cases e
      | some l =>
        obtain ⟨h4, _, ws, h6, _⟩ := h3
        rcases hm with rfl | e
        · unfold Blk at h4; rw [h4] at hk; cases hk; cases ho
        · cases e; unfold Blk at h6; rw [h6] at hk; cases hk; cases ho
    · exact (hT.block k hlt hm).trans hk⟩

/-- A slice of ints that came in: each of its cells. -/
def IntsAt (w : World) (a : Option Addr) (zs : List Int) : Prop :=
  ∀ k, k < zs.length → ∃ b off, a = some ⟨b, off, none⟩ ∧ b < w.heap.size ∧ w.cell? ⟨b, off + k, none⟩ = some (.int .i64 (zs.getD k 0))
end Go.Proofs.YtoemfehlnnbjdaaDoor
