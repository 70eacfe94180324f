/- What law 18's statements share; at this seat's numbers. -/
import Derived.Test.YtidpmplkbgllfaaGreatDoorSwF
namespace Go.Proofs.YtidpmplkbgllfaaGreatDoor
open Go Go.RowKit Go.Shelf Go.MuLone Go.RwLone
set_option linter.unusedSimpArgs false
set_option linter.unusedVariables false
attribute [local go_sem] Oper.semAt_some

theorem BytesW.underS {w w' : World} {a : Option Addr} {zs : List Int} {n0 : Nat} (h : BytesW w a zs) (hB : Below n0 w w') (hn : w.heap.size ≤ n0) : BytesW w' a zs := fun k hk => by
  obtain ⟨b, off, e, hb, hc, hw⟩ := h k hk
  exact ⟨b, off, e, by have := hB.size; omega, (hB.cell (p := ⟨b, off + k, none⟩) (by show b < n0; omega)).trans hc, hw⟩
theorem EdgesW.underS {w w' : World} {a : Option Addr} {n n0 : Nat} {Q : Nat → Nat → Int} (h : EdgesW w a n Q) (hB : Below n0 w w') (hn : w.heap.size ≤ n0) : EdgesW w' a n Q := fun k hk => by
  obtain ⟨b, off, e, hb, hc⟩ := h k hk
  exact ⟨b, off, e, by have := hB.size; omega, fun j hj => ⟨(hB.cell (p := ⟨b, off + k * 3 + j, none⟩) (by show b < n0; omega)).trans (hc j hj).1, (hc j hj).2⟩⟩
theorem mem_elemsS {S : Nat → Bool} {n j : Nat} : j ∈ elems S n ↔ j < n ∧ S j = true := by unfold elems; simp
theorem fits_lt {s : ArS} (hF : Fits s) (hP : s.P = 64) {r : Nat} (h : s.S r = true) : 1 ≤ r ∧ r < 2049 ∧ pg r < 64 := by
  have h1 := hF.at_ r h
  rw [hP] at h1
  unfold pg
  exact ⟨h1.1, by omega, by omega⟩
theorem MadeL.count {a0 : Option Addr} {nf : Nat} {X : ArB} {s : ArS} {obs : List Ob} {vl : Value} {w w' : World} (h : MadeL a0 nf X s obs vl w w') : (elems s.S 2049).length = nf := by
  rw [← h.len, ← refsI_length]
  have h1 : (intsN (elems s.S 2049)).length = (elems s.S 2049).length := intsN_length _
  rw [← h1]
  refine same_length ?_ h.nodup fun x => ?_
  · unfold intsN elems
    exact List.pairwise_map.2 ((List.nodup_range.filter _).imp fun {a b} hab e => hab (by omega))
  · constructor
    · intro hx
      obtain ⟨r, hr, rfl⟩ := List.mem_map.1 hx
      exact h.mem (mem_elemsS.1 hr).2
    · intro hx
      have h2 := h.in_ hx
      unfold inS at h2
      rw [Bool.and_eq_true] at h2
      have h0 : 0 ≤ x := of_decide_eq_true h2.1
      exact List.mem_map.2 ⟨x.toNat, mem_elemsS.2 ⟨(fits_lt h.ar.at_.fits h.P h2.2).2.1, h2.2⟩, by omega⟩
theorem swC_white (s : ArS) (p : Nat) : swC s Col.white p = Col.white := by
  unfold swC
  have e : (pgL s.S p).filter (blk Col.white) = [] := List.filter_eq_nil_iff.2 fun r hr h => by cases h
  rw [e]; rfl
theorem elems_none {S : Nat → Bool} (n : Nat) (h : ∀ r, S r = false) : (elems S n).length = 0 := by
  unfold elems
  rw [List.filter_eq_nil_iff.2 fun r _ e => by rw [h r] at e; cases e]; rfl
/-- All are free: each page is. -/
theorem free_none {s : ArS} (hF : Fits s) (h : ∀ r, s.S r = false) : freeTo s s.P = s.P := freeTo_all fun p hp => by
  by_cases e : s.cls p = -1
  · exact e
  · obtain ⟨k, _, hk⟩ := usedIn_yes.1 (hF.used p hp e)
    rw [h] at hk; cases hk
end Go.Proofs.YtidpmplkbgllfaaGreatDoor
