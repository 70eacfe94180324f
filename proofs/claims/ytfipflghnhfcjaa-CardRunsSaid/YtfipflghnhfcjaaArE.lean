/- Take, at this seat's numbers. -/
import Derived.Test.YtfipflghnhfcjaaArD
namespace Go.Proofs.Ytfipflghnhfcjaa
open Go Go.RowKit Go.Shelf Go.MuLone Go.RwLone
set_option linter.unusedSimpArgs false
set_option linter.unusedVariables false

theorem clr_zero (f : Nat → Int) (o : Nat) : clr f o 0 = f := by funext q; simp only [clr]; rw [if_neg (by omega)]
theorem clr_upd (f : Nat → Int) (o m : Nat) : clr (upd f o 0) (o + 1) m = clr f o (m + 1) := by
  funext q
  simp only [clr, upd]
  by_cases h1 : o + 1 ≤ q ∧ q < o + 1 + m
  · rw [if_pos h1, if_pos (by omega)]
  · rw [if_neg h1]
    by_cases h2 : q = o
    · rw [if_pos h2, if_pos (by omega)]
    · rw [if_neg h2, if_neg (by omega)]
theorem Blk.zeros {b n : Nat} {T : TypeId} : ∀ (m o : Nat) (f : Nat → Int) (w : World), Blk w b (row n f) T → o + m ≤ n → Blk (w.setCells b o (List.replicate m (.int .i64 0))) b (row n (clr f o m)) T
  | 0, o, f, w, h, _ => by rw [clr_zero]; exact h
  | m + 1, o, f, w, h, hm => by
    rw [List.replicate_succ, World.setCells, ← clr_upd]
    refine Blk.zeros m (o + 1) _ _ ?_ (by omega)
    have h2 := h.setAt o (.int .i64 0)
    rw [row_set _ _ (by omega)] at h2
    exact h2
theorem Turn.setCells {M : Nat → Prop} {b : Nat} : ∀ (vs : List Value) (o : Nat) (w w' : World), Turn M w w' → M b → Turn M w (w'.setCells b o vs)
  | [], _, _, _, h, _ => h
  | v :: vs, o, w, w', h, hb => Turn.setCells vs (o + 1) w _ (h.set ⟨b, o, none⟩ v (.inr hb)) hb

theorem zero_int (w : World) : (zeroValue 3).run Try.prog w = .ok (.int .i64 0) w := by kernel_rfl

section
variable {w : World} {X : ArB} {s : ArS}

end
end Go.Proofs.Ytfipflghnhfcjaa
