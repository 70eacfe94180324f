/- Plain: a loop whose rounds range over functions: each leaves a mark among the deferred; how such a body ends. It speaks of no program. -/
import Derived.Test.YtidpmplkbgllfaaGreatDoorUb
import Derived.Below
import Derived.TacticsIn
import Derived.RangeFuncRecord
namespace Go.Proofs.YtidpmplkbgllfaaGreatDoor
open Go Go.RowKit
variable {P : Program}

def getT (t : List Value) (i : Nat) : Value := t.getD i undef
/-- The slots a, .., a + n - 1 of T are those of u. -/
def spl (T : List Value) (u : Nat → Value) (a n : Nat) : List Value := T.take a ++ ((List.range' a n).map u ++ T.drop (a + n))

/-- A loop whose rounds may defer. -/
theorem wpIn_loop_grow {F : Fence} {n : Nat} {Q : Exit → Act → World → Prop} {c : Code} {T0 : List Value} {ds0 : List Deferred} {w : World} (fr : List Value → (Nat → Value) → List Value) (Rel : (Nat → Value) → List Deferred → World → Prop) (μ : (Nat → Value) → Nat)
    (h00 : fr T0 (getT T0) = T0) (h0 : Rel (getT T0) ds0 w)
    (round : ∀ u ds w, Rel u ds w → c.wpIn F n P (Exit.then (fun a' w' => ∃ t', a'.tmps = t'.toArray ∧ fr T0 (getT t') = t' ∧ Rel (getT t') a'.defers w' ∧ μ (getT t') < μ u) Q) ⟨(fr T0 u).toArray, ds⟩ w) :
    (Code.loop c).wpIn F n P Q ⟨T0.toArray, ds0⟩ w := by
  refine wpIn_loop (fun a w => ∃ t', a.tmps = t'.toArray ∧ fr T0 (getT t') = t' ∧ Rel (getT t') a.defers w) (fun a _ => μ (getT a.tmps.toList)) ⟨T0, rfl, h00, h0⟩ ?_
  rintro ⟨ts, ds⟩ w ⟨t', ht, hfr, hrel⟩
  simp only at ht hrel
  subst ht
  have := round (getT t') ds w hrel
  rw [hfr] at this
  refine wpIn_mono this ?_
  intro e a' w' hq
  cases e with
  | normal =>
    obtain ⟨t2, h1, h2, h3, h4⟩ := hq
    refine ⟨⟨t2, h1, h2, h3⟩, ?_⟩
    rw [h1]
    simpa using h4
  | _ => exact hq

/-- Marks of loops that are over, the newest first, all from B on and below hi. -/
def Marks (B : Nat) : Nat → List Deferred → World → Prop
  | _, [], _ => True
  | hi, d :: ds, w => ∃ D, d = { target := .collected D, args := #[] } ∧ B ≤ D ∧ D < hi ∧ w.heap[D]? = some (.deferred (some [])) ∧ Marks B D ds w
theorem Marks.mono {B : Nat} {w : World} : ∀ {ds : List Deferred} {hi hi' : Nat}, Marks B hi ds w → hi ≤ hi' → Marks B hi' ds w
  | [], _, _, _, _ => trivial
  | _ :: _, _, _, ⟨D, h1, h2, h3, h4, h5⟩, h => ⟨D, h1, h2, by omega, h4, h5⟩
theorem Marks.keep {B : Nat} {w w' : World} : ∀ {ds : List Deferred} {hi : Nat}, Marks B hi ds w → (∀ k, B ≤ k → k < hi → w.heap[k]? = some (.deferred (some [])) → w'.heap[k]? = some (.deferred (some []))) → Marks B hi ds w'
  | [], _, _, _ => trivial
  | _ :: _, _, ⟨D, h1, h2, h3, h4, h5⟩, hk => ⟨D, h1, h2, h3, hk D h2 h3 h4, h5.keep fun k a b c => hk k a (by omega) c⟩
theorem Marks.push {B D hi : Nat} {ds : List Deferred} {w : World} (h : Marks B D ds w) (hB : B ≤ D) (hD : D < hi) (hd : w.heap[D]? = some (.deferred (some []))) : Marks B hi ({ target := .collected D, args := #[] } :: ds) w := ⟨D, rfl, hB, hD, hd, h⟩

/-- Only marks from B on are turned. -/
theorem leavesP_marks {fn : Func} {tmps : Array Value} {R : Ending → World → Prop} {B : Nat} : ∀ {ds : List Deferred} {hi : Nat} {w : World}, Marks B hi ds w → hi ≤ w.heap.size →
    (∀ w', Below B w w' → (∀ k, hi ≤ k → w'.heap[k]? = w.heap[k]?) → (∀ a v, a.block < w.heap.size → w.cell? a = some v → w'.cell? a = some v) → Leaves P fn tmps R [] .returning w') → LeavesP P fn tmps R ds .returning w
  | [], hi, w, _, _, h => h w (Below.refl _ _) (fun _ _ => rfl) (fun _ _ _ h => h)
  | _ :: ds, hi, w, ⟨D, h1, h2, h3, h4, h5⟩, hs, h => by
    subst h1
    refine ⟨by simp, .inl ⟨D, _, rfl, run_takeDeferred h4, ?_⟩⟩
    refine leavesP_marks (hi := D) (w := w.putObj D (.deferred none)) (h5.keep fun k a b c => by rw [World.putObj_heap_other (by omega)]; exact c) (by simp; omega) fun w' hb hk hc => h w' ?_ ?_ ?_
    · have hb0 : Below B w (w.putObj D (.deferred none)) := ⟨rfl, rfl, rfl, by simp, fun k hk => by rw [World.putObj_heap_other (by omega)]⟩
      exact hb0.trans hb
    · intro k hk2
      rw [hk k (by omega), World.putObj_heap_other (by omega)]
    · intro a v ha hv
      have hne : a.block ≠ D := fun e => by
        unfold World.cell? at hv
        rw [e, h4] at hv
        cases hv
      exact hc a v (by simpa using ha) ((World.cell?_of_block (World.putObj_heap_other hne)).trans hv)
end Go.Proofs.YtidpmplkbgllfaaGreatDoor
