/- What the laws of layer 1 share, at this seat's numbers: fit, size, sets beside each other. -/
import Derived.Test.YtbahichdoafliaaDoorBitsI
namespace Go.Proofs.YtbahichdoafliaaDoor
open Go.RowKit Go.MuLone Go.RwLone

theorem put_at (b : Nat) (lo : Option Nat) (n : Nat) (S S' : Nat → Bool) (r : Bool) (i : Nat) (w : World) (hi : i < n) (hA : SetAt w b lo n S) (hr : r = !S i) (hS : S' = fun j => S j || decide (j = i)) :
    Calls Tryd.prog 12 #[.pointer (some ⟨b, 0, none⟩), .int .i64 i] w (TurnPost b lo n r S' w) := by
  subst hr hS; exact put_yes b lo n S i w hi hA
theorem has_at (b : Nat) (lo : Option Nat) (n : Nat) (S : Nat → Bool) (r : Bool) (i : Nat) (w : World) (hi : i < n) (hA : SetAt w b lo n S) (hr : r = S i) :
    Calls Tryd.prog 14 #[.pointer (some ⟨b, 0, none⟩), .int .i64 i] w (TurnPost b lo n r S w) := by
  subst hr; exact has_yes b lo n S i w hi hA
theorem drop_at (b : Nat) (lo : Option Nat) (n : Nat) (S S' : Nat → Bool) (r : Bool) (i : Nat) (w : World) (hi : i < n) (hA : SetAt w b lo n S) (hr : r = S i) (hS : S' = fun j => S j && !decide (j = i)) :
    Calls Tryd.prog 11 #[.pointer (some ⟨b, 0, none⟩), .int .i64 i] w (TurnPost b lo n r S' w) := by
  subst hr hS; exact drop_yes b lo n S i w hi hA
theorem count_at (b : Nat) (lo : Option Nat) (n : Nat) (S : Nat → Bool) (r : Int) (w : World) (hA : SetAt w b lo n S) (hr : r = card S) :
    Calls Tryd.prog 13 #[.pointer (some ⟨b, 0, none⟩)] w (AskPost b lo n r S w) := by
  subst hr; exact count_any b lo n S w hA

/-- A set that lies from block B on. -/
def OwnSet (B b : Nat) (lo : Option Nat) : Prop := B ≤ b ∧ ∀ l, lo = some l → B ≤ l
/-- Two sets that share no block. -/
def Sep (b : Nat) (lo : Option Nat) (b2 : Nat) (lo2 : Option Nat) : Prop := b ≠ b2 ∧ (∀ l, lo = some l → l ≠ b2) ∧ (∀ l, lo2 = some l → l ≠ b) ∧ ∀ l, lo = some l → lo2 ≠ some l

theorem SetAt.lt {w : World} {b : Nat} {lo : Option Nat} {n : Nat} {S : Nat → Bool} (h : SetAt w b lo n S) : b < w.heap.size ∧ ∀ l, lo = some l → l < w.heap.size := by
  obtain ⟨_, _, h⟩ := h
  cases lo with
  | none => exact ⟨h.1.lt, fun l e => by cases e⟩
  | some l => exact ⟨h.1.lt, fun l' e => by cases e; exact h.2.2.choose_spec.1.lt⟩

/-- What a call on a set with a given answer has left, seen from a base B below which nothing may turn. -/
theorem TurnPost.open {b : Nat} {lo : Option Nat} {n : Nat} {r : Bool} {S' : Nat → Bool} {w : World} {e : Ending} {w' : World} (h : TurnPost b lo n r S' w e w') {B : Nat} (ho : OwnSet B b lo) (hB : B ≤ w.heap.size) :
    ∃ lo', e = .returned (.bool r) ∧ SetAt w' b lo' n S' ∧ OwnSet B b lo' ∧ Below B w w' ∧
      ∀ b2 lo2 n2 S2, SetAt w b2 lo2 n2 S2 → Sep b lo b2 lo2 → SetAt w' b2 lo2 n2 S2 ∧ Sep b lo' b2 lo2 := by
  obtain ⟨lo', he, hA, hlo, hT⟩ := h
  refine ⟨lo', he, hA, ⟨ho.1, fun l hl => ?_⟩, hT.below B hB (fun k hk hm => ?_), fun b2 lo2 n2 S2 h2 hs => ⟨?_, ?_⟩⟩
  · rcases hlo with e | ⟨_, l', e, hle⟩
    · exact ho.2 l (by rw [← e]; exact hl)
    · rw [e] at hl; cases hl; omega
  · rcases hm with e | e
    · have := ho.1; omega
    · have := ho.2 k e; omega
  · refine h2.turn hT (fun hm => ?_) (fun l hl hm => ?_)
    · rcases hm with e | e
      · exact hs.1 e.symm
      · exact hs.2.1 _ e rfl
    · rcases hm with e | e
      · exact hs.2.2.1 l hl e
      · exact hs.2.2.2 l e hl
  · rcases hlo with e | ⟨e0, l', e, hle⟩
    · rw [e]; exact hs
    · have hlt := h2.lt
      refine ⟨hs.1, fun l hl => ?_, hs.2.2.1, fun l hl hl2 => ?_⟩
      · rw [e] at hl; cases hl; omega
      · rw [e] at hl; cases hl; have := hlt.2 _ hl2; omega

theorem AskPost.open {b : Nat} {lo : Option Nat} {n : Nat} {r : Int} {S : Nat → Bool} {w : World} {e : Ending} {w' : World} (h : AskPost b lo n r S w e w') {B : Nat} (ho : OwnSet B b lo) (hB : B ≤ w.heap.size) :
    e = .returned (.int .i64 r) ∧ SetAt w' b lo n S ∧ Below B w w' ∧
      ∀ b2 lo2 n2 S2, SetAt w b2 lo2 n2 S2 → Sep b lo b2 lo2 → SetAt w' b2 lo2 n2 S2 := by
  obtain ⟨he, hA, hT⟩ := h
  refine ⟨he, hA, hT.below B hB (fun k hk hm => ?_), fun b2 lo2 n2 S2 h2 hs => ?_⟩
  · have := ho.1; omega
  · exact h2.turn hT (fun e => hs.1 e.symm) (fun l hl e => hs.2.2.1 l hl e)

theorem Sep.symm {b : Nat} {lo : Option Nat} {b2 : Nat} {lo2 : Option Nat} (h : Sep b lo b2 lo2) : Sep b2 lo2 b lo :=
  ⟨fun e => h.1 e.symm, h.2.2.1, h.2.1, fun l hl hl2 => h.2.2.2 l hl2 hl⟩

/-- A new set. -/
theorem new_at (n : Int) (hn : n ≤ 4096) (w : World) (m : Nat) (hm : m = n.toNat) :
    Calls Tryd.prog 9 #[.int .i64 n] w fun e w' => ∃ b, w.heap.size ≤ b ∧ e = .returned (.pointer (some ⟨b, 0, none⟩)) ∧ SetAt w' b none m (fun _ => false) ∧ Turn (fun _ => False) w w' := by
  subst hm
  refine (new_any n hn w).mono ?_
  rintro e w' ⟨b, hb, he, hB, hT⟩
  exact ⟨b, hb, he, ⟨by omega, fun i h => (by cases h), hB, fun _ => rfl⟩, hT⟩

theorem size_any (n : Int) (w : World) :
    Calls Tryd.prog 8 #[.int .i64 n] w fun e w' => ∃ m : Nat, m ≤ 300 ∧ e = .returned (.int .i64 (m : Int)) ∧ w = w' := by
  obtain ⟨r, hr, he⟩ := i64_and_mask n 255 (by decide)
  replace he : bits .and .i64 n 255 = (r : Int) := he
  by_cases h1 : n < 0
  · go_enter Tryd.func8, Tryd.ntmps8
    go_wp2
    go_ret
    exact ⟨r, by omega, rfl, rfl⟩
  · have h1' : 0 ≤ n := by omega
    by_cases h2 : 300 < n
    · go_enter Tryd.func8, Tryd.ntmps8
      go_wp2
      go_ret
      exact ⟨r, by omega, rfl, rfl⟩
    · clear he
      go_enter Tryd.func8, Tryd.ntmps8
      go_wp2
      go_ret
      exact ⟨n.toNat, by omega, ret_i64 (by omega), rfl⟩

theorem card_one (i : Nat) (hi : i < 4096) : card (fun j => decide (j = i)) = 1 := by
  have h := card_put (fun _ => false) i hi rfl
  rw [card_none _ (fun _ => rfl)] at h
  simpa using h

set_option maxRecDepth 100000 in
set_option maxHeartbeats 2000000 in
theorem fit_true (w : World) : Calls Tryd.prog 7 #[] w fun e w' => e = .returned (.bool true) ∧ Below w.heap.size w w' := by
  go_enter Tryd.func7, Tryd.ntmps7
  go_wp2_with fail
  refine (new_at 70 (by decide) _ 70 rfl).mono ?_
  rintro e w1 ⟨b, hb, rfl, hA, hT⟩
  have ho : OwnSet w.heap.size b none := ⟨hb, fun l e => by cases e⟩
  have hB := hT.below w.heap.size (Nat.le_refl _) (fun _ _ h => h)
  have hs := hB.size
  clear hT
  go_wp2_with fail
  refine (put_at b none 70 _ (fun j => decide (j = 66)) true 66 _ (by decide) hA rfl (by funext j; simp)).mono ?_
  intro e w2 hP
  obtain ⟨lo, rfl, hA2, ho2, hB2, _⟩ := hP.open ho hs
  clear hP hA ho
  replace hB := hB.trans hB2
  replace hs := hB.size
  clear hB2
  go_wp2_with fail
  refine (put_at b lo 70 _ (fun j => decide (j = 66)) false 66 _ (by decide) hA2 rfl (by funext j; by_cases e : j = 66 <;> simp [e])).mono ?_
  intro e w3 hP
  obtain ⟨lo3, rfl, hA3, ho3, hB3, _⟩ := hP.open ho2 hs
  clear hP hA2 ho2
  replace hB := hB.trans hB3
  replace hs := hB.size
  clear hB3
  go_wp2_with fail
  refine (has_at b lo3 70 _ true 66 _ (by decide) hA3 rfl).mono ?_
  intro e w4 hP
  obtain ⟨lo4, rfl, hA4, ho4, hB4, _⟩ := hP.open ho3 hs
  clear hP hA3 ho3
  replace hB := hB.trans hB4
  replace hs := hB.size
  clear hB4
  go_wp2_with fail
  refine (has_at b lo4 70 _ false 2 _ (by decide) hA4 rfl).mono ?_
  intro e w5 hP
  obtain ⟨lo5, rfl, hA5, ho5, hB5, _⟩ := hP.open ho4 hs
  clear hP hA4 ho4
  replace hB := hB.trans hB5
  replace hs := hB.size
  clear hB5
  go_wp2_with fail
  refine (count_at b lo5 70 _ 1 _ hA5 (by rw [card_one 66 (by decide)]; rfl)).mono ?_
  intro e w6 hP
  obtain ⟨rfl, hA6, hB6, _⟩ := hP.open ho5 hs
  replace hB := hB.trans hB6
  clear hP hA5 ho5 hA6 hB6 hs
  go_wp2_with fail
  go_ret
  exact ⟨rfl, hB⟩
end Go.Proofs.YtbahichdoafliaaDoor
