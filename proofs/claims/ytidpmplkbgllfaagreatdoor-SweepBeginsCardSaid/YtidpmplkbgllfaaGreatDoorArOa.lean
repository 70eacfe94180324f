/- ArenaEmpty, walked, at this seat's numbers. -/
import Derived.Test.YtidpmplkbgllfaaGreatDoorArN
namespace Go.Proofs.YtidpmplkbgllfaaGreatDoor
open Go Go.RowKit Go.Shelf Go.MuLone Go.RwLone
set_option linter.unusedSimpArgs false
set_option linter.unusedVariables false

/-- Between two takes that are listed. -/
def TakeRel (B : Nat) (X : ArB) (wb : World) (len : Nat) (v8 v23 : Value) (wr : World) : Prop :=
  ∃ (k : Nat) (lo : Option Nat) (s : ArS) (l : List Nat), k ≤ len ∧ v23 = .int .i64 (k : Int) ∧ l.length ≤ k ∧ s.P = 3 ∧ ListIn B (X.with lo) s v8 l wb wr ∧ Holds1 s l

theorem ListIn.alloc {B : Nat} {X : ArB} {s : ArS} {v : Value} {l : List Nat} {wb wr : World} (h : ListIn B X s v l wb wr) (o : Obj) : ListIn B X s v l wb (wr.alloc o) := ⟨h.ar.alloc o, h.refs.alloc o⟩
theorem ListIn.ask {B : Nat} {X : ArB} {s : ArS} {v : Value} {l : List Nat} {wb wr w' : World} (h : ListIn B X s v l wb wr) (hB : Below wr.heap.size wr w') : ListIn B X s v l wb w' := ⟨h.ar.ask hB, h.refs.below hB⟩
theorem ListIn.take {B : Nat} {X : ArB} {s : ArS} {v : Value} {l : List Nat} {wb wr : World} (h : ListIn B X s v l wb wr) (c : Int) : Calls Tryz.prog 14 #[.pointer (some ⟨X.a, 0, none⟩), .int .i64 c] wr fun e w' =>
    e = .returned (.tuple #[.int .i64 ((seekF s c : Nat) : Int), .bool (decide (seekF s c ≠ 0))]) ∧ ∃ lo', ListIn B (X.with lo') (s.take c) v l wb w' ∧ ArStep X wr (X.with lo') w' :=
  (h.ar.take c).mono fun _ _ ⟨he, lo', h1, h2⟩ => ⟨he, lo', ⟨h1, h.refs.step h.ar.at_ h2⟩, h2⟩
theorem ListIn.give {B : Nat} {X : ArB} {s : ArS} {v : Value} {l : List Nat} {wb wr : World} (h : ListIn B X s v l wb wr) (r : Int) : Calls Tryz.prog 56 #[.pointer (some ⟨X.a, 0, none⟩), .int .i64 r] wr fun e w' =>
    e = .returned (.bool (inS s.S r)) ∧ ∃ lo', ListIn B (X.with lo') (s.giveI r) v l wb w' ∧ ArStep X wr (X.with lo') w' :=
  (h.ar.give r).mono fun _ _ ⟨he, lo', h1, h2⟩ => ⟨he, lo', ⟨h1, h.refs.step h.ar.at_ h2⟩, h2⟩

theorem nodup_at {l : List Nat} (hn : l.Nodup) (i j : Nat) (h : i < j) (hj : j < l.length) : l[i]? ≠ l[j]? := fun e => by
  rw [List.getElem?_eq_getElem (by omega), List.getElem?_eq_getElem hj] at e
  exact List.pairwise_iff_getElem.1 hn i j (by omega) hj h (Option.some.inj e)
/-- Those of the list that have not been given yet, i gives on. -/
def Left (s : ArS) (l : List Nat) (t i : Nat) : Prop := ∀ r, s.S r = true ↔ ∃ idx, idx < l.length ∧ l[idx]? = some r ∧ ∀ j, j < i → (j + t) % l.length ≠ idx
theorem left_first {s : ArS} {l : List Nat} (t : Nat) (h : Holds1 s l) : Left s l t 0 := fun r => by
  rw [h.iff r]
  constructor
  · intro hr
    obtain ⟨idx, hi, e⟩ := List.getElem_of_mem hr
    exact ⟨idx, hi, by rw [List.getElem?_eq_getElem hi, e], fun j hj => absurd hj (by omega)⟩
  · rintro ⟨idx, hi, e, _⟩
    rw [List.getElem?_eq_getElem hi] at e
    cases e
    exact List.getElem_mem hi
theorem mod_apart {i j t L : Nat} (hj : j < i) (hi : i < L) : (j + t) % L ≠ (i + t) % L := fun e => by
  have h := Nat.sub_mod_eq_zero_of_mod_eq e.symm
  rw [show i + t - (j + t) = i - j by omega, Nat.mod_eq_of_lt (by omega)] at h
  omega
theorem left_has {s : ArS} {l : List Nat} {t i r : Nat} (h : Left s l t i) (hi : i < l.length) (hr : l[(i + t) % l.length]? = some r) : s.S r = true :=
  (h r).2 ⟨(i + t) % l.length, Nat.mod_lt _ (by omega), hr, fun j hj => mod_apart hj hi⟩
theorem left_next {s : ArS} {l : List Nat} {t i r : Nat} (h : Left s l t i) (hn : l.Nodup) (hi : i < l.length) (hr : l[(i + t) % l.length]? = some r) : Left (s.giveI (r : Int)) l t (i + 1) := fun r' => by
  have hS := left_has h hi hr
  rw [giveI_nat hS]
  show dropN s.S r r' = true ↔ _
  have e : dropN s.S r r' = true ↔ s.S r' = true ∧ r' ≠ r := by simp [dropN]
  rw [e, h r']
  constructor
  · rintro ⟨⟨idx, h1, h2, h3⟩, hne⟩
    refine ⟨idx, h1, h2, fun j hj => ?_⟩
    by_cases x : j = i
    · subst x
      intro e2
      rw [e2, h2] at hr
      cases hr
      exact hne rfl
    · exact h3 j (by omega)
  · rintro ⟨idx, h1, h2, h3⟩
    refine ⟨⟨idx, h1, h2, fun j hj => h3 j (by omega)⟩, ?_⟩
    rintro rfl
    have hlt : (i + t) % l.length < l.length := Nat.mod_lt _ (by omega)
    have := nodup_at hn
    rcases Nat.lt_trichotomy idx ((i + t) % l.length) with x | x | x
    · exact this _ _ x hlt (by rw [h2, hr])
    · exact h3 i (by omega) x.symm
    · exact this _ _ x h1 (by rw [h2, hr])
theorem left_end {s : ArS} {l : List Nat} {t : Nat} (h : Left s l t l.length) (r : Nat) : s.S r = false := by
  cases e : s.S r with
  | false => rfl
  | true =>
    obtain ⟨idx, h1, h2, h3⟩ := (h r).1 e
    exfalso
    have hL : 0 < l.length := by omega
    have ht := Nat.mod_lt t hL
    refine h3 ((idx + (l.length - t % l.length)) % l.length) (Nat.mod_lt _ hL) ?_
    rw [Nat.mod_add_mod, show idx + (l.length - t % l.length) + t = idx + (l.length - t % l.length) + (t % l.length + l.length * (t / l.length)) by rw [Nat.mod_add_div],
      show idx + (l.length - t % l.length) + (t % l.length + l.length * (t / l.length)) = idx + l.length * (1 + t / l.length) by rw [Nat.mul_add]; omega, Nat.add_mul_mod_self_left, Nat.mod_eq_of_lt h1]
theorem free_all {s : ArS} (hF : Fits s) (h : ∀ r, s.S r = false) : ∀ p, p < s.P → s.cls p = -1 := fun p hp => by
  by_cases e : s.cls p = -1
  · exact e
  · obtain ⟨k, _, hk⟩ := usedIn_yes.1 (hF.used p hp e)
    rw [h] at hk; cases hk
theorem filled_free {s : ArS} (hF : Fits s) (h : ∀ r, s.S r = false) (c : Int) (W C : Nat) : Filled c W C 0 s :=
  ⟨fun p hp => by rw [free_all hF h p hp, if_neg (by omega)], fun r => ⟨fun x => (by rw [h r] at x; cases x), fun ⟨_, _, _, x⟩ => absurd x (Nat.not_lt_zero _)⟩⟩
/-- Between two gives. -/
def GiveRel (B : Nat) (X : ArB) (wb : World) (v : Value) (l : List Nat) (t : Nat) (v43 : Value) (wr : World) : Prop :=
  ∃ (i : Nat) (lo : Option Nat) (s : ArS), i ≤ l.length ∧ v43 = .int .i64 (i : Int) ∧ s.P = 3 ∧ ListIn B (X.with lo) s v l wb wr ∧ Left s l t i
/-- Between two takes at the end. -/
def FillRel (B : Nat) (X : ArB) (wb : World) (c : Int) (W C : Nat) (v14 : Value) (wr : World) : Prop :=
  ∃ (k : Nat) (lo : Option Nat) (s : ArS), k ≤ 3 * C ∧ v14 = .int .i64 (k : Int) ∧ s.P = 3 ∧ ArIn B (X.with lo) s wb wr ∧ Filled c W C k s
end Go.Proofs.YtidpmplkbgllfaaGreatDoor
