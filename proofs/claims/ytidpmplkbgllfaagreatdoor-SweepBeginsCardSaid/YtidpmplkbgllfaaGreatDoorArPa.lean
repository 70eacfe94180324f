/- ArenaAgain, walked, at this seat's numbers. -/
import Derived.Test.YtidpmplkbgllfaaGreatDoorArOa
import Derived.OwnWalkIn
namespace Go.Proofs.YtidpmplkbgllfaaGreatDoor
open Go Go.RowKit Go.Shelf Go.MuLone Go.RwLone
set_option linter.unusedSimpArgs false
set_option linter.unusedVariables false
attribute [local go_sem] Oper.semAt_some

/-- An append inside the fence. -/
theorem wpListIn_push {F : Fence} {n : Nat} {ops : Array Oper} {rest : List Oper} {o : Oper} {a : Act} {Q : Exit → Act → World → Prop} {B : Nat} {X : ArB} {st : ArS} {v : Value} {l : List Nat} {wb w : World} (hgd : o.guard = none) (s x : Operand)
    (ho : o.op = .call { callee := .builtin .append, args := #[s, x], argTypes := #[28, 28] }) (h : ListIn B X st v l wb w) (hl : l.length ≤ 100000) (ad c r : Nat) (hr : w.cell? ⟨ad, 0, none⟩ = some (.int .i64 (r : Int)))
    (hs : a.eval s = v) (hx : a.eval x = .slice (some ⟨ad, 0, none⟩) 1 c) (hK : ∀ v' w', ListIn B X st v' (l ++ [r]) wb w' → Turn (fun k => v.ownBlock = some k) w w' → wpListIn F n Tryz.prog ops Q rest (a.put o.dst v') w') : wpListIn F n Tryz.prog ops Q (o :: rest) a w := by
  obtain ⟨i0, hi, hz0, hz1, hz2⟩ := info_parts infoRef
  refine wpListIn_append_own w hgd s x 28 ho B 41 i0 (.int .i64 0) 1 8 Tryz.underlying28 hi hz0 hz1 hz2 rfl (by decide) v l.length (refVals l) hs h.refs ⟨ad, 0, none⟩ 1 c [.int .i64 (r : Int)] hx rfl (fun j u hj => by
    match j, hj with
    | 0, hj => simp at hj; subst hj; simpa [Addr.add] using hr) (fun u hu => by simp at hu; subst hu; rfl) (by unfold maxLen; omega) (by omega) h.ar.size fun v' w' h2 h3 _ => ?_
  have hT : Turn (fun k => v.ownBlock = some k) w w' := ⟨h3.os, h3.tape, h3.output, h3.size, fun k hk hn => h3.block k hk (fun e => hn e.symm)⟩
  refine hK v' w' ⟨h.ar.turned hT (fun k hk e => ?_) (fun k hk e => ?_), ?_⟩ hT
  · obtain ⟨_, cur, hb⟩ := h.refs.own e
    exact h.ar.at_.far hb (by decide) (by decide) (by decide) (by decide) hk
  · have := (h.refs.own e).1; omega
  · unfold RefsIn
    rw [List.length_append]
    have e : refVals (l ++ [r]) = refVals l ++ [.int .i64 (r : Int)] := by simp [refVals]
    rw [e]; exact h2

/-- How many cells of a page are taken. -/
def matesOf (S : Nat → Bool) (p : Nat) : Nat := (elems (inPage S p) 32).length
theorem elems_sub {T T' : Nat → Bool} {o : Nat} (h : T o = true) (hT' : ∀ j, T' j = (T j && !decide (j = o))) : ∀ n, o < n → (elems T n).length = (elems T' n).length + 1
  | 0, hn => absurd hn (by omega)
  | n + 1, hn => by
    by_cases e : o = n
    · subst e
      rw [elems_yes h, elems_no (T := T') (by rw [hT']; simp)]
      have : ∀ m, m ≤ o → elems T m = elems T' m := fun m => by
        induction m with
        | zero => intro _; rfl
        | succ m ih =>
          intro hm
          have hne : ¬ m = o := by omega
          cases hx : T m with
          | true => rw [elems_yes hx, elems_yes (T := T') (by rw [hT', hx]; simp [hne]), ih (by omega)]
          | false => rw [elems_no hx, elems_no (T := T') (by rw [hT', hx]; rfl), ih (by omega)]
      rw [this o (Nat.le_refl _)]; simp
    · have ih := elems_sub h hT' n (by omega)
      have hne : ¬ n = o := fun x => e x.symm
      cases hx : T n with
      | true => rw [elems_yes hx, elems_yes (T := T') (by rw [hT', hx]; simp [hne])]; simp; omega
      | false => rw [elems_no hx, elems_no (T := T') (by rw [hT', hx]; rfl)]; exact ih
theorem mates_drop {S : Nat → Bool} {r : Nat} (h1 : 1 ≤ r) (h : S r = true) : matesOf S (pg r) = matesOf (dropN S r) (pg r) + 1 := by
  have e : 32 * pg r + (r - 1) % 32 + 1 = r := by unfold pg; omega
  refine elems_sub (o := (r - 1) % 32) (by show S _ = true; rw [e]; exact h) (fun j => ?_) 32 (by omega)
  show dropN S r _ = (S _ && !decide _)
  unfold dropN
  congr 2
  rw [decide_eq_decide]
  constructor
  · intro x; omega
  · intro x; subst x; exact e
theorem mates_used {S : Nat → Bool} {p : Nat} : usedIn S p = decide (matesOf S p ≠ 0) := by
  cases hU : usedIn S p with
  | true =>
    have := (used_elems S p).1 hU
    symm; rw [decide_eq_true_eq]
    unfold matesOf
    intro e
    exact this (List.eq_nil_of_length_eq_zero e)
  | false =>
    symm; rw [decide_eq_false_iff_not]
    intro e
    have : usedIn S p = true := (used_elems S p).2 (fun x => e (by unfold matesOf; rw [x]; rfl))
    rw [hU] at this; cases this
theorem mates_le (S : Nat → Bool) (p : Nat) : matesOf S p ≤ 32 := elems_length _ 32

/-- Behind a give of a cell that had mates, its class takes it, or a lesser one, of its page's kind. -/
theorem again_take {s : ArS} (hF : Fits s) {r : Nat} (hr : s.S r = true) (hm : matesOf s.S (pg r) ≠ 1) :
    seekF (s.giveI (r : Int)) (s.cls (pg r)) ≠ 0 ∧ seekF (s.giveI (r : Int)) (s.cls (pg r)) ≤ r := by
  obtain ⟨a1, a2, a3, a4⟩ := hF.at_ r hr
  have hu : usedIn (dropN s.S r) (pg r) = true := by
    rw [mates_used, decide_eq_true_eq]
    have := mates_drop a1 hr
    omega
  rw [giveI_nat hr]
  have hg : giveCls s r = s.cls := by unfold giveCls; rw [if_pos hu]
  rw [hg]
  have hfree : free1 { s with cls := s.cls, S := dropN s.S r } (s.cls (pg r)) r = true := free1_mk a1 a2 rfl a4 (by show dropN s.S r r = false; simp [dropN])
  rcases seekF_cases { s with cls := s.cls, S := dropN s.S r } (s.cls (pg r)) with ⟨h0, _⟩ | ⟨_, ⟨h1, h2⟩ | ⟨h1, _⟩⟩
  · rw [a3] at h0; cases h0
  · refine ⟨by have := (free1_open h1).1; omega, ?_⟩
    by_cases x : seekF { s with cls := s.cls, S := dropN s.S r } (s.cls (pg r)) ≤ r
    · exact x
    · rw [h2 r (by omega)] at hfree; cases hfree
  · rw [h1 r] at hfree; cases hfree
theorem again_lone {s : ArS} {r : Nat} (h1 : 1 ≤ r) (hr : s.S r = true) (hm : matesOf s.S (pg r) = 1) : (s.giveI (r : Int)).cls (pg r) = -1 := by
  have hu : usedIn (dropN s.S r) (pg r) = false := by
    rw [mates_used, decide_eq_false_iff_not]
    have := mates_drop h1 hr
    omega
  rw [giveI_nat hr]
  show giveCls s r (pg r) = -1
  unfold giveCls
  rw [if_neg (by rw [hu]; decide)]
  simp [upd]
theorem take_cls {s : ArS} {c : Int} (h : seekF s c ≠ 0) : (s.take c).cls (pg (seekF s c)) = c := by
  rw [take_some h]
  show upd s.cls _ c _ = c
  simp [upd]
theorem clsI_pg {s : ArS} {r : Nat} (h1 : 1 ≤ r) (h2 : r ≤ 32 * s.P) : clsI s ((pg r : Nat) : Int) = s.cls (pg r) := by
  unfold clsI
  rw [if_pos (by unfold pg; omega)]; rfl
theorem giveI_P (s : ArS) (r : Int) : (s.giveI r).P = s.P := by unfold ArS.giveI; split; rw [give_P]; rfl

theorem ArIn.far {B : Nat} {X : ArB} {s : ArS} {wb wr w' : World} {row : Option Nat} (h : ArIn B X s wb wr) (hg : wr.grownBy w' row) (hr : ∀ r, row = some r → B ≤ r ∧ ∃ o : Obj, wr.heap[r]? = some o ∧ o.isCells = false) : ArIn B X s wb w' :=
  h.turned (M := fun k => row = some k) ⟨hg.os, hg.tape, hg.output, hg.size, fun k hk hn => hg.block k hk (fun e => hn e.symm)⟩
    (fun k hk e => by obtain ⟨_, o, ho, hc⟩ := hr k e; exact h.at_.farObj ho hc hk) (fun k hk e => by have := (hr k e).1; omega)
/-- A call on an arena keeps what collects the deferred. -/
theorem keep_deferred {X X' : ArB} {s : ArS} {w w' : World} {D : Nat} (hA : ArAt w X s) (hS : ArStep X w X' w') (hK : w.heap[D]? = some (.deferred (some []))) : w'.heap[D]? = some (.deferred (some [])) :=
  (hS.keep (Array.getElem?_eq_some_iff.mp hK).1 (hA.farObj hK rfl)).1.trans hK
end Go.Proofs.YtidpmplkbgllfaaGreatDoor
