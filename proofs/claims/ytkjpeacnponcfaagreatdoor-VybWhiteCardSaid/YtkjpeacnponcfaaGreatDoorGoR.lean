/- Plain: what some references lead to, found by a pile. It speaks of no program. -/
import Derived.Test.YtkjpeacnponcfaaGreatDoorUa
namespace Go.Proofs.YtkjpeacnponcfaaGreatDoor
set_option linter.unusedSimpArgs false
set_option linter.unusedVariables false

/-- x is led to. -/
inductive Rch (fr : List Int) (adj : Int → List Int) : Int → Prop
  | root {x : Int} : x ∈ fr → x ≠ 0 → Rch fr adj x
  | step {x y : Int} : Rch fr adj x → y ∈ adj x → y ≠ 0 → Rch fr adj y
/-- How many are told of those of l that aren't in vis. -/
def restI (adj : Int → List Int) (vis : List Int) : List Int → Nat
  | [] => 0
  | x :: l => (if x ∈ vis then 0 else (adj x).length) + restI adj vis l
theorem restI_same (adj : Int → List Int) (vis : List Int) (x : Int) : ∀ l, x ∉ l → restI adj (x :: vis) l = restI adj vis l
  | [], _ => rfl
  | y :: l, h => by
    have hy : y ≠ x := fun e => h (by rw [e]; exact List.mem_cons_self)
    have ih := restI_same adj vis x l (fun e => h (List.mem_cons_of_mem _ e))
    unfold restI
    rw [ih]
    congr 1
    by_cases e : y ∈ vis
    · rw [if_pos e, if_pos (List.mem_cons_of_mem _ e)]
    · rw [if_neg e, if_neg (fun e2 => by rcases List.mem_cons.1 e2 with e3 | e3; exact hy e3; exact e e3)]
theorem restI_cons (adj : Int → List Int) (vis : List Int) (x : Int) (hx : x ∉ vis) : ∀ l : List Int, l.Nodup → x ∈ l → restI adj (x :: vis) l + (adj x).length = restI adj vis l
  | [], _, h => by cases h
  | y :: l, hn, h => by
    obtain ⟨h1, h2⟩ := List.nodup_cons.1 hn
    unfold restI
    by_cases e : y = x
    · subst e
      rw [if_pos List.mem_cons_self, if_neg hx, restI_same adj vis y l h1]
      omega
    · have hm : x ∈ l := by
        rcases List.mem_cons.1 h with e2 | e2
        · exact absurd e2.symm e
        · exact e2
      have ih := restI_cons adj vis x hx l h2 hm
      by_cases e3 : y ∈ vis
      · rw [if_pos e3, if_pos (List.mem_cons_of_mem _ e3)]; omega
      · rw [if_neg e3, if_neg (fun e2 => by rcases List.mem_cons.1 e2 with e4 | e4; exact e e4; exact e3 e4)]; omega
theorem restI_nil_le (adj : Int → List Int) (m : Nat) : ∀ l : List Int, (∀ x ∈ l, (adj x).length ≤ m) → restI adj [] l ≤ m * l.length
  | [], _ => by simp [restI]
  | x :: l, h => by
    have ih := restI_nil_le adj m l fun y hy => h y (List.mem_cons_of_mem _ hy)
    have := h x List.mem_cons_self
    unfold restI
    rw [if_neg (by simp), List.length_cons, Nat.mul_succ]
    omega
/-- Between two pops: what was met, and the pile. -/
structure Dfs (ns fr : List Int) (adj : Int → List Int) (vis st : List Int) (g : Nat) : Prop where
  nod : vis.Nodup
  vin : ∀ x ∈ vis, x ∈ ns ∧ x ≠ 0
  sound : ∀ x, (x ∈ vis ∨ x ∈ st) → x = 0 ∨ Rch fr adj x
  roots : ∀ x ∈ fr, x = 0 ∨ x ∈ vis ∨ x ∈ st
  closed : ∀ x ∈ vis, ∀ y ∈ adj x, y = 0 ∨ y ∈ vis ∨ y ∈ st
  inn : ∀ x ∈ st, x = 0 ∨ x ∈ ns
  num : g = st.length + restI adj vis ns
section
variable {ns fr vis q : List Int} {adj : Int → List Int} {g : Nat} {x : Int}
theorem Dfs.start (h : ∀ x ∈ fr, x = 0 ∨ x ∈ ns) : Dfs ns fr adj [] fr (fr.length + restI adj [] ns) :=
  ⟨List.nodup_nil, fun x h => (by cases h), fun x hx => by
    rcases hx with hx | hx
    · cases hx
    · by_cases e : x = 0
      · exact .inl e
      · exact .inr (.root hx e), fun x hx => .inr (.inr hx), fun x h => (by cases h), h, rfl⟩
theorem Dfs.skip (h : Dfs ns fr adj vis (q ++ [x]) g) (hx : x = 0 ∨ x ∈ vis) : ∃ g', g' < g ∧ Dfs ns fr adj vis q g' := by
  have cut : ∀ y, (y = 0 ∨ y ∈ vis ∨ y ∈ q ++ [x]) → y = 0 ∨ y ∈ vis ∨ y ∈ q := fun y hy => by
    rcases hy with e | e | e
    · exact .inl e
    · exact .inr (.inl e)
    · rcases List.mem_append.1 e with e | e
      · exact .inr (.inr e)
      · have e2 : y = x := by simpa using e
        rw [e2]
        rcases hx with e3 | e3
        · exact .inl e3
        · exact .inr (.inl e3)
  refine ⟨q.length + restI adj vis ns, by have := h.num; rw [List.length_append] at this; simp at this; omega, h.nod, h.vin, fun y hy => h.sound y ?_, fun y hy => cut y (h.roots y hy), fun y hy z hz => cut z (h.closed y hy z hz), fun y hy => h.inn y (List.mem_append.2 (.inl hy)), rfl⟩
  rcases hy with e | e
  · exact .inl e
  · exact .inr (List.mem_append.2 (.inl e))
theorem Dfs.visit (h : Dfs ns fr adj vis (q ++ [x]) g) (hn : ns.Nodup) (ha : ∀ y ∈ adj x, y = 0 ∨ y ∈ ns) (h0 : x ≠ 0) (hv : x ∉ vis) : ∃ g', g' < g ∧ Dfs ns fr adj (x :: vis) (q ++ adj x) g' := by
  have hxn : x ∈ ns := by
    rcases h.inn x (List.mem_append.2 (.inr (by simp))) with e | e
    · exact absurd e h0
    · exact e
  have hxr : Rch fr adj x := by
    rcases h.sound x (.inr (List.mem_append.2 (.inr (by simp)))) with e | e
    · exact absurd e h0
    · exact e
  have hr := restI_cons adj vis x hv ns hn hxn
  have cut : ∀ y, (y = 0 ∨ y ∈ vis ∨ y ∈ q ++ [x]) → y = 0 ∨ y ∈ x :: vis ∨ y ∈ q ++ adj x := fun y hy => by
    rcases hy with e | e | e
    · exact .inl e
    · exact .inr (.inl (List.mem_cons_of_mem _ e))
    · rcases List.mem_append.1 e with e | e
      · exact .inr (.inr (List.mem_append.2 (.inl e)))
      · have e2 : y = x := by simpa using e
        rw [e2]; exact .inr (.inl List.mem_cons_self)
  refine ⟨(q ++ adj x).length + restI adj (x :: vis) ns, by have := h.num; rw [List.length_append] at this ⊢; simp at this; omega, List.nodup_cons.2 ⟨hv, h.nod⟩, fun y hy => ?_, fun y hy => ?_, fun y hy => cut y (h.roots y hy), fun y hy z hz => ?_, fun y hy => ?_, rfl⟩
  · rcases List.mem_cons.1 hy with e | e
    · rw [e]; exact ⟨hxn, h0⟩
    · exact h.vin y e
  · rcases hy with e | e
    · rcases List.mem_cons.1 e with e | e
      · rw [e]; exact .inr hxr
      · exact h.sound y (.inl e)
    · rcases List.mem_append.1 e with e | e
      · exact h.sound y (.inr (List.mem_append.2 (.inl e)))
      · by_cases e0 : y = 0
        · exact .inl e0
        · exact .inr (.step hxr e e0)
  · rcases List.mem_cons.1 hy with e | e
    · rw [e] at hz; exact .inr (.inr (List.mem_append.2 (.inr hz)))
    · exact cut z (h.closed y e z hz)
  · rcases List.mem_append.1 hy with e | e
    · exact h.inn y (List.mem_append.2 (.inl e))
    · exact ha y e
theorem Dfs.done (h : Dfs ns fr adj vis [] g) (y : Int) : y ∈ vis ↔ Rch fr adj y := by
  constructor
  · intro hy
    rcases h.sound y (.inl hy) with e | e
    · exact absurd e (h.vin y hy).2
    · exact e
  · intro hy
    induction hy with
    | root h1 h2 =>
      rcases h.roots _ h1 with e | e | e
      · exact absurd e h2
      · exact e
      · cases e
    | step h1 h2 h3 ih =>
      rcases h.closed _ ih _ h2 with e | e | e
      · exact absurd e h3
      · exact e
      · cases e
theorem Dfs.few {st : List Int} (h : Dfs ns fr adj vis st g) : st.length ≤ g := by have := h.num; omega
theorem nodup_sub : ∀ {l m : List Int}, l.Nodup → (∀ x ∈ l, x ∈ m) → l.length ≤ m.length
  | [], m, _, _ => Nat.zero_le _
  | x :: l, m, hn, h => by
    obtain ⟨h1, h2⟩ := List.nodup_cons.1 hn
    have hx : x ∈ m := h x List.mem_cons_self
    have e : (m.erase x).length + 1 = m.length := by have := List.length_erase_of_mem hx; have := List.length_pos_of_mem hx; omega
    have := nodup_sub (m := m.erase x) h2 fun y hy => by
      have hne : y ≠ x := fun e => h1 (e ▸ hy)
      exact (List.mem_erase_of_ne hne).2 (h y (List.mem_cons_of_mem _ hy))
    rw [List.length_cons]; omega
end
end Go.Proofs.YtkjpeacnponcfaaGreatDoor
