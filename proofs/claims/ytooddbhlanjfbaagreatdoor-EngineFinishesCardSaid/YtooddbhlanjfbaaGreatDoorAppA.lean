/- append of a row onto a row of one's own; at this seat's numbers. -/
import Derived.Test.YtooddbhlanjfbaaGreatDoorUa
import Derived.Deep.Upon
import Derived.Test.YtooddbhlanjfbaaGreatDoorGoB
namespace Go.Proofs.YtooddbhlanjfbaaGreatDoor
open Go Go.RowKit
set_option linter.unusedSimpArgs false
set_option linter.unusedVariables false

/-- append(own, pile...). -/
theorem append_all {w : World} {vo vp : Value} {l p : List Int} (ho : RefRow w vo l) (hp : RefRow w vp p) (hl : l.length + p.length ≤ 100000) (ty : TypeId) :
    ∃ v' w', (Builtin.append_ #[33, 33] ty #[vo, vp]).run Tryz.prog w = .ok v' w' ∧ RefRow w' v' (l ++ p) ∧ Turn (fun k => vo.ownBlock = some k) w w' ∧ ∀ k, v'.ownBlock = some k → vo.ownBlock = some k ∨ w.heap.size ≤ k := by
  obtain ⟨i0, hi, hz0, hz1, hz2⟩ := info_parts infoRefT
  rcases Nat.eq_zero_or_pos p.length with h0 | h0
  · obtain rfl := List.length_eq_zero_iff.1 h0
    have hs : Src Tryz.prog i0.size 33 vp 0 [] w := by
      rcases hp.is with ⟨rfl, _⟩ | ⟨g, cap, cur, rfl, _⟩
      · exact ⟨.inl ⟨_, Tryz.underlying33⟩, fun _ => rfl, by simp [Builtin.firstCells], by simp [Builtin.firstCells], by simp, by simp⟩
      · exact Src.ofSlice w Tryz.underlying33 _ _ _ _ (by simp) (fun j u hj => by simp at hj) (fun u hu => by simp at hu)
    have hr : ∃ base n c, vo = .slice base n c ∧ n ≤ c := by
      rcases ho.is with ⟨rfl, _⟩ | ⟨g, cap, cur, rfl, _, hc, _⟩
      · exact ⟨_, _, _, rfl, Nat.le_refl _⟩
      · exact ⟨_, _, _, rfl, hc⟩
    obtain ⟨base, n, c, rfl, hc⟩ := hr
    exact ⟨_, w, run_append_nothing w _ _ ty _ i0 Tryz.underlying33 hi base n c hc vp hs, by rw [List.append_nil]; exact ho, Turn.refl _ w, fun k hk => .inl hk⟩
  · rcases hp.is with ⟨_, e⟩ | ⟨g, cap, cur, rfl, hg, hc, hm, hs, hcell⟩
    · rw [e] at h0; simp at h0
    · obtain ⟨v', w', hr, h2, h3, h4⟩ := run_append_atM (P := Tryz.prog) w 33 ty 44 i0 (.int .i64 0) 1 8 Tryz.underlying33 hi hz0 hz1 hz2 rfl vo l.length _ ho ⟨g, 0, none⟩ p.length cap (p.map fun r => Value.int .i64 r) (by simp) (fun j u hj => by
        rw [List.getElem?_map] at hj
        obtain ⟨x, hx, rfl⟩ := Option.map_eq_some_iff.1 hj
        obtain ⟨hj2, rfl⟩ := List.getElem?_eq_some_iff.1 hx
        rw [Addr.add_lit, Nat.zero_add]
        exact hcell j hj2) (fun u hu => by
        obtain ⟨x, _, rfl⟩ := List.mem_map.1 hu
        rfl) h0 (by unfold maxLen; omega) (by omega)
      refine ⟨v', w', hr, ?_, Turn.ofGrownM h3, h4⟩
      unfold RefRow
      rw [List.length_append, List.map_append]
      exact h2

/-- An append whose run is known. -/
theorem wpList_appendRun {P : Program} {ops : Array Oper} {rest : List Oper} {o : Oper} {a : Act} {Q : Exit → Act → World → Prop} {w w' : World} {r : Value} (hgd : o.guard = none) (s x : Operand) (t : TypeId)
    (ho : o.op = .call { callee := .builtin .append, args := #[s, x], argTypes := #[t, t] }) (v1 v2 : Value) (hs : a.eval s = v1) (hx : a.eval x = v2) (hr : (Builtin.append_ #[t, t] o.type #[v1, v2]).run P w = .ok r w') (h : wpList P ops Q rest (a.put o.dst r) w') : wpList P ops Q (o :: rest) a w :=
  wpList_plain hgd fun _ hK => by
    unfold Oper.wp
    simp [execOp, ho, resolve, invoke, builtin, hs, hx, hr, Result.andThen]
    exact hK _ _ h
end Go.Proofs.YtooddbhlanjfbaaGreatDoor
