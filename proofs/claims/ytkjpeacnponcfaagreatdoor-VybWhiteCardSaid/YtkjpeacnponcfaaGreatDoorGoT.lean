/- Reach: what some references lead to; at this seat's numbers. -/
import Derived.Test.YtkjpeacnponcfaaGreatDoorGoS
import Derived.Deep.Upon
namespace Go.Proofs.YtkjpeacnponcfaaGreatDoor
open Go Go.RowKit Go.Shelf Go.MuLone Go.RwLone
set_option linter.unusedSimpArgs false
set_option linter.unusedVariables false
attribute [local go_sem] Oper.semAt_some

/-- append of a row of the call's own onto another one. -/
theorem append_allG {w : World} {vo vp : Value} {l p : List Int} (ho : RefRow w vo l) (hp : RefRow w vp p) (hl : l.length + p.length ≤ 100000) (ty : TypeId) :
    ∃ v' w', (Builtin.append_ #[29, 29] ty #[vo, vp]).run Tryz.prog w = .ok v' w' ∧ RefRow w' v' (l ++ p) ∧ Turn (fun k => vo.ownBlock = some k) w w' ∧ ∀ k, v'.ownBlock = some k → vo.ownBlock = some k ∨ w.heap.size ≤ k := by
  obtain ⟨i0, hi, hz0, hz1, hz2⟩ := info_parts infoRefT
  rcases Nat.eq_zero_or_pos p.length with h0 | h0
  · obtain rfl := List.length_eq_zero_iff.1 h0
    have hs : Src Tryz.prog i0.size 29 vp 0 [] w := by
      rcases hp.is with ⟨rfl, _⟩ | ⟨g, cap, cur, rfl, _⟩
      · exact ⟨.inl ⟨_, Tryz.underlying29⟩, fun _ => rfl, by simp [Builtin.firstCells], by simp [Builtin.firstCells], by simp, by simp⟩
      · exact Src.ofSlice w Tryz.underlying29 _ _ _ _ (by simp) (fun j u hj => by simp at hj) (fun u hu => by simp at hu)
    have hr : ∃ base n c, vo = .slice base n c ∧ n ≤ c := by
      rcases ho.is with ⟨rfl, _⟩ | ⟨g, cap, cur, rfl, _, hc, _⟩
      · exact ⟨_, _, _, rfl, Nat.le_refl _⟩
      · exact ⟨_, _, _, rfl, hc⟩
    obtain ⟨base, n, c, rfl, hc⟩ := hr
    exact ⟨_, w, run_append_nothing w _ _ ty _ i0 Tryz.underlying29 hi base n c hc vp hs, by rw [List.append_nil]; exact ho, Turn.refl _ w, fun k hk => .inl hk⟩
  · rcases hp.is with ⟨_, e⟩ | ⟨g, cap, cur, rfl, hg, hc, hm, hs, hcell⟩
    · rw [e] at h0; simp at h0
    · obtain ⟨v', w', hr, h2, h3, h4⟩ := run_append_atM (P := Tryz.prog) w 29 ty 39 i0 (.int .i64 0) 1 8 Tryz.underlying29 hi hz0 hz1 hz2 rfl vo l.length _ ho ⟨g, 0, none⟩ p.length cap (p.map fun r => Value.int .i64 r) (by simp) (fun j u hj => by
        rw [List.getElem?_map] at hj
        obtain ⟨x, hx, rfl⟩ := Option.map_eq_some_iff.1 hj
        obtain ⟨hj2, rfl⟩ := List.getElem?_eq_some_iff.1 hx
        rw [Addr.add_lit, Nat.zero_add]
        exact hcell j hj2) (fun u hu => by
        obtain ⟨x, _, rfl⟩ := List.mem_map.1 hu
        rfl) h0 (by unfold maxLen; omega) (by omega)
      refine ⟨v', w', hr, ?_, Turn.ofGrownM h3, h4⟩
      unfold RefRow
      rw [List.length_append, List.map_append]
      exact h2
/-- An append whose run is known. -/
theorem wpList_append_runG {P : Program} (w : World) {ops : Array Oper} {rest : List Oper} {o : Oper} {a : Act} {Q : Exit → Act → World → Prop} (hgd : o.guard = none) (s x : Operand) (t : TypeId)
    (ho : o.op = .call { callee := .builtin .append, args := #[s, x], argTypes := #[t, t] }) (v1 v2 : Value) (hs : a.eval s = v1) (hx : a.eval x = v2) {r : Value} {w' : World} (hr : (Builtin.append_ #[t, t] o.type #[v1, v2]).run P w = .ok r w') (h : wpList P ops Q rest (a.put o.dst r) w') : wpList P ops Q (o :: rest) a w :=
  wpList_plain hgd fun _ hK => by
    unfold Oper.wp execOp
    simp only [ho, resolve, invoke, builtin, Sem.run_bind, Sem.run_pure, Result.andThen_ok, List.map_toArray, List.map_cons, List.map_nil, hs, hx, hr]
    exact hK _ _ h
def visF (vis : List Int) (x : Int) : Int := if x ∈ vis then 1 else 0
def visK (vis : List Int) (x : Int) : Bool := decide (x ∈ vis)
theorem visF_cons (vis : List Int) (x : Int) : updI (visF vis) x 1 = visF (x :: vis) := by
  funext y
  by_cases e : y = x
  · rw [e, updI_at]; unfold visF; rw [if_pos List.mem_cons_self]
  · rw [updI_ne e]; unfold visF
    by_cases e2 : y ∈ vis
    · rw [if_pos e2, if_pos (List.mem_cons_of_mem _ e2)]
    · rw [if_neg e2, if_neg (fun e3 => by rcases List.mem_cons.1 e3 with e4 | e4; exact e e4; exact e2 e4)]
theorem visK_cons (vis : List Int) (x : Int) : updI (visK vis) x true = visK (x :: vis) := by
  funext y
  by_cases e : y = x
  · rw [e, updI_at]; unfold visK; simp
  · rw [updI_ne e]; unfold visK; simp [e]
structure ReA (B rb : Nat) (ns fr : List Int) (adj : Int → List Int) (w : World) (vis st : List Int) (g : Nat) (v6 : Value) (wr : World) : Prop where
  dfs : Dfs ns fr adj vis st g
  below : Below B w wr
  map : MapIn wr rb vis.length (visF vis) (visK vis) vis.length
  low : B ≤ rb
  row : RefRow wr v6 st
  new : ∀ k, v6.ownBlock = some k → B ≤ k

end Go.Proofs.YtkjpeacnponcfaaGreatDoor
