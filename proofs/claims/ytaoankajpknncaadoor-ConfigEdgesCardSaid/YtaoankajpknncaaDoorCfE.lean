/- A row of configurations that grows; All's list; at this seat's numbers. -/
import Derived.Test.YtaoankajpknncaaDoorCfD
import Derived.Test.YtaoankajpknncaaDoorApp
namespace Go.Proofs.YtaoankajpknncaaDoor
open Go Go.RowKit
set_option linter.unusedSimpArgs false
set_option linter.unusedVariables false
attribute [local go_sem] Oper.semAt_some

theorem blk_typesC {w : World} {b : Nat} {cs cs' : Array Value} {X X' : TypeId} (h : Blk w b cs X) (h' : Blk w b cs' X') (hne : X ≠ X') : False := by
  unfold Blk at h h'
  rw [h] at h'
  cases h'
  exact hne rfl
theorem own_sliceC {g n cap k : Nat} (h : (Value.slice (some ⟨g, 0, none⟩) n cap).ownBlock = some k) : g = k := by simpa [Value.ownBlock] using h

def cellsL (L : List Cfg) : List Value := L.flatMap Cfg.cells
theorem cellsL_length (L : List Cfg) : (cellsL L).length = L.length * 11 := by
  induction L with
  | nil => rfl
  | cons c L ih =>
    show (c.cells ++ cellsL L).length = _
    rw [List.length_append, ih, Cfg.cells_length, List.length_cons]
    omega
theorem cellsL_append (L M : List Cfg) : cellsL (L ++ M) = cellsL L ++ cellsL M := by simp [cellsL]
theorem cellsL_at {L : List Cfg} : ∀ {i : Nat} {c : Cfg}, L[i]? = some c → ∀ {j : Nat}, j < 11 → (cellsL L)[i * 11 + j]? = c.cells[j]? := by
  induction L with
  | nil => intro i c h; simp at h
  | cons d L ih =>
    intro i c h j hj
    show (d.cells ++ cellsL L)[i * 11 + j]? = _
    cases i with
    | zero =>
      simp at h
      subst h
      rw [Nat.zero_mul, Nat.zero_add, List.getElem?_append_left (by rw [Cfg.cells_length]; exact hj)]
    | succ i =>
      simp at h
      rw [List.getElem?_append_right (by rw [Cfg.cells_length]; omega), Cfg.cells_length, show (i + 1) * 11 + j - 11 = i * 11 + j by omega]
      exact ih h hj

def CfgRow (w : World) (v : Value) (L : List Cfg) : Prop := w.ownsRow 0 23 11 v L.length (cellsL L)
theorem CfgRow.is {w : World} {v : Value} {L : List Cfg} (h : CfgRow w v L) : (v = .slice none 0 0 ∧ L = []) ∨ ∃ g cap cur, v = .slice (some ⟨g, 0, none⟩) L.length cap ∧ Blk w g cur 23 ∧ L.length ≤ cap ∧ cap ≤ 9223372036854775807 ∧
    ∀ (i : Nat) (c : Cfg), L[i]? = some c → ∀ (j : Nat), j < 11 → w.cell? ⟨g, i * 11 + j, none⟩ = c.cells[j]? := by
  have h0 := h
  rcases h.2 with ⟨h1, h2⟩ | ⟨g, cap, cur, rfl, _, hg, hn, hm, hs, ht⟩
  · exact .inl ⟨h1, List.length_eq_zero_iff.1 h2⟩
  · refine .inr ⟨g, cap, cur, rfl, hg, hn, hm, fun i c hi j hj => ?_⟩
    have e := cellsL_at hi hj
    have hlt : j < c.cells.length := by rw [Cfg.cells_length]; exact hj
    rw [List.getElem?_eq_getElem hlt] at e ⊢
    have hc := World.ownsRow.cells h0 (g := g) rfl (i * 11 + j) _ e
    rw [Addr.add_lit, Nat.zero_add] at hc
    exact hc
theorem CfgRow.own {w : World} {v : Value} {L : List Cfg} (h : CfgRow w v L) {k : Nat} (hk : v.ownBlock = some k) : ∃ cur, Blk w k cur 23 := by
  rcases h.is with ⟨rfl, _⟩ | ⟨g, cap, cur, rfl, hg, _⟩
  · cases hk
  · have : g = k := own_sliceC hk
    subst this
    exact ⟨cur, hg⟩
theorem CfgRow.lt {w : World} {v : Value} {L : List Cfg} (h : CfgRow w v L) {k : Nat} (hk : v.ownBlock = some k) : k < w.heap.size := by
  obtain ⟨_, hb⟩ := h.own hk
  exact hb.lt
theorem CfgRow.turn {M : Nat → Prop} {w w' : World} {v : Value} {L : List Cfg} (h : CfgRow w v L) (hT : Turn M w w') (hn : ∀ k, v.ownBlock = some k → ¬ M k) : CfgRow w' v L := by
  refine ⟨h.1, ?_⟩
  rcases h.2 with h1 | ⟨g, cap, cur, rfl, hb, hg, rest⟩
  · exact .inl h1
  · exact .inr ⟨g, cap, cur, rfl, hb, (hT.block g (Array.getElem?_eq_some_iff.1 hg).1 (hn g rfl)).trans hg, rest⟩
theorem CfgRow.nil (w : World) : CfgRow w (.slice none 0 0) [] := ⟨rfl, .inl ⟨rfl, rfl⟩⟩
theorem CfgRow.lenRun {w : World} {v : Value} {L : List Cfg} (h : CfgRow w v L) (ty : TypeId) (W : World) : (Builtin.len_ #[41] ty #[v]).run Tryd.prog W = .ok (.int .i64 (L.length : Int)) W := by
  rcases h.is with ⟨rfl, rfl⟩ | ⟨g, cap, cur, rfl, _⟩
  · kernel_rfl
  · simp [go_sem, Builtin.len_]

theorem infoCfg : (Tryd.prog.info? 23).map (fun i => (i.zero, i.size, i.bytes)) = some (some (.agg #[.int .i64 0, .bool false, .int .i64 0, .int .i64 0, .int .i64 0, .int .i64 0, .int .i64 0, .int .i64 0, .int .i64 0, .int .i64 0, .int .i64 0]), 11, 88) := by kernel_rfl
theorem wpList_pushC {ops : Array Oper} {rest : List Oper} {o : Oper} {a : Act} {Q : Exit → Act → World → Prop} {v : Value} {L : List Cfg} {w : World} (hgd : o.guard = none) (s x : Operand)
    (ho : o.op = .call { callee := .builtin .append, args := #[s, x], argTypes := #[41, 41] }) (h : CfgRow w v L) (hl : L.length ≤ 100000) (vb cp : Nat) (c : Cfg) (hvb : Blk w vb c.arr 23)
    (hs : a.eval s = v) (hx : a.eval x = .slice (some ⟨vb, 0, none⟩) 1 cp) (hK : ∀ g n cap w', CfgRow w' (.slice (some ⟨g, 0, none⟩) n cap) (L ++ [c]) → Turn (fun k => v.ownBlock = some k) w w' → (v.ownBlock = some g ∨ w.heap.size ≤ g) → wpList Tryd.prog ops Q rest (a.put o.dst (.slice (some ⟨g, 0, none⟩) n cap)) w') : wpList Tryd.prog ops Q (o :: rest) a w := by
  obtain ⟨i0, hi, hz0, hz1, hz2⟩ := info_parts infoCfg
  refine wpList_append_atM w hgd s x 41 ho 23 i0 _ 11 88 Tryd.underlying41 hi hz0 hz1 hz2 rfl v L.length _ hs h ⟨vb, 0, none⟩ 1 cp c.cells hx rfl (fun j u hj => by
    rw [Addr.add_lit, Nat.zero_add, hvb.cell j]
    show (c.cells.toArray)[j]? = some u
    rw [List.getElem?_toArray]
    exact hj) (fun u hu => by
      simp [Cfg.cells] at hu
      rcases hu with rfl | rfl | rfl | rfl | rfl | rfl | rfl | rfl | rfl | rfl | rfl <;> rfl) (by decide) (by unfold maxLen; omega) (by omega) fun v' w' h2 h3 h4 => ?_
  have hR : CfgRow w' v' (L ++ [c]) := by
    unfold CfgRow
    rw [List.length_append, cellsL_append]
    have : cellsL [c] = c.cells := by simp [cellsL]
    rw [this]
    exact h2
  rcases hR.is with ⟨_, e⟩ | ⟨g, cap, cur, rfl, _⟩
  · simp at e
  · exact hK g _ cap w' hR (Turn.ofGrownM h3) (h4 g rfl)

/-- What All tells. -/
def allC (c : Cfg) : Nat → List Cfg
  | 0 => []
  | n + 1 => allC c n ++ if (c.at ((n / 2 : Nat) : Int) (n % 2 == 1)).may then [c.at ((n / 2 : Nat) : Int) (n % 2 == 1)] else []
theorem allC_le (c : Cfg) : ∀ n, (allC c n).length ≤ n
  | 0 => Nat.le_refl _
  | n + 1 => by
    unfold allC
    have := allC_le c n
    split <;> simp <;> omega
theorem allC_at (c : Cfg) (e : Int) (k : Bool) : ∀ n, allC (c.at e k) n = allC c n
  | 0 => rfl
  | n + 1 => by
    unfold allC
    rw [allC_at c e k n]
    rfl
end Go.Proofs.YtaoankajpknncaaDoor
