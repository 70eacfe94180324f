/- A stack with bounded room: New, Len, Over, Settle, Reset, Push, Pop; at this seat's numbers. -/
import Derived.Test.YtgpeppakohnmjaaGrA
namespace Go.Proofs.Ytgpeppakohnmjaa
open Go Go.RowKit
set_option linter.unusedSimpArgs false
set_option linter.unusedVariables false
attribute [local go_sem] Oper.semAt_some

/-- A stack's blocks: itself, and the slice of its references. -/
structure GrB where
  s : Nat
  vk : Value
def GrB.has (T : GrB) (k : Nat) : Prop := k = T.s ∨ T.vk.ownBlock = some k
structure GrAt (w : World) (T : GrB) (room : Int) (st : List Int) (ov : Bool) : Prop where
  head : Blk w T.s #[.int .i64 room, T.vk, .bool ov] 39
  stk : RefRow w T.vk st
/-- What a call on a stack has turned. -/
structure GrStep (T : GrB) (w : World) (T' : GrB) (w' : World) : Prop where
  s : T'.s = T.s
  new : ∀ k, T'.has k → T.has k ∨ w.heap.size ≤ k
  turn : Turn T.has w w'
section
variable {w w' : World} {T : GrB} {room : Int} {st : List Int} {ov : Bool}
theorem GrAt.lt (h : GrAt w T room st ov) : ∀ k, T.has k → k < w.heap.size := by
  rintro k (rfl | e)
  · exact h.head.lt
  · exact h.stk.lt e
theorem GrAt.turn {M : Nat → Prop} (h : GrAt w T room st ov) (hT : Turn M w w') (hn : ∀ k, T.has k → ¬ M k) : GrAt w' T room st ov :=
  ⟨h.head.turn hT (hn _ (.inl rfl)), h.stk.turn hT (fun k e => hn k (.inr e))⟩
theorem GrAt.below (h : GrAt w T room st ov) (hB : Below w.heap.size w w') : GrAt w' T room st ov :=
  h.turn (Turn.ofBelow hB) (fun k hk e => by have := h.lt k hk; omega)
theorem GrAt.sk (h : GrAt w T room st ov) : T.vk.ownBlock ≠ some T.s := fun e => by
  obtain ⟨_, hb⟩ := h.stk.own e
  exact blkT hb h.head (by decide)
theorem GrAt.c0 (h : GrAt w T room st ov) : w.cell? ⟨T.s, 0, none⟩ = some (.int .i64 room) := h.head.cell 0
theorem GrAt.c1 (h : GrAt w T room st ov) : w.cell? ⟨T.s, 1, none⟩ = some T.vk := h.head.cell 1
theorem GrAt.c2 (h : GrAt w T room st ov) : w.cell? ⟨T.s, 2, none⟩ = some (.bool ov) := h.head.cell 2
theorem GrAt.drew (h : GrAt w T room st ov) : GrAt w.drew T room st ov := h.turn ((Turn.refl (fun _ => False) w).drew) (fun _ _ h => h)

theorem grNew (room : Int) (w : World) : Calls Try.prog 8 #[.int .i64 room] w fun e w' =>
    ∃ T, e = .returned (.pointer (some ⟨T.s, 0, none⟩)) ∧ GrAt w' T room [] false ∧ (∀ k, T.has k → w.heap.size ≤ k) ∧ Below w.heap.size w w' := by
  go_enter Try.func8, Try.ntmps8
  go_wp2_with fail
  go_ret
  refine ⟨⟨w.heap.size, .slice none 0 0⟩, rfl, ⟨Blk.new w _ _, World.ownsRow_nil _ _ _ _⟩, ?_, (Below.refl _ w).alloc (Nat.le_refl _) _⟩
  rintro k (rfl | e)
  · exact Nat.le_refl _
  · cases e
theorem GrAt.len (h : GrAt w T room st ov) : Calls Try.prog 13 #[.pointer (some ⟨T.s, 0, none⟩)] w fun e w' => e = .returned (.int .i64 (st.length : Int)) ∧ w = w' := by
  have c1 := h.c1
  have hl := h.stk.lenRun
  go_enter Try.func13, Try.ntmps13
  go_wp2_with fail
  go_ret
  exact ⟨rfl, rfl⟩
theorem GrAt.over (h : GrAt w T room st ov) : Calls Try.prog 14 #[.pointer (some ⟨T.s, 0, none⟩)] w fun e w' => e = .returned (.bool ov) ∧ w = w' := by
  have c2 := h.c2
  go_enter Try.func14, Try.ntmps14
  go_wp2_with fail
  go_ret
  exact ⟨rfl, rfl⟩
theorem GrAt.settle (h : GrAt w T room st ov) : Calls Try.prog 11 #[.pointer (some ⟨T.s, 0, none⟩)] w fun e w' => e = .returned (.tuple #[]) ∧ ∃ T', GrAt w' T' room st false ∧ GrStep T w T' w' := by
  have c2 := h.c2
  have z2 := h.head.free 2
  go_enter Try.func11, Try.ntmps11
  go_wp2_with fail
  refine bodyPost_end (results_none rfl _ _ _) rfl ?_
  have hS : Turn (fun k => k = T.s) w (w.setCell ⟨T.s, 2, none⟩ (.bool false)) := (Turn.refl _ w).set _ _ (.inr rfl)
  exact ⟨rfl, T, ⟨(h.head.setAt 2 _).is (by simp), h.stk.turn hS (fun k e e2 => h.sk (by rw [e, show k = T.s from e2]))⟩, ⟨rfl, fun k hk => .inl hk, hS.mono (fun k _ e => .inl e)⟩⟩
theorem GrAt.reset (h : GrAt w T room st ov) : Calls Try.prog 12 #[.pointer (some ⟨T.s, 0, none⟩)] w fun e w' => e = .returned (.tuple #[]) ∧ ∃ T', GrAt w' T' room [] false ∧ GrStep T w T' w' := by
  have c0 := h.c0
  have c1 := h.c1
  have c2 := h.c2
  have z0 := h.head.free 0
  have z1 := h.head.free 1
  have z2 := h.head.free 2
  go_enter Try.func12, Try.ntmps12
  go_wp2_with fail
  refine bodyPost_end (results_none rfl _ _ _) rfl ?_
  have hB1 := ((h.head.setAt 0 (.int .i64 room)).setAt 1 (.slice none 0 0)).setAt 2 (.bool false)
  have hS : Turn (fun k => k = T.s) w (((w.setCell ⟨T.s, 0, none⟩ (.int .i64 room)).setCell ⟨T.s, 1, none⟩ (.slice none 0 0)).setCell ⟨T.s, 2, none⟩ (.bool false)) := (((Turn.refl (fun k => k = T.s) w).set ⟨T.s, 0, none⟩ _ (.inr rfl)).set ⟨T.s, 1, none⟩ _ (.inr rfl)).set ⟨T.s, 2, none⟩ _ (.inr rfl)
  refine ⟨rfl, ⟨T.s, .slice none 0 0⟩, ⟨hB1.is (by simp), World.ownsRow_nil _ _ _ _⟩, ⟨rfl, ?_, hS.mono (fun k _ e => .inl e)⟩⟩
  rintro k (e | e)
  · exact .inl (.inl e)
  · cases e
theorem GrAt.pushNo (h : GrAt w T room st ov) (hr : room ≤ (st.length : Int)) (r : Int) : Calls Try.prog 9 #[.pointer (some ⟨T.s, 0, none⟩), .int .i64 r] w fun e w' =>
    e = .returned (.bool false) ∧ ∃ T', GrAt w' T' room st true ∧ GrStep T w T' w' := by
  have cD := h.drew.len
  have c0 := h.c0
  have c2 := h.drew.c2
  have z2 := h.drew.head.free 2
  go_enter Try.func9, Try.ntmps9
  go_wp2_with fail
  go_region_held3 (fun w' => w'.cell? ⟨T.s, 0, none⟩ = some (.int .i64 room)) (first | exact c0)
    (first
      | (go_at_call 13; refine cD.mono ?_; rintro e w' ⟨rfl, rfl⟩))
  go_wp2_with fail
  go_ret
  have hS : Turn (fun k => k = T.s) w (w.drew.setCell ⟨T.s, 2, none⟩ (.bool true)) := ((Turn.refl _ w).drew).set _ _ (.inr rfl)
  exact ⟨rfl, T, ⟨(h.drew.head.setAt 2 _).is (by simp), h.stk.turn hS (fun k e e2 => h.sk (by rw [e, show k = T.s from e2]))⟩, ⟨rfl, fun k hk => .inl hk, hS.mono (fun k _ e => .inl e)⟩⟩
theorem GrAt.push (h : GrAt w T room st ov) (hr : (st.length : Int) < room) (hl : st.length ≤ 100000) (r : Int) : Calls Try.prog 9 #[.pointer (some ⟨T.s, 0, none⟩), .int .i64 r] w fun e w' =>
    e = .returned (.bool true) ∧ ∃ T', GrAt w' T' room (st ++ [r]) ov ∧ GrStep T w T' w' := by
  have cD := h.drew.len
  have c0 := h.c0
  have c1 := h.drew.c1
  have h1 := h.drew.turn ((Turn.refl (fun _ => False) _).alloc (.cells #[.int .i64 r] 27)) (fun _ _ h => h)
  have hnew := (Blk.new w.drew #[.int .i64 r] 27)
  have hr2 : ¬ room ≤ (st.length : Int) := by omega
  go_enter Try.func9, Try.ntmps9
  go_wp2_with fail
  go_region_held3 (fun w' => w'.cell? ⟨T.s, 0, none⟩ = some (.int .i64 room)) (first | exact c0)
    (first
      | (go_at_call 13; refine cD.mono ?_; rintro e w' ⟨rfl, rfl⟩))
  go_wp2_with (at_builtin; refine wpList_pushT rfl _ _ rfl h1.stk hl w.heap.size 1 r (hnew.cell 0) rfl rfl ?_; intro g n cap w2 hR hT hN; have hh := h1.head.turn hT h1.sk; have d3 := hh.cell 1; have z3 := hh.free 1; simp only [List.getElem?_toArray, List.getElem?_cons_zero, List.getElem?_cons_succ] at d3)
  go_ret
  have hN2 : T.vk.ownBlock = some g ∨ w.heap.size ≤ g := by
    rcases hN with e | e
    · exact .inl e
    · exact .inr (by simp at e; omega)
  have hgt : g ≠ T.s := fun e => by
    obtain ⟨_, hb⟩ := hR.own (k := g) rfl
    rw [e] at hb
    exact blkT hb hh (by decide)
  have hS : Turn (fun k => k = T.s) w2 (w2.setCell ⟨T.s, 1, none⟩ (.slice (some ⟨g, 0, none⟩) n cap)) := (Turn.refl _ w2).set _ _ (.inr rfl)
  have hT1 : Turn T.has w w2 := by
    have hA : Turn T.has w (w.alloc (.cells #[.int .i64 r] 27)).drew := ((Turn.refl T.has w).alloc _).drew
    exact hA.trans hT (fun i hi e => .inr e)
  refine ⟨rfl, ⟨T.s, .slice (some ⟨g, 0, none⟩) n cap⟩, ⟨(hh.setAt 1 _).is (by simp), hR.turn hS (fun k e e2 => hgt ((own_slice e).trans e2))⟩, ⟨rfl, ?_, ?_⟩⟩
  · rintro k (e | e)
    · exact .inl (.inl e)
    · have e3 : g = k := by simpa [Value.ownBlock] using e
      subst e3
      rcases hN2 with e4 | e4
      · exact .inl (.inr e4)
      · exact .inr e4
  · exact hT1.set _ _ (.inr (.inl rfl))
theorem GrAt.popNo (h : GrAt w T room [] ov) : Calls Try.prog 10 #[.pointer (some ⟨T.s, 0, none⟩)] w fun e w' =>
    e = .returned (.tuple #[.int .i64 0, .bool false]) ∧ w = w' := by
  have cD := h.len
  go_enter Try.func10, Try.ntmps10
  go_wp2_with fail
  refine cD.mono ?_
  rintro e w1 ⟨rfl, rfl⟩
  clear cD
  go_wp2_with fail
  go_ret2
  exact ⟨rfl, rfl⟩
theorem GrAt.pop {r : Int} (h : GrAt w T room (st ++ [r]) ov) (hdeep : st.length ≤ 100000) : Calls Try.prog 10 #[.pointer (some ⟨T.s, 0, none⟩)] w fun e w' =>
    e = .returned (.tuple #[.int .i64 r, .bool true]) ∧ ∃ T', GrAt w' T' room st ov ∧ GrStep T w T' w' := by
  have cD := h.len
  have c1 := h.c1
  have z1 := h.head.free 1
  rcases h.stk.is with ⟨_, e⟩ | ⟨g, cap, cur, hvk, hg, hlc, hcm, hcs, hcl⟩
  · simp at e
  · have d := hcl st.length (by simp)
    rw [List.getElem_append_right (Nat.le_refl _)] at d
    simp only [Nat.sub_self, List.getElem_singleton] at d
    have e1 : (((st ++ [r]).length : Nat) : Int) = (st.length : Int) + 1 := by simp
    have hstk := h.stk
    rw [List.length_append] at hvk hlc
    simp only [List.length_singleton] at hvk hlc
    rw [e1] at cD
    rw [hvk] at c1 hstk
    have hrow := RefRow.less hstk
    have hl0 : (0 : Int) ≤ (st.length : Int) := by omega
    have hlcI : (st.length : Int) < (cap : Int) := by omega
    have HR := Lib.hid hrow
    have HK := Lib.hid hvk
    clear hrow hstk hcl hcs e1 hvk
    go_enter Try.func10, Try.ntmps10
    go_wp2_with fail
    refine cD.mono ?_
    rintro e w1 ⟨rfl, rfl⟩
    clear cD
    go_wp2_with fail
    go_ret2
    have hS : Turn (fun k => k = T.s) w (w.setCell ⟨T.s, 1, none⟩ (.slice (some ⟨g, 0, none⟩) st.length cap)) := (Turn.refl _ w).set _ _ (.inr rfl)
    have hgt : g ≠ T.s := fun e => by
      rw [e] at hg
      exact blkT hg h.head (by decide)
    have hr0 : RefRow w (.slice (some ⟨g, 0, none⟩) st.length cap) st := HR.out
    refine ⟨rfl, ⟨T.s, .slice (some ⟨g, 0, none⟩) st.length cap⟩, ⟨(h.head.setAt 1 _).is (by simp), hr0.turn hS (fun k e e2 => hgt ((own_slice e).trans e2))⟩, ⟨rfl, ?_, ?_⟩⟩
    · rintro k (e | e)
      · exact .inl (.inl e)
      · exact .inl (.inr (by rw [HK.out]; exact e))
    · exact hS.mono (fun k _ e => .inl e)
end
end Go.Proofs.Ytgpeppakohnmjaa
