/- ThreadApart: three threads, and what a deed does to one; at this seat's numbers. -/
import Derived.Test.YtfipflghnhfcjaaThU
namespace Go.Proofs.Ytfipflghnhfcjaa
open Go Go.RowKit Go.Shelf
set_option linter.unusedSimpArgs false
set_option linter.unusedVariables false
attribute [local go_sem] Oper.semAt_some

/-- Three threads of three registers and three places, none of which has a block of another one. -/
structure Tri (B ta tb tc : Nat) (fa fb fc : Nat → Int) (sa sb sc : List Int) (wb wr : World) : Prop where
  ex : ∃ X Y Z : ThB, X.t = ta ∧ Y.t = tb ∧ Z.t = tc ∧ ThAt wr X 3 3 fa sa ∧ ThAt wr Y 3 3 fb sb ∧ ThAt wr Z 3 3 fc sc ∧
    (∀ k, X.has k → B ≤ k ∧ ¬ Y.has k ∧ ¬ Z.has k) ∧ (∀ k, Y.has k → B ≤ k ∧ ¬ Z.has k) ∧ (∀ k, Z.has k → B ≤ k)
  below : Below B wb wr
  base : B ≤ wb.heap.size
section
variable {B ta tb tc : Nat} {fa fb fc fa' : Nat → Int} {sa sb sc sa' : List Int} {wb wr w' : World}
theorem Tri.rot (h : Tri B ta tb tc fa fb fc sa sb sc wb wr) : Tri B tb tc ta fb fc fa sb sc sa wb wr := by
  obtain ⟨X, Y, Z, e1, e2, e3, h1, h2, h3, d1, d2, d3⟩ := h.ex
  exact ⟨⟨Y, Z, X, e2, e3, e1, h2, h3, h1, fun k hk => ⟨(d2 k hk).1, (d2 k hk).2, fun hx => (d1 k hx).2.1 hk⟩, fun k hk => ⟨d3 k hk, fun hx => (d1 k hx).2.2 hk⟩, fun k hk => (d1 k hk).1⟩, h.below, h.base⟩
theorem Tri.size (h : Tri B ta tb tc fa fb fc sa sb sc wb wr) : B ≤ wr.heap.size := Nat.le_trans h.base h.below.size
theorem Tri.ask (h : Tri B ta tb tc fa fb fc sa sb sc wb wr) (hB : Below wr.heap.size wr w') : Tri B ta tb tc fa fb fc sa sb sc wb w' := by
  obtain ⟨X, Y, Z, e1, e2, e3, h1, h2, h3, d1, d2, d3⟩ := h.ex
  exact ⟨⟨X, Y, Z, e1, e2, e3, h1.below hB, h2.below hB, h3.below hB, d1, d2, d3⟩, h.below.trans (hB.mono h.size), h.base⟩
theorem Tri.alloc (h : Tri B ta tb tc fa fb fc sa sb sc wb wr) (o : Obj) : Tri B ta tb tc fa fb fc sa sb sc wb (wr.alloc o) := h.ask ((Below.refl _ wr).alloc (Nat.le_refl _) o)
/-- What is done to the first one. -/
theorem Tri.first {P : Program} {f : FuncId} {args : Array Value} {R : Ending → Prop} (h : Tri B ta tb tc fa fb fc sa sb sc wb wr)
    (op : ∀ F : Nat → Prop, ThIn B F ta 3 3 fa sa wb wr → Calls P f args wr fun e w' => R e ∧ ThIn B F ta 3 3 fa' sa' wb w' ∧ Keep F wr w') :
    Calls P f args wr fun e w' => R e ∧ Tri B ta tb tc fa' fb fc sa' sb sc wb w' := by
  obtain ⟨X, Y, Z, e1, e2, e3, h1, h2, h3, d1, d2, d3⟩ := h.ex
  refine (op (fun k => Y.has k ∨ Z.has k) ⟨⟨X, e1, h1, fun k hk => ⟨(d1 k hk).1, fun hx => by rcases hx with hx | hx; exact (d1 k hk).2.1 hx; exact (d1 k hk).2.2 hx⟩⟩, fun k hk => by rcases hk with hk | hk; exact h2.lt k hk; exact h3.lt k hk, h.below, h.base⟩).mono ?_
  rintro e w' ⟨hR, hN, hK⟩
  obtain ⟨X', e4, h4, d4⟩ := hN.ex
  exact ⟨hR, ⟨X', Y, Z, e4, e2, e3, h4, h2.keep fun k hk => hK.block k (.inl hk), h3.keep fun k hk => hK.block k (.inr hk), fun k hk => ⟨(d4 k hk).1, fun hx => (d4 k hk).2 (.inl hx), fun hx => (d4 k hk).2 (.inr hx)⟩, d2, d3⟩, hN.below, hN.base⟩
/-- .. and a box that was laid just now stays. -/
theorem Tri.firstBox {P : Program} {f : FuncId} {args : Array Value} {R : Ending → Prop} (h : Tri B ta tb tc fa fb fc sa sb sc wb wr) (o : Obj)
    (op : ∀ F : Nat → Prop, ThIn B F ta 3 3 fa sa wb (wr.alloc o) → Calls P f args (wr.alloc o) fun e w' => R e ∧ ThIn B F ta 3 3 fa' sa' wb w' ∧ Keep F (wr.alloc o) w') :
    Calls P f args (wr.alloc o) fun e w' => R e ∧ Tri B ta tb tc fa' fb fc sa' sb sc wb w' ∧ w'.heap[wr.heap.size]? = (wr.alloc o).heap[wr.heap.size]? := by
  have hB := (Below.refl _ wr).alloc (Nat.le_refl _) o
  have h0 := h.size
  obtain ⟨X, Y, Z, e1, e2, e3, h1, h2, h3, d1, d2, d3⟩ := h.ex
  have hs : (wr.alloc o).heap.size = wr.heap.size + 1 := by simp
  refine (op (fun k => (Y.has k ∨ Z.has k) ∨ k = wr.heap.size) ⟨⟨X, e1, h1.below hB, fun k hk => ⟨(d1 k hk).1, fun hx => by
    rcases hx with (hx | hx) | hx
    · exact (d1 k hk).2.1 hx
    · exact (d1 k hk).2.2 hx
    · have := h1.lt k hk; omega⟩⟩, fun k hk => by
    rcases hk with (hk | hk) | hk
    · have := h2.lt k hk; omega
    · have := h3.lt k hk; omega
    · omega, h.below.trans (hB.mono h0), h.base⟩).mono ?_
  rintro e w' ⟨hR, hN, hK⟩
  obtain ⟨X', e4, h4, d4⟩ := hN.ex
  exact ⟨hR, ⟨⟨X', Y, Z, e4, e2, e3, h4, (h2.below hB).keep fun k hk => hK.block k (.inl (.inl hk)), (h3.below hB).keep fun k hk => hK.block k (.inl (.inr hk)), fun k hk => ⟨(d4 k hk).1, fun hx => (d4 k hk).2 (.inl (.inl hx)), fun hx => (d4 k hk).2 (.inl (.inr hx))⟩, d2, d3⟩, hN.below, hN.base⟩, hK.block _ (.inr rfl)⟩
theorem Tri.read {P : Program} {f : FuncId} {args : Array Value} {R : Ending → Prop} (h : Tri B ta tb tc fa fb fc sa sb sc wb wr)
    (op : ThIn B (fun _ => False) ta 3 3 fa sa wb wr → Calls P f args wr fun e w' => R e ∧ Below wr.heap.size wr w') :
    Calls P f args wr fun e w' => R e ∧ Tri B ta tb tc fa fb fc sa sb sc wb w' := by
  obtain ⟨X, Y, Z, e1, e2, e3, h1, h2, h3, d1, d2, d3⟩ := h.ex
  refine (op ⟨⟨X, e1, h1, fun k hk => ⟨(d1 k hk).1, fun h => h⟩⟩, fun k hk => hk.elim, h.below, h.base⟩).mono ?_
  rintro e w' ⟨hR, hB⟩
  exact ⟨hR, h.ask hB⟩
theorem tri_new (h : Below B wb wr) (hb : B ≤ wb.heap.size) {X Y Z : ThB} (h1 : ThAt wr X 3 3 fa sa) (h2 : ThAt wr Y 3 3 fb sb) (h3 : ThAt wr Z 3 3 fc sc) (n1 n2 : Nat) (hB : B ≤ n1) (hn : n1 ≤ n2) (d1 : ∀ k, X.has k → B ≤ k ∧ k < n1) (d2 : ∀ k, Y.has k → n1 ≤ k ∧ k < n2) (d3 : ∀ k, Z.has k → n2 ≤ k) : Tri B X.t Y.t Z.t fa fb fc sa sb sc wb wr :=
  ⟨⟨X, Y, Z, rfl, rfl, rfl, h1, h2, h3, fun k hk => ⟨(d1 k hk).1, fun hx => by have := d1 k hk; have := d2 k hx; omega, fun hx => by have := d1 k hk; have := d3 k hx; omega⟩, fun k hk => ⟨by have := d2 k hk; omega, fun hx => by have := d2 k hk; have := d3 k hx; omega⟩, fun k hk => by have := d3 k hk; omega⟩, h, hb⟩
end

/-- What a deed does. -/
def deedF (a b : Nat) (r : Int) (f : Nat → Int) : Nat → Int := if a = 0 ∧ b < 3 then updR f b r else f
def deedS (a : Nat) (r : Int) (st : List Int) : List Int := if a = 1 ∧ st.length < 3 then st ++ [r] else if a = 2 then st.dropLast else st
set_option maxRecDepth 100000 in
set_option maxHeartbeats 2000000 in
theorem do_any {B t : Nat} {F : Nat → Prop} {f : Nat → Int} {st : List Int} {wb wr : World} (h : ThIn B F t 3 3 f st wb wr) (kd id r : Int) (a b : Nat) (ha : a ≤ 3) (hb : b ≤ 3) (hae : bits .and .i64 kd 3 = (a : Int)) (hbe : bits .and .i64 id 3 = (b : Int)) :
    Calls Try.prog 25 #[.pointer (some ⟨t, 0, none⟩), .agg #[.int .i64 kd, .int .i64 id, .int .i64 r]] wr fun e w' =>
      e = .returned (.tuple #[]) ∧ ThIn B F t 3 3 (deedF a b r f) (deedS a r st) wb w' ∧ Keep F wr w' := by
  have hB0 := (Below.refl _ wr).alloc (Nat.le_refl _) (.cells #[.int .i64 kd, .int .i64 id, .int .i64 r] 42)
  have h2 := h.ask hB0
  have hk0 := Keep.ofBelow h hB0
  have tr : ∀ {w'}, Keep F (wr.alloc (.cells #[.int .i64 kd, .int .i64 id, .int .i64 r] 42)) w' → Keep F wr w' := fun hk => ⟨Nat.le_trans hk0.size hk.size, fun k hF => (hk.block k hF).trans (hk0.block k hF)⟩
  clear hB0
  have ca : a = 0 ∨ a = 1 ∨ a = 2 ∨ a = 3 := by omega
  rcases ca with rfl | rfl | rfl | rfl
  · have hae2 : bits .and .i64 kd 3 = 0 := hae
    clear hae
    have eS : deedS 0 r st = st := rfl
    rw [eS]
    by_cases hb3 : b < 3
    · have eF : deedF 0 b r f = updR f b r := by unfold deedF; rw [if_pos ⟨rfl, hb3⟩]
      rw [eF]
      have cS := h2.setReg b (b : Int) rfl (by omega) r
      go_enter Try.func25, Try.ntmps25
      go_wp2_with fail
      refine cS.mono ?_
      rintro e w4 ⟨rfl, h4, hk4⟩
      clear cS h2
      go_wp2_with fail
      go_end0
      exact ⟨rfl, h4, tr hk4⟩
    · have eF : deedF 0 b r f = f := by unfold deedF; rw [if_neg (fun h => hb3 h.2)]
      rw [eF]
      have cS := h2.setRegNo (b : Int) (by omega) r
      go_enter Try.func25, Try.ntmps25
      go_wp2_with fail
      refine cS.mono ?_
      rintro e w4 ⟨rfl, rfl⟩
      clear cS
      go_wp2_with fail
      go_end0
      exact ⟨rfl, h2, hk0⟩
  · have hae2 : bits .and .i64 kd 3 = 1 := hae
    clear hae
    have eF : deedF 1 b r f = f := by unfold deedF; rw [if_neg (fun h => by cases h.1)]
    rw [eF]
    by_cases hroom : st.length < 3
    · have eS : deedS 1 r st = st ++ [r] := by unfold deedS; rw [if_pos ⟨rfl, hroom⟩]
      rw [eS]
      have cS := h2.push (by omega) r
      go_enter Try.func25, Try.ntmps25
      go_wp2_with fail
      refine cS.mono ?_
      rintro e w4 ⟨rfl, h4, hk4⟩
      clear cS h2
      go_wp2_with fail
      go_end0
      exact ⟨rfl, h4, tr hk4⟩
    · have eS : deedS 1 r st = st := by unfold deedS; rw [if_neg (fun h => hroom h.2), if_neg (by decide)]
      rw [eS]
      have cS := h2.pushNo (by omega) r
      go_enter Try.func25, Try.ntmps25
      go_wp2_with fail
      refine cS.mono ?_
      rintro e w4 ⟨rfl, hB4⟩
      clear cS
      go_wp2_with fail
      go_end0
      exact ⟨rfl, h2.ask hB4, tr (Keep.ofBelow h2 hB4)⟩
  · have hae2 : bits .and .i64 kd 3 = 2 := hae
    clear hae
    have eF : deedF 2 b r f = f := by unfold deedF; rw [if_neg (fun h => by cases h.1)]
    have eS : deedS 2 r st = st.dropLast := by unfold deedS; rw [if_neg (fun h => by cases h.1), if_pos rfl]
    rw [eF, eS]
    rcases List.eq_nil_or_concat st with rfl | ⟨q, y, rfl⟩
    · have cS := h2.popNo
      go_enter Try.func25, Try.ntmps25
      go_wp2_with fail
      refine cS.mono ?_
      rintro e w4 ⟨rfl, rfl⟩
      clear cS
      go_wp2_with fail
      go_end0
      exact ⟨rfl, h2, hk0⟩
    · rw [List.concat_eq_append] at h2 ⊢
      rw [List.dropLast_concat]
      have cS := h2.pop
      go_enter Try.func25, Try.ntmps25
      go_wp2_with fail
      refine cS.mono ?_
      rintro e w4 ⟨rfl, h4, hk4⟩
      clear cS h2
      go_wp2_with fail
      go_end0
      exact ⟨rfl, h4, tr hk4⟩
  · have hae2 : bits .and .i64 kd 3 = 3 := hae
    clear hae
    have eF : deedF 3 b r f = f := by unfold deedF; rw [if_neg (fun h => by cases h.1)]
    have eS : deedS 3 r st = st := by unfold deedS; rw [if_neg (fun h => by cases h.1), if_neg (by decide)]
    rw [eF, eS]
    go_enter Try.func25, Try.ntmps25
    go_wp2_with fail
    go_end0
    exact ⟨rfl, h2, hk0⟩
end Go.Proofs.Ytfipflghnhfcjaa
