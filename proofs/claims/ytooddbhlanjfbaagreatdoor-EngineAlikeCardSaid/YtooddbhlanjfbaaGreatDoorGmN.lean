/- A marker's small calls: Arena, Marked, Scanned, isGrey, Shade, Blacken, Regrey, Forget, Reset; at this seat's numbers. -/
import Derived.Test.YtooddbhlanjfbaaGreatDoorUg
import Derived.Test.YtooddbhlanjfbaaGreatDoorUf
namespace Go.Proofs.YtooddbhlanjfbaaGreatDoor
open Go Go.RowKit Go.Shelf
set_option linter.unusedSimpArgs false
set_option linter.unusedVariables false
attribute [local go_sem] Oper.semAt_some

def pushL (room : Int) (st : List Int) (x : Int) : List Int := if (st.length : Int) < room then st ++ [x] else st
def pushV (room : Int) (st : List Int) (ov : Bool) : Bool := if (st.length : Int) < room then ov else true
theorem GrAt.pushAny {w : World} {T : GrB} {room : Int} {st : List Int} {ov : Bool} (h : GrAt w T room st ov) (hr : room ≤ 4096) (x : Int) (t : Bool) (ht : decide ((st.length : Int) < room) = t) : Calls Tryz.prog 44 #[.pointer (some ⟨T.s, 0, none⟩), .int .i64 x] w fun e w' =>
    e = .returned (.bool t) ∧ ∃ T', GrAt w' T' room (pushL room st x) (pushV room st ov) ∧ GrStep T w T' w' := by
  subst ht
  unfold pushL pushV
  by_cases h1 : (st.length : Int) < room
  · rw [if_pos h1, if_pos h1, decide_eq_true h1]; exact h.push h1 (by omega) x
  · rw [if_neg h1, if_neg h1, decide_eq_false h1]; exact h.pushNo (by omega) x
section
variable {S S2 : Nat → Bool} {room : Int} {st : List Int} {ov : Bool} {c : Col} {x : Int}
theorem MkOk.pushed (ma : c.ma = inS S) (sc : c.sc = inS S2) (sub : ∀ y, c.sc y = true → c.ma y = true) (r1 : 1 ≤ room) (r2 : room ≤ 4096) (len : (st.length : Int) ≤ room) (grey : ∀ y, c.ma y = true → c.sc y = false → y = x ∨ y ∈ st ∨ ov = true) : MkOk S S2 room (pushL room st x) (pushV room st ov) c := by
  refine ⟨ma, sc, sub, r1, r2, ?_, fun y h1 h2 => ?_⟩
  · unfold pushL
    split
    · simp; omega
    · exact len
  · unfold pushL pushV
    by_cases hlt : (st.length : Int) < room
    · rw [if_pos hlt, if_pos hlt]
      rcases grey y h1 h2 with e | e | e
      · exact .inl (by rw [e]; simp)
      · exact .inl (List.mem_append.2 (.inl e))
      · exact .inr e
    · rw [if_neg hlt, if_neg hlt]; exact .inr rfl
theorem MkOk.room0 (h : MkOk S S2 room st ov c) {k : Nat} (hs : (∀ i, S i = true → i < k)) {y : Int} (hy : c.ma y = true) : 0 ≤ y ∧ y < k ∧ S y.toNat = true := by
  rw [h.ma] at hy
  have : 0 ≤ y ∧ S y.toNat = true := by simpa [inS] using hy
  have h2 := hs _ this.2
  exact ⟨this.1, by omega, this.2⟩
theorem Col.shade_same (h : c.ma x = true) : c.shade x = c := by
  unfold Col.shade; rw [updI_same h]
theorem Col.regrey_same (h : c.sc x = false) : c.regrey x = c := by
  unfold Col.regrey; rw [updI_same h]
end
/-- What is marked is there. -/
def InAr (s : ArS) (c : Col) : Prop := ∀ x, c.ma x = true → inS s.S x = true
/-- A marker's two sets, beside its arena: what a question needs. -/
structure MkSees (w : World) (T : MkB) (X : ArB) (s : ArS) (S S2 : Nat → Bool) (c : Col) : Prop where
  head : Blk w T.m (mkArr T X.a) 89
  s1 : SetAt w T.b T.lo T.n S
  s2 : SetAt w T.b2 T.lo2 T.n S2
  ar : ArMem w X s
  ma : c.ma = inS S
  sc : c.sc = inS S2
  sub : ∀ x, c.sc x = true → c.ma x = true
  inn : InAr s c
/-- The blocks of a marker but for its stack. -/
def MkB.sets (T : MkB) (k : Nat) : Prop := k = T.m ∨ (k = T.b ∨ T.lo = some k) ∨ (k = T.b2 ∨ T.lo2 = some k)
theorem MkB.sets_has {T : MkB} {k : Nat} (h : T.sets k) : T.has k := by
  rcases h with e | e | e
  · exact .inl e
  · exact .inr (.inl e)
  · exact .inr (.inr (.inl e))
section
variable {w wr w' : World} {T : MkB} {X : ArB} {s : ArS} {S S2 : Nat → Bool} {c : Col}
theorem MkAt.sees (h : MkAt wr T X.a c) (hA : ArMem wr X s) (hi : InAr s c) : ∃ S S2, MkSees wr T X s S S2 c := by
  obtain ⟨S, S2, room, st, ov, hM, hO⟩ := h.ex
  exact ⟨S, S2, hM.head, hM.s1, hM.s2, hA, hO.ma, hO.sc, hO.sub, hi⟩
theorem MkSees.turn {M : Nat → Prop} (h : MkSees w T X s S S2 c) (hT : Turn M w w') (hn : ∀ k, T.sets k → ¬ M k) (hX : ∀ k, X.has k → ¬ M k) : MkSees w' T X s S S2 c :=
  ⟨h.head.turn hT (hn _ (.inl rfl)), h.s1.turn hT (hn _ (.inr (.inl (.inl rfl)))) (fun l e => hn l (.inr (.inl (.inr e)))), h.s2.turn hT (hn _ (.inr (.inr (.inl rfl)))) (fun l e => hn l (.inr (.inr (.inr e)))), h.ar.turn hT hX, h.ma, h.sc, h.sub, h.inn⟩
theorem MkSees.lt (h : MkSees w T X s S S2 c) : ∀ k, T.sets k → k < w.heap.size := by
  rintro k (e | (e | e) | (e | e))
  · rw [e]; exact h.head.lt
  · rw [e]; exact h.s1.lt.1
  · exact h.s1.lt.2 k e
  · rw [e]; exact h.s2.lt.1
  · exact h.s2.lt.2 k e
theorem MkSees.below (h : MkSees w T X s S S2 c) (hB : Below w.heap.size w w') : MkSees w' T X s S S2 c :=
  h.turn (Turn.ofBelow hB) (fun k hk e => by have := h.lt k hk; omega) (fun k hk e => by have := h.ar.lt k hk; omega)
theorem MkSees.alloc (h : MkSees w T X s S S2 c) (o : Obj) : MkSees (w.alloc o) T X s S S2 c := h.below ((Below.refl _ w).alloc (Nat.le_refl _) o)
theorem MkSees.c0 (h : MkSees w T X s S S2 c) : w.cell? ⟨T.m, 0, none⟩ = some (.pointer (some ⟨X.a, 0, none⟩)) := h.head.cell 0
theorem MkSees.c1 (h : MkSees w T X s S S2 c) : w.cell? ⟨T.m, 1, none⟩ = some (.pointer (some ⟨T.b, 0, none⟩)) := h.head.cell 1
theorem MkSees.c2 (h : MkSees w T X s S S2 c) : w.cell? ⟨T.m, 2, none⟩ = some (.pointer (some ⟨T.b2, 0, none⟩)) := h.head.cell 2
theorem may_set {N : Nat} {S : Nat → Bool} {x : Int} (hS : ∀ i, S i = true → i < N) : (may N x && S x.toNat) = inS S x := by
  unfold may inS
  by_cases h0 : 0 ≤ x
  · cases h : S x.toNat with
    | true => have := hS _ h; simp [h0]; omega
    | false => simp
  · simp [h0]
theorem set_has {b N : Nat} {lo : Option Nat} (h : SetAt wr b lo N S) (x : Int) (t : Bool) (ht : inS S x = t) : Calls Tryz.prog 55 #[.pointer (some ⟨b, 0, none⟩), .int .i64 x] wr fun e w' => e = .returned (.bool t) ∧ Below wr.heap.size wr w' := by
  have := has_q b lo N S x wr h
  rwa [may_set h.2.1, ht] at this
end
theorem inS_of {w : World} {X : ArB} {s : ArS} {n : Nat} (hA : ArMem w X s) (hP : n = 32 * s.P + 1) {x : Int} (hx : inS s.S x = true) : 0 ≤ x ∧ x < n := by
  have h : 0 ≤ x ∧ s.S x.toNat = true := by simpa [inS] using hx
  have h2 := hA.set.2.1 _ h.2
  exact ⟨h.1, by omega⟩
section
variable {w wr w' : World} {T : MkB} {X : ArB} {s : ArS} {S S2 : Nat → Bool} {room : Int} {st : List Int} {ov : Bool} {c : Col}
theorem MkMem.push {xa : Nat} (h : MkMem wr T xa S S2 room st ov) (hr : room ≤ 4096) (x : Int) (t : Bool) (ht : decide ((st.length : Int) < room) = t) : Calls Tryz.prog 44 #[.pointer (some ⟨T.g.s, 0, none⟩), .int .i64 x] wr fun e w' =>
    e = .returned (.bool t) ∧ ∃ T', MkMem w' T' xa S S2 room (pushL room st x) (pushV room st ov) ∧ MkStep T wr T' w' := by
  refine (h.gr.pushAny hr x t ht).mono ?_
  rintro e w1 ⟨rfl, G, hG, hS⟩
  obtain ⟨T', _, h1, h2⟩ := h.turn3 hG hS
  exact ⟨rfl, T', h1, h2⟩
theorem MkMem.put1 {xa : Nat} (h : MkMem wr T xa S S2 room st ov) (x : Int) (h1 : 0 ≤ x) (h2 : x < T.n) (t : Bool) (ht : inS S x = !t) : Calls Tryz.prog 43 #[.pointer (some ⟨T.b, 0, none⟩), .int .i64 x] wr fun e w' =>
    e = .returned (.bool t) ∧ ∃ (S' : Nat → Bool) (T' : MkB), inS S' = updI (inS S) x true ∧ MkMem w' T' xa S' S2 room st ov ∧ MkStep T wr T' w' := by
  have h3 := put_x T.b T.lo T.n S x wr h.s1
  have e : (may T.n x && !S x.toNat) = t := by
    have hm : may T.n x = true := by simp [may]; omega
    have e2 : inS S x = S x.toNat := by simp [inS, h1]
    rw [hm, ← e2, ht]; simp
  rw [e] at h3
  refine h3.mono ?_
  intro e w1 hp
  obtain ⟨rfl, T', _, hM, hS⟩ := h.turn1 hp
  exact ⟨rfl, _, T', inS_put S h1 h2, hM, hS⟩
theorem MkMem.put2 {xa : Nat} (h : MkMem wr T xa S S2 room st ov) (x : Int) (h1 : 0 ≤ x) (h2 : x < T.n) (t : Bool) (ht : inS S2 x = !t) : Calls Tryz.prog 43 #[.pointer (some ⟨T.b2, 0, none⟩), .int .i64 x] wr fun e w' =>
    e = .returned (.bool t) ∧ ∃ (S' : Nat → Bool) (T' : MkB), inS S' = updI (inS S2) x true ∧ MkMem w' T' xa S S' room st ov ∧ MkStep T wr T' w' := by
  have h3 := put_x T.b2 T.lo2 T.n S2 x wr h.s2
  have e : (may T.n x && !S2 x.toNat) = t := by
    have hm : may T.n x = true := by simp [may]; omega
    have e2 : inS S2 x = S2 x.toNat := by simp [inS, h1]
    rw [hm, ← e2, ht]; simp
  rw [e] at h3
  refine h3.mono ?_
  intro e w1 hp
  obtain ⟨rfl, T', _, hM, hS⟩ := h.turn2 hp
  exact ⟨rfl, _, T', inS_put S2 h1 h2, hM, hS⟩
theorem MkMem.drop1 {xa : Nat} (h : MkMem wr T xa S S2 room st ov) (x : Int) (t : Bool) (ht : inS S x = t) : Calls Tryz.prog 176 #[.pointer (some ⟨T.b, 0, none⟩), .int .i64 x] wr fun e w' =>
    e = .returned (.bool t) ∧ ∃ (S' : Nat → Bool) (T' : MkB), inS S' = updI (inS S) x false ∧ MkMem w' T' xa S' S2 room st ov ∧ MkStep T wr T' w' := by
  have h3 := drop_x T.b T.lo T.n S x wr h.s1
  rw [may_set h.s1.2.1, ht] at h3
  refine h3.mono ?_
  intro e w1 hp
  obtain ⟨rfl, T', _, hM, hS⟩ := h.turn1 hp
  exact ⟨rfl, _, T', inS_drop S x, hM, hS⟩
theorem MkMem.drop2 {xa : Nat} (h : MkMem wr T xa S S2 room st ov) (x : Int) (t : Bool) (ht : inS S2 x = t) : Calls Tryz.prog 176 #[.pointer (some ⟨T.b2, 0, none⟩), .int .i64 x] wr fun e w' =>
    e = .returned (.bool t) ∧ ∃ (S' : Nat → Bool) (T' : MkB), inS S' = updI (inS S2) x false ∧ MkMem w' T' xa S S' room st ov ∧ MkStep T wr T' w' := by
  have h3 := drop_x T.b2 T.lo2 T.n S2 x wr h.s2
  rw [may_set h.s2.2.1, ht] at h3
  refine h3.mono ?_
  intro e w1 hp
  obtain ⟨rfl, T', _, hM, hS⟩ := h.turn2 hp
  exact ⟨rfl, _, T', inS_drop S2 x, hM, hS⟩
end
section
variable {w wr w' : World} {T : MkB} {X : ArB} {s : ArS} {S S2 : Nat → Bool} {room : Int} {st : List Int} {ov : Bool} {c : Col}
theorem mkMarked (h : MkSees wr T X s S S2 c) (x : Int) (t : Bool) (ht : c.ma x = t) : Calls Tryz.prog 23 #[.pointer (some ⟨T.m, 0, none⟩), .int .i64 x] wr fun e w' => e = .returned (.bool t) ∧ Below wr.heap.size wr w' := by
  have cH := set_has h.s1 x t (by rw [← h.ma]; exact ht)
  have c1 := h.c1
  cases t with
  | false =>
    clear ht
    go_enter Tryz.func23, Tryz.ntmps23
    go_wp2_with fail
    refine cH.mono ?_
    rintro e w1 ⟨rfl, hB⟩
    clear cH
    go_wp2_with fail
    go_ret
    exact ⟨rfl, hB⟩
  | true =>
    have hx := h.inn x ht
    clear ht
    go_enter Tryz.func23, Tryz.ntmps23
    go_wp2_with fail
    refine cH.mono ?_
    rintro e w1 ⟨rfl, hB⟩
    have c0 := (h.below hB).c0
    have cA := has_any (h.ar.below hB) x
    rw [hx] at cA
    clear cH
    go_wp2_with fail
    refine cA.mono ?_
    rintro e w2 ⟨rfl, hB2⟩
    clear cA
    go_wp2_with fail
    go_ret
    exact ⟨rfl, below_step hB hB2⟩
theorem mkScanned (h : MkSees wr T X s S S2 c) (x : Int) (t : Bool) (ht : c.sc x = t) : Calls Tryz.prog 29 #[.pointer (some ⟨T.m, 0, none⟩), .int .i64 x] wr fun e w' => e = .returned (.bool t) ∧ Below wr.heap.size wr w' := by
  have cH := set_has h.s2 x t (by rw [← h.sc]; exact ht)
  have c2 := h.c2
  cases t with
  | false =>
    clear ht
    go_enter Tryz.func29, Tryz.ntmps29
    go_wp2_with fail
    refine cH.mono ?_
    rintro e w1 ⟨rfl, hB⟩
    clear cH
    go_wp2_with fail
    go_ret
    exact ⟨rfl, hB⟩
  | true =>
    have hx := h.inn x (h.sub x ht)
    clear ht
    go_enter Tryz.func29, Tryz.ntmps29
    go_wp2_with fail
    refine cH.mono ?_
    rintro e w1 ⟨rfl, hB⟩
    have c0 := (h.below hB).c0
    have cA := has_any (h.ar.below hB) x
    rw [hx] at cA
    clear cH
    go_wp2_with fail
    refine cA.mono ?_
    rintro e w2 ⟨rfl, hB2⟩
    clear cA
    go_wp2_with fail
    go_ret
    exact ⟨rfl, below_step hB hB2⟩
def greyC (c : Col) (x : Int) : Bool := c.ma x && !c.sc x
theorem mkIsGrey (h : MkSees wr T X s S S2 c) (x : Int) (t : Bool) (ht : greyC c x = t) : Calls Tryz.prog 46 #[.pointer (some ⟨T.m, 0, none⟩), .int .i64 x] wr fun e w' => e = .returned (.bool t) ∧ Below wr.heap.size wr w' := by
  unfold greyC at ht
  cases hm : c.ma x with
  | false =>
    have cM := mkMarked h x false hm
    obtain rfl : t = false := by rw [hm] at ht; simpa using ht.symm
    clear ht hm
    go_enter Tryz.func46, Tryz.ntmps46
    go_wp2_with fail
    refine cM.mono ?_
    rintro e w1 ⟨rfl, hB⟩
    clear cM
    go_wp2_with fail
    go_ret
    exact ⟨rfl, hB⟩
  | true =>
    have cM := mkMarked h x true hm
    cases hs : c.sc x with
    | false =>
      obtain rfl : t = true := by rw [hm, hs] at ht; simpa using ht.symm
      clear ht hm
      go_enter Tryz.func46, Tryz.ntmps46
      go_wp2_with fail
      refine cM.mono ?_
      rintro e w1 ⟨rfl, hB⟩
      have cS := mkScanned (h.below hB) x false hs
      clear cM hs
      go_wp2_with fail
      refine cS.mono ?_
      rintro e w2 ⟨rfl, hB2⟩
      clear cS
      go_wp2_with fail
      go_ret
      exact ⟨rfl, below_step hB hB2⟩
    | true =>
      obtain rfl : t = false := by rw [hm, hs] at ht; simpa using ht.symm
      clear ht hm
      go_enter Tryz.func46, Tryz.ntmps46
      go_wp2_with fail
      refine cM.mono ?_
      rintro e w1 ⟨rfl, hB⟩
      have cS := mkScanned (h.below hB) x true hs
      clear cM hs
      go_wp2_with fail
      refine cS.mono ?_
      rintro e w2 ⟨rfl, hB2⟩
      clear cS
      go_wp2_with fail
      go_ret
      exact ⟨rfl, below_step hB hB2⟩
theorem mkArena {xa : Nat} (h : MkAt wr T xa c) : Calls Tryz.prog 57 #[.pointer (some ⟨T.m, 0, none⟩)] wr fun e w' => e = .returned (.pointer (some ⟨xa, 0, none⟩)) ∧ wr = w' := by
  obtain ⟨S, S2, room, st, ov, hM, hO⟩ := h.ex
  have c0 := hM.c0
  go_enter Tryz.func57, Tryz.ntmps57
  go_wp2_with fail
  go_ret
  exact ⟨rfl, rfl⟩
/-- What is no object's is never shaded. -/
theorem mkShadeNo (h : MkAt wr T X.a c) (hA : ArMem wr X s) (x : Int) (hx : inS s.S x = false) : Calls Tryz.prog 15 #[.pointer (some ⟨T.m, 0, none⟩), .int .i64 x] wr fun e w' => e = .returned (.bool false) ∧ Below wr.heap.size wr w' := by
  obtain ⟨S, S2, room, st, ov, hM, hO⟩ := h.ex
  have c0 := hM.c0
  have cA := has_any hA x
  rw [hx] at cA
  clear hx
  go_enter Tryz.func15, Tryz.ntmps15
  go_wp2_with fail
  refine cA.mono ?_
  rintro e w1 ⟨rfl, hB⟩
  clear cA
  go_wp2_with fail
  go_ret
  exact ⟨rfl, hB⟩
theorem mkShade (h : MkAt wr T X.a c) (hA : ArMem wr X s) (hP : T.n = 32 * s.P + 1) (x : Int) (hx : inS s.S x = true) (t : Bool) (ht : c.ma x = !t) : Calls Tryz.prog 15 #[.pointer (some ⟨T.m, 0, none⟩), .int .i64 x] wr fun e w' =>
    e = .returned (.bool t) ∧ ∃ T', MkAt w' T' X.a (c.shade x) ∧ MkStep T wr T' w' := by
  obtain ⟨S, S2, room, st, ov, hM, hO⟩ := h.ex
  have c0 := hM.c0
  have cA := has_any hA x
  rw [hx] at cA
  obtain ⟨h1, h2⟩ := inS_of hA hP hx
  have ht2 : inS S x = !t := by rw [← hO.ma]; exact ht
  cases t with
  | false =>
    have HT := Lib.hid ht
    have HT2 := Lib.hid ht2
    clear ht ht2 hx
    go_enter Tryz.func15, Tryz.ntmps15
    go_wp2_with fail
    refine cA.mono ?_
    rintro e w1 ⟨rfl, hB⟩
    have hM1 := hM.below hB
    have c1 := hM1.c1
    have cP := hM1.put1 x h1 h2 false HT2.out
    clear cA c0
    go_wp2_with fail
    refine cP.mono ?_
    rintro e w2 ⟨rfl, S', T', hS', hM2, hS⟩
    have HS := Lib.hid hS'
    clear cP hS'
    go_wp2_with fail
    go_ret
    refine ⟨rfl, T', ⟨S', S2, room, st, ov, hM2, ?_⟩, hS.below hB⟩
    have e : c.ma x = true := by simpa using HT.out
    rw [Col.shade_same e]
    exact ⟨by rw [HS.out, updI_same (by simpa using HT2.out)]; exact hO.ma, hO.sc, hO.sub, hO.r1, hO.r2, hO.len, hO.grey⟩
  | true =>
    have HT := Lib.hid ht
    have HT2 := Lib.hid ht2
    clear ht ht2 hx
    go_enter Tryz.func15, Tryz.ntmps15
    go_wp2_with fail
    refine cA.mono ?_
    rintro e w1 ⟨rfl, hB⟩
    have hM1 := hM.below hB
    have c1 := hM1.c1
    have cP := hM1.put1 x h1 h2 true HT2.out
    clear cA c0
    go_wp2_with fail
    refine cP.mono ?_
    rintro e w2 ⟨rfl, S', T', hS', hM2, hS⟩
    have HS := Lib.hid hS'
    have cU := hM2.push hO.r2 x _ rfl
    have c3 := hM2.c3
    rw [hS.m] at c3
    generalize decide ((st.length : Int) < room) = q at cU
    clear cP hS'
    go_wp2_with fail
    refine cU.mono ?_
    rintro e w3 ⟨rfl, T3, hM3, hS3⟩
    clear cU
    go_wp2_with fail
    go_ret
    refine ⟨rfl, T3, ⟨S', S2, room, _, _, hM3, ?_⟩, (hS.below hB).trans hS3⟩
    refine MkOk.pushed (by rw [HS.out, ← hO.ma]; rfl) hO.sc (fun y hy => ?_) hO.r1 hO.r2 hO.len (fun y hy hy2 => ?_)
    · show updI c.ma x true y = true
      by_cases e : y = x
      · rw [e, updI_at]
      · rw [updI_ne e]; exact hO.sub y hy
    · by_cases e : y = x
      · exact .inl e
      · have hy3 : updI c.ma x true y = true := hy
        rw [updI_ne e] at hy3
        exact .inr (hO.grey y hy3 hy2)
theorem mkBlackenNo (h : MkAt wr T X.a c) (hA : ArMem wr X s) (x : Int) (hx : inS s.S x = false) : Calls Tryz.prog 28 #[.pointer (some ⟨T.m, 0, none⟩), .int .i64 x] wr fun e w' => e = .returned (.tuple #[]) ∧ Below wr.heap.size wr w' := by
  obtain ⟨S, S2, room, st, ov, hM, hO⟩ := h.ex
  have c0 := hM.c0
  have cA := has_any hA x
  rw [hx] at cA
  clear hx
  go_enter Tryz.func28, Tryz.ntmps28
  go_wp2_with fail
  refine cA.mono ?_
  rintro e w1 ⟨rfl, hB⟩
  clear cA
  go_wp2_with fail
  refine bodyPost_ret (results_none rfl _ _ _) rfl ?_
  exact ⟨rfl, hB⟩
theorem mkBlacken (h : MkAt wr T X.a c) (hA : ArMem wr X s) (hP : T.n = 32 * s.P + 1) (x : Int) (hx : inS s.S x = true) : Calls Tryz.prog 28 #[.pointer (some ⟨T.m, 0, none⟩), .int .i64 x] wr fun e w' =>
    e = .returned (.tuple #[]) ∧ ∃ T', MkAt w' T' X.a (c.black x) ∧ MkStep T wr T' w' := by
  obtain ⟨S, S2, room, st, ov, hM, hO⟩ := h.ex
  have c0 := hM.c0
  have cA := has_any hA x
  rw [hx] at cA
  obtain ⟨h1, h2⟩ := inS_of hA hP hx
  clear hx
  go_enter Tryz.func28, Tryz.ntmps28
  go_wp2_with fail
  refine cA.mono ?_
  rintro e w1 ⟨rfl, hB⟩
  have hM1 := hM.below hB
  have c1 := hM1.c1
  have cP := hM1.put1 x h1 h2 (!inS S x) (by simp)
  generalize (!inS S x) = q1 at cP
  clear cA c0
  go_wp2_with fail
  refine cP.mono ?_
  rintro e w2 ⟨rfl, S', T', hS', hM2, hS⟩
  have HS := Lib.hid hS'
  have c2 := hM2.c2
  rw [hS.m] at c2
  have cQ := hM2.put2 x h1 (by rw [hS.n]; exact h2) (!inS S2 x) (by simp)
  generalize (!inS S2 x) = q2 at cQ
  clear cP hS' c1
  go_wp2_with fail
  refine cQ.mono ?_
  rintro e w3 ⟨rfl, S3, T3, hS3', hM3, hS3⟩
  have HS3 := Lib.hid hS3'
  clear cQ hS3' c2
  go_wp2_with fail
  refine bodyPost_end (results_none rfl _ _ _) rfl ?_
  refine ⟨rfl, T3, ⟨S', S3, room, st, ov, hM3, ?_⟩, (hS.below hB).trans hS3⟩
  refine ⟨by rw [HS.out, ← hO.ma]; rfl, by rw [HS3.out, ← hO.sc]; rfl, fun y hy => ?_, hO.r1, hO.r2, hO.len, fun y hy hy2 => ?_⟩
  · show updI c.ma x true y = true
    by_cases e : y = x
    · rw [e, updI_at]
    · have hy3 : updI c.sc x true y = true := hy
      rw [updI_ne e] at hy3 ⊢; exact hO.sub y hy3
  · have hy3 : updI c.ma x true y = true := hy
    have hy4 : updI c.sc x true y = false := hy2
    by_cases e : y = x
    · rw [e, updI_at] at hy4; cases hy4
    · rw [updI_ne e] at hy3 hy4; exact hO.grey y hy3 hy4
theorem mkRegrey (h : MkAt wr T X.a c) (hA : ArMem wr X s) (hi : InAr s c) (x : Int) (t : Bool) (ht : c.sc x = t) : Calls Tryz.prog 173 #[.pointer (some ⟨T.m, 0, none⟩), .int .i64 x] wr fun e w' =>
    e = .returned (.bool t) ∧ ∃ T', MkAt w' T' X.a (c.regrey x) ∧ MkStep T wr T' w' := by
  obtain ⟨_, _, hSees⟩ := h.sees hA hi
  have cC := mkScanned hSees x t ht
  obtain ⟨S, S2, room, st, ov, hM, hO⟩ := h.ex
  have HT := Lib.hid ht
  cases t with
  | false =>
    clear ht
    go_enter Tryz.func173, Tryz.ntmps173
    go_wp2_with fail
    refine cC.mono ?_
    rintro e w1 ⟨rfl, hB⟩
    clear cC
    go_wp2_with fail
    go_ret
    refine ⟨rfl, T, ?_, MkStep.ofBelow hB⟩
    rw [Col.regrey_same HT.out]
    exact h.below hB
  | true =>
    clear ht
    go_enter Tryz.func173, Tryz.ntmps173
    go_wp2_with fail
    refine cC.mono ?_
    rintro e w1 ⟨rfl, hB⟩
    have hM1 := hM.below hB
    have c2 := hM1.c2
    have cP := hM1.drop2 x true (by rw [← hO.sc]; exact HT.out)
    clear cC
    go_wp2_with fail
    refine cP.mono ?_
    rintro e w2 ⟨rfl, S', T', hS', hM2, hS⟩
    have HS := Lib.hid hS'
    have cU := hM2.push hO.r2 x _ rfl
    have c3 := hM2.c3
    rw [hS.m] at c3
    generalize decide ((st.length : Int) < room) = q at cU
    clear cP hS' c2
    go_wp2_with fail
    refine cU.mono ?_
    rintro e w3 ⟨rfl, T3, hM3, hS3⟩
    clear cU
    go_wp2_with fail
    go_ret
    refine ⟨rfl, T3, ⟨S, S', room, _, _, hM3, ?_⟩, (hS.below hB).trans hS3⟩
    refine MkOk.pushed hO.ma (by rw [HS.out, ← hO.sc]; rfl) (fun y hy => ?_) hO.r1 hO.r2 hO.len (fun y hy hy2 => ?_)
    · have hy3 : updI c.sc x false y = true := hy
      by_cases e : y = x
      · rw [e, updI_at] at hy3; cases hy3
      · rw [updI_ne e] at hy3; exact hO.sub y hy3
    · by_cases e : y = x
      · exact .inl e
      · have hy3 : updI c.sc x false y = false := hy2
        rw [updI_ne e] at hy3
        exact .inr (hO.grey y hy hy3)
theorem mkReset (h : MkAt wr T X.a c) : Calls Tryz.prog 31 #[.pointer (some ⟨T.m, 0, none⟩)] wr fun e w' => e = .returned (.tuple #[]) ∧ ∃ T', MkAt w' T' X.a Col.white ∧ MkStep T wr T' w' := by
  obtain ⟨S, S2, room, st, ov, hM, hO⟩ := h.ex
  have c1 := hM.c1
  have cP := (reset_any T.b T.lo T.n S wr hM.s1).mono fun e w' (hp : ResetPost T.b T.lo T.n wr e w') => (⟨hp.1, hp.2.1, hp.2.2⟩ : e = .returned (.tuple #[]) ∧ SetAt w' T.b T.lo T.n (fun _ => false) ∧ Turn (fun k => k = T.b ∨ T.lo = some k) wr w')
  go_enter Tryz.func31, Tryz.ntmps31
  go_wp2_with fail
  refine cP.mono ?_
  rintro e w2 ⟨rfl, hA, hT⟩
  obtain ⟨_, T', hg, hM2, hS⟩ := hM.turn1 (r := true) ⟨T.lo, rfl, hA, .inl rfl, hT⟩
  have c2 := hM2.c2
  rw [hS.m] at c2
  have cQ := (reset_any T'.b2 T'.lo2 T'.n S2 w2 hM2.s2).mono fun e w' (hp : ResetPost T'.b2 T'.lo2 T'.n w2 e w') => (⟨hp.1, hp.2.1, hp.2.2⟩ : e = .returned (.tuple #[]) ∧ SetAt w' T'.b2 T'.lo2 T'.n (fun _ => false) ∧ Turn (fun k => k = T'.b2 ∨ T'.lo2 = some k) w2 w')
  clear cP c1 hA hT hg
  go_wp2_with fail
  refine cQ.mono ?_
  rintro e w3 ⟨rfl, hA, hT⟩
  obtain ⟨_, T3, hg, hM3, hS3⟩ := hM2.turn2 (r := true) ⟨T'.lo2, rfl, hA, .inl rfl, hT⟩
  have c3 := hM3.c3
  rw [hS3.m, hS.m] at c3
  have cG := hM3.gr.reset
  clear cQ c2 hA hT hg
  go_wp2_with fail
  refine cG.mono ?_
  rintro e w4 ⟨rfl, G, hG, hSG⟩
  obtain ⟨T4, _, hM4, hS4⟩ := hM3.turn3 hG hSG
  clear cG c3
  go_wp2_with fail
  refine bodyPost_end (results_none rfl _ _ _) rfl ?_
  have hw : (fun _ => false : Int → Bool) = inS (fun _ => false) := by funext y; simp [inS]
  exact ⟨rfl, T4, ⟨_, _, room, [], false, hM4, hw, hw, fun y hy => (by cases hy), hO.r1, hO.r2, by have := hO.r1; simp; omega, fun y hy => (by cases hy)⟩, (hS.trans hS3).trans hS4⟩
end
end Go.Proofs.YtooddbhlanjfbaaGreatDoor
