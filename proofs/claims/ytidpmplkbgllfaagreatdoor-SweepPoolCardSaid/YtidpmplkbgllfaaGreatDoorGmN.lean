/- A marker's small calls: Arena, Marked, Scanned, isGrey, Shade, Blacken, Regrey, Forget, Reset; at this seat's numbers. -/
import Derived.Test.YtidpmplkbgllfaaGreatDoorUg
import Derived.Test.YtidpmplkbgllfaaGreatDoorUf
namespace Go.Proofs.YtidpmplkbgllfaaGreatDoor
open Go Go.RowKit Go.Shelf
set_option linter.unusedSimpArgs false
set_option linter.unusedVariables false
attribute [local go_sem] Oper.semAt_some

def pushL (room : Int) (st : List Int) (x : Int) : List Int := if (st.length : Int) < room then st ++ [x] else st
def pushV (room : Int) (st : List Int) (ov : Bool) : Bool := if (st.length : Int) < room then ov else true
section
variable {S S2 : Nat → Bool} {room : Int} {st : List Int} {ov : Bool} {c : Col} {x : Int}
theorem MkOk.pushed (ma : c.ma = inS S) (sc : c.sc = inS S2) (sub : ∀ y, c.sc y = true → c.ma y = true) (r1 : 1 ≤ room) (r2 : room ≤ 4096) (len : (st.length : Int) ≤ room) (grey : ∀ y, c.ma y = true → c.sc y = false → y = x ∨ y ∈ st ∨ ov = true) : MkOk S S2 room (pushL room st x) (pushV room st ov) c := by
  refine ⟨ma, sc, sub, r1, r2, ?_, fun y h1 h2 => ?_⟩
  · unfold pushL
    split
    · simp; omega
    · exact len
  · unfold pushL pushV
    by_cases hlt : (st.length : Int) < room
    · rw [if_pos hlt, if_pos hlt]
      rcases grey y h1 h2 with e | e | e
      · exact .inl (by rw [e]; simp)
      · exact .inl (List.mem_append.2 (.inl e))
      · exact .inr e
    · rw [if_neg hlt, if_neg hlt]; exact .inr rfl
theorem MkOk.room0 (h : MkOk S S2 room st ov c) {k : Nat} (hs : (∀ i, S i = true → i < k)) {y : Int} (hy : c.ma y = true) : 0 ≤ y ∧ y < k ∧ S y.toNat = true := by
  rw [h.ma] at hy
  have : 0 ≤ y ∧ S y.toNat = true := by simpa [inS] using hy
  have h2 := hs _ this.2
  exact ⟨this.1, by omega, this.2⟩
theorem Col.shade_same (h : c.ma x = true) : c.shade x = c := by
  unfold Col.shade; rw [updI_same h]
theorem Col.regrey_same (h : c.sc x = false) : c.regrey x = c := by
  unfold Col.regrey; rw [updI_same h]
end
/-- What is marked is there. -/
def InAr (s : ArS) (c : Col) : Prop := ∀ x, c.ma x = true → inS s.S x = true
/-- A marker's two sets, beside its arena: what a question needs. -/
structure MkSees (w : World) (T : MkB) (X : ArB) (s : ArS) (S S2 : Nat → Bool) (c : Col) : Prop where
  head : Blk w T.m (mkArr T X.a) 68
  s1 : SetAt w T.b T.lo T.n S
  s2 : SetAt w T.b2 T.lo2 T.n S2
  ar : ArMem w X s
  ma : c.ma = inS S
  sc : c.sc = inS S2
  sub : ∀ x, c.sc x = true → c.ma x = true
  inn : InAr s c
/-- The blocks of a marker but for its stack. -/
def MkB.sets (T : MkB) (k : Nat) : Prop := k = T.m ∨ (k = T.b ∨ T.lo = some k) ∨ (k = T.b2 ∨ T.lo2 = some k)
theorem MkB.sets_has {T : MkB} {k : Nat} (h : T.sets k) : T.has k := by
  rcases h with e | e | e
  · exact .inl e
  · exact .inr (.inl e)
  · exact .inr (.inr (.inl e))
section
variable {w wr w' : World} {T : MkB} {X : ArB} {s : ArS} {S S2 : Nat → Bool} {c : Col}
theorem MkAt.sees (h : MkAt wr T X.a c) (hA : ArMem wr X s) (hi : InAr s c) : ∃ S S2, MkSees wr T X s S S2 c := by
  obtain ⟨S, S2, room, st, ov, hM, hO⟩ := h.ex
  exact ⟨S, S2, hM.head, hM.s1, hM.s2, hA, hO.ma, hO.sc, hO.sub, hi⟩
theorem MkSees.turn {M : Nat → Prop} (h : MkSees w T X s S S2 c) (hT : Turn M w w') (hn : ∀ k, T.sets k → ¬ M k) (hX : ∀ k, X.has k → ¬ M k) : MkSees w' T X s S S2 c :=
  ⟨h.head.turn hT (hn _ (.inl rfl)), h.s1.turn hT (hn _ (.inr (.inl (.inl rfl)))) (fun l e => hn l (.inr (.inl (.inr e)))), h.s2.turn hT (hn _ (.inr (.inr (.inl rfl)))) (fun l e => hn l (.inr (.inr (.inr e)))), h.ar.turn hT hX, h.ma, h.sc, h.sub, h.inn⟩
theorem MkSees.lt (h : MkSees w T X s S S2 c) : ∀ k, T.sets k → k < w.heap.size := by
  rintro k (e | (e | e) | (e | e))
  · rw [e]; exact h.head.lt
  · rw [e]; exact h.s1.lt.1
  · exact h.s1.lt.2 k e
  · rw [e]; exact h.s2.lt.1
  · exact h.s2.lt.2 k e
theorem MkSees.below (h : MkSees w T X s S S2 c) (hB : Below w.heap.size w w') : MkSees w' T X s S S2 c :=
  h.turn (Turn.ofBelow hB) (fun k hk e => by have := h.lt k hk; omega) (fun k hk e => by have := h.ar.lt k hk; omega)
theorem MkSees.alloc (h : MkSees w T X s S S2 c) (o : Obj) : MkSees (w.alloc o) T X s S S2 c := h.below ((Below.refl _ w).alloc (Nat.le_refl _) o)
theorem MkSees.c0 (h : MkSees w T X s S S2 c) : w.cell? ⟨T.m, 0, none⟩ = some (.pointer (some ⟨X.a, 0, none⟩)) := h.head.cell 0
theorem MkSees.c1 (h : MkSees w T X s S S2 c) : w.cell? ⟨T.m, 1, none⟩ = some (.pointer (some ⟨T.b, 0, none⟩)) := h.head.cell 1
theorem MkSees.c2 (h : MkSees w T X s S S2 c) : w.cell? ⟨T.m, 2, none⟩ = some (.pointer (some ⟨T.b2, 0, none⟩)) := h.head.cell 2
theorem may_set {N : Nat} {S : Nat → Bool} {x : Int} (hS : ∀ i, S i = true → i < N) : (may N x && S x.toNat) = inS S x := by
  unfold may inS
  by_cases h0 : 0 ≤ x
  · cases h : S x.toNat with
    | true => have := hS _ h; simp [h0]; omega
    | false => simp
  · simp [h0]
theorem set_has {b N : Nat} {lo : Option Nat} (h : SetAt wr b lo N S) (x : Int) (t : Bool) (ht : inS S x = t) : Calls Tryz.prog 42 #[.pointer (some ⟨b, 0, none⟩), .int .i64 x] wr fun e w' => e = .returned (.bool t) ∧ Below wr.heap.size wr w' := by
  have := has_q b lo N S x wr h
  rwa [may_set h.2.1, ht] at this
end
theorem inS_of {w : World} {X : ArB} {s : ArS} {n : Nat} (hA : ArMem w X s) (hP : n = 32 * s.P + 1) {x : Int} (hx : inS s.S x = true) : 0 ≤ x ∧ x < n := by
  have h : 0 ≤ x ∧ s.S x.toNat = true := by simpa [inS] using hx
  have h2 := hA.set.2.1 _ h.2
  exact ⟨h.1, by omega⟩
section
variable {w wr w' : World} {T : MkB} {X : ArB} {s : ArS} {S S2 : Nat → Bool} {room : Int} {st : List Int} {ov : Bool} {c : Col}
theorem MkMem.put1 {xa : Nat} (h : MkMem wr T xa S S2 room st ov) (x : Int) (h1 : 0 ≤ x) (h2 : x < T.n) (t : Bool) (ht : inS S x = !t) : Calls Tryz.prog 39 #[.pointer (some ⟨T.b, 0, none⟩), .int .i64 x] wr fun e w' =>
    e = .returned (.bool t) ∧ ∃ (S' : Nat → Bool) (T' : MkB), inS S' = updI (inS S) x true ∧ MkMem w' T' xa S' S2 room st ov ∧ MkStep T wr T' w' := by
  have h3 := put_x T.b T.lo T.n S x wr h.s1
  have e : (may T.n x && !S x.toNat) = t := by
    have hm : may T.n x = true := by simp [may]; omega
    have e2 : inS S x = S x.toNat := by simp [inS, h1]
    rw [hm, ← e2, ht]; simp
  rw [e] at h3
  refine h3.mono ?_
  intro e w1 hp
  obtain ⟨rfl, T', _, hM, hS⟩ := h.turn1 hp
  exact ⟨rfl, _, T', inS_put S h1 h2, hM, hS⟩
theorem MkMem.put2 {xa : Nat} (h : MkMem wr T xa S S2 room st ov) (x : Int) (h1 : 0 ≤ x) (h2 : x < T.n) (t : Bool) (ht : inS S2 x = !t) : Calls Tryz.prog 39 #[.pointer (some ⟨T.b2, 0, none⟩), .int .i64 x] wr fun e w' =>
    e = .returned (.bool t) ∧ ∃ (S' : Nat → Bool) (T' : MkB), inS S' = updI (inS S2) x true ∧ MkMem w' T' xa S S' room st ov ∧ MkStep T wr T' w' := by
  have h3 := put_x T.b2 T.lo2 T.n S2 x wr h.s2
  have e : (may T.n x && !S2 x.toNat) = t := by
    have hm : may T.n x = true := by simp [may]; omega
    have e2 : inS S2 x = S2 x.toNat := by simp [inS, h1]
    rw [hm, ← e2, ht]; simp
  rw [e] at h3
  refine h3.mono ?_
  intro e w1 hp
  obtain ⟨rfl, T', _, hM, hS⟩ := h.turn2 hp
  exact ⟨rfl, _, T', inS_put S2 h1 h2, hM, hS⟩
theorem MkMem.drop1 {xa : Nat} (h : MkMem wr T xa S S2 room st ov) (x : Int) (t : Bool) (ht : inS S x = t) : Calls Tryz.prog 72 #[.pointer (some ⟨T.b, 0, none⟩), .int .i64 x] wr fun e w' =>
    e = .returned (.bool t) ∧ ∃ (S' : Nat → Bool) (T' : MkB), inS S' = updI (inS S) x false ∧ MkMem w' T' xa S' S2 room st ov ∧ MkStep T wr T' w' := by
  have h3 := drop_x T.b T.lo T.n S x wr h.s1
  rw [may_set h.s1.2.1, ht] at h3
  refine h3.mono ?_
  intro e w1 hp
  obtain ⟨rfl, T', _, hM, hS⟩ := h.turn1 hp
  exact ⟨rfl, _, T', inS_drop S x, hM, hS⟩
theorem MkMem.drop2 {xa : Nat} (h : MkMem wr T xa S S2 room st ov) (x : Int) (t : Bool) (ht : inS S2 x = t) : Calls Tryz.prog 72 #[.pointer (some ⟨T.b2, 0, none⟩), .int .i64 x] wr fun e w' =>
    e = .returned (.bool t) ∧ ∃ (S' : Nat → Bool) (T' : MkB), inS S' = updI (inS S2) x false ∧ MkMem w' T' xa S S' room st ov ∧ MkStep T wr T' w' := by
  have h3 := drop_x T.b2 T.lo2 T.n S2 x wr h.s2
  rw [may_set h.s2.2.1, ht] at h3
  refine h3.mono ?_
  intro e w1 hp
  obtain ⟨rfl, T', _, hM, hS⟩ := h.turn2 hp
  exact ⟨rfl, _, T', inS_drop S2 x, hM, hS⟩
end
section
variable {w wr w' : World} {T : MkB} {X : ArB} {s : ArS} {S S2 : Nat → Bool} {room : Int} {st : List Int} {ov : Bool} {c : Col}
theorem mkMarked (h : MkSees wr T X s S S2 c) (x : Int) (t : Bool) (ht : c.ma x = t) : Calls Tryz.prog 20 #[.pointer (some ⟨T.m, 0, none⟩), .int .i64 x] wr fun e w' => e = .returned (.bool t) ∧ Below wr.heap.size wr w' := by
  have cH := set_has h.s1 x t (by rw [← h.ma]; exact ht)
  have c1 := h.c1
  cases t with
  | false =>
    clear ht
    go_enter Tryz.func20, Tryz.ntmps20
    go_wp2_with fail
    refine cH.mono ?_
    rintro e w1 ⟨rfl, hB⟩
    clear cH
    go_wp2_with fail
    go_ret
    exact ⟨rfl, hB⟩
  | true =>
    have hx := h.inn x ht
    clear ht
    go_enter Tryz.func20, Tryz.ntmps20
    go_wp2_with fail
    refine cH.mono ?_
    rintro e w1 ⟨rfl, hB⟩
    have c0 := (h.below hB).c0
    have cA := has_any (h.ar.below hB) x
    rw [hx] at cA
    clear cH
    go_wp2_with fail
    refine cA.mono ?_
    rintro e w2 ⟨rfl, hB2⟩
    clear cA
    go_wp2_with fail
    go_ret
    exact ⟨rfl, below_step hB hB2⟩
def greyC (c : Col) (x : Int) : Bool := c.ma x && !c.sc x
theorem mkArena {xa : Nat} (h : MkAt wr T xa c) : Calls Tryz.prog 41 #[.pointer (some ⟨T.m, 0, none⟩)] wr fun e w' => e = .returned (.pointer (some ⟨xa, 0, none⟩)) ∧ wr = w' := by
  obtain ⟨S, S2, room, st, ov, hM, hO⟩ := h.ex
  have c0 := hM.c0
  go_enter Tryz.func41, Tryz.ntmps41
  go_wp2_with fail
  go_ret
  exact ⟨rfl, rfl⟩
theorem mkBlackenNo (h : MkAt wr T X.a c) (hA : ArMem wr X s) (x : Int) (hx : inS s.S x = false) : Calls Tryz.prog 17 #[.pointer (some ⟨T.m, 0, none⟩), .int .i64 x] wr fun e w' => e = .returned (.tuple #[]) ∧ Below wr.heap.size wr w' := by
  obtain ⟨S, S2, room, st, ov, hM, hO⟩ := h.ex
  have c0 := hM.c0
  have cA := has_any hA x
  rw [hx] at cA
  clear hx
  go_enter Tryz.func17, Tryz.ntmps17
  go_wp2_with fail
  refine cA.mono ?_
  rintro e w1 ⟨rfl, hB⟩
  clear cA
  go_wp2_with fail
  refine bodyPost_ret (results_none rfl _ _ _) rfl ?_
  exact ⟨rfl, hB⟩
theorem mkBlacken (h : MkAt wr T X.a c) (hA : ArMem wr X s) (hP : T.n = 32 * s.P + 1) (x : Int) (hx : inS s.S x = true) : Calls Tryz.prog 17 #[.pointer (some ⟨T.m, 0, none⟩), .int .i64 x] wr fun e w' =>
    e = .returned (.tuple #[]) ∧ ∃ T', MkAt w' T' X.a (c.black x) ∧ MkStep T wr T' w' := by
  obtain ⟨S, S2, room, st, ov, hM, hO⟩ := h.ex
  have c0 := hM.c0
  have cA := has_any hA x
  rw [hx] at cA
  obtain ⟨h1, h2⟩ := inS_of hA hP hx
  clear hx
  go_enter Tryz.func17, Tryz.ntmps17
  go_wp2_with fail
  refine cA.mono ?_
  rintro e w1 ⟨rfl, hB⟩
  have hM1 := hM.below hB
  have c1 := hM1.c1
  have cP := hM1.put1 x h1 h2 (!inS S x) (by simp)
  generalize (!inS S x) = q1 at cP
  clear cA c0
  go_wp2_with fail
  refine cP.mono ?_
  rintro e w2 ⟨rfl, S', T', hS', hM2, hS⟩
  have HS := Lib.hid hS'
  have c2 := hM2.c2
  rw [hS.m] at c2
  have cQ := hM2.put2 x h1 (by rw [hS.n]; exact h2) (!inS S2 x) (by simp)
  generalize (!inS S2 x) = q2 at cQ
  clear cP hS' c1
  go_wp2_with fail
  refine cQ.mono ?_
  rintro e w3 ⟨rfl, S3, T3, hS3', hM3, hS3⟩
  have HS3 := Lib.hid hS3'
  clear cQ hS3' c2
  go_wp2_with fail
  refine bodyPost_end (results_none rfl _ _ _) rfl ?_
  refine ⟨rfl, T3, ⟨S', S3, room, st, ov, hM3, ?_⟩, (hS.below hB).trans hS3⟩
  refine ⟨by rw [HS.out, ← hO.ma]; rfl, by rw [HS3.out, ← hO.sc]; rfl, fun y hy => ?_, hO.r1, hO.r2, hO.len, fun y hy hy2 => ?_⟩
  · show updI c.ma x true y = true
    by_cases e : y = x
    · rw [e, updI_at]
    · have hy3 : updI c.sc x true y = true := hy
      rw [updI_ne e] at hy3 ⊢; exact hO.sub y hy3
  · have hy3 : updI c.ma x true y = true := hy
    have hy4 : updI c.sc x true y = false := hy2
    by_cases e : y = x
    · rw [e, updI_at] at hy4; cases hy4
    · rw [updI_ne e] at hy3 hy4; exact hO.grey y hy3 hy4
theorem mkForget (h : MkAt wr T X.a c) (x : Int) : Calls Tryz.prog 55 #[.pointer (some ⟨T.m, 0, none⟩), .int .i64 x] wr fun e w' =>
    e = .returned (.tuple #[]) ∧ ∃ T', MkAt w' T' X.a (c.forget x) ∧ MkStep T wr T' w' := by
  obtain ⟨S, S2, room, st, ov, hM, hO⟩ := h.ex
  have c1 := hM.c1
  have cP := hM.drop1 x _ rfl
  generalize inS S x = q1 at cP
  go_enter Tryz.func55, Tryz.ntmps55
  go_wp2_with fail
  refine cP.mono ?_
  rintro e w2 ⟨rfl, S', T', hS', hM2, hS⟩
  have HS := Lib.hid hS'
  have c2 := hM2.c2
  rw [hS.m] at c2
  have cQ := hM2.drop2 x _ rfl
  generalize inS S2 x = q2 at cQ
  clear cP hS' c1
  go_wp2_with fail
  refine cQ.mono ?_
  rintro e w3 ⟨rfl, S3, T3, hS3', hM3, hS3⟩
  have HS3 := Lib.hid hS3'
  clear cQ hS3' c2
  go_wp2_with fail
  refine bodyPost_end (results_none rfl _ _ _) rfl ?_
  refine ⟨rfl, T3, ⟨S', S3, room, st, ov, hM3, ?_⟩, hS.trans hS3⟩
  refine ⟨by rw [HS.out, ← hO.ma]; rfl, by rw [HS3.out, ← hO.sc]; rfl, fun y hy => ?_, hO.r1, hO.r2, hO.len, fun y hy hy2 => ?_⟩
  · show updI c.ma x false y = true
    have hy3 : updI c.sc x false y = true := hy
    by_cases e : y = x
    · rw [e, updI_at] at hy3; cases hy3
    · rw [updI_ne e] at hy3 ⊢; exact hO.sub y hy3
  · have hy3 : updI c.ma x false y = true := hy
    have hy4 : updI c.sc x false y = false := hy2
    by_cases e : y = x
    · rw [e, updI_at] at hy3; cases hy3
    · rw [updI_ne e] at hy3 hy4; exact hO.grey y hy3 hy4
end
end Go.Proofs.YtidpmplkbgllfaaGreatDoor
