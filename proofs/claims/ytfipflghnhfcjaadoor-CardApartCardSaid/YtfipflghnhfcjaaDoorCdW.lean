/- Two tables of one arena, and a map beside them; at this seat's numbers. -/
import Derived.Test.YtfipflghnhfcjaaDoorCdF
import Derived.Test.YtfipflghnhfcjaaDoorArJ
import Derived.Test.YtfipflghnhfcjaaDoorMapC
namespace Go.Proofs.YtfipflghnhfcjaaDoor
open Go Go.RowKit Go.Shelf Go.MuLone Go.RwLone
set_option linter.unusedSimpArgs false
set_option linter.unusedVariables false

structure Apt (B : Nat) (X : ArB) (C D : CdB) (s : ArS) (S S2 : Nat → Bool) (mb cnt : Nat) (wb wr : World) : Prop where
  ar : ArIn B X s wb wr
  P : s.P = 8
  cd : CdAt wr C X.a 8 S
  ce : CdAt wr D X.a 8 S2
  cown : ∀ k, C.has k → B ≤ k ∧ ¬ X.has k ∧ ¬ D.has k
  down : ∀ k, D.has k → B ≤ k ∧ ¬ X.has k
  map : MapOf wr mb cnt S
  mown : B ≤ mb ∧ ¬ X.has mb
section
variable {B : Nat} {X : ArB} {C D : CdB} {s : ArS} {S S2 S' : Nat → Bool} {mb cnt : Nat} {wb wr w' : World}
theorem cdBlk {w : World} {C : CdB} {xa P : Nat} {S : Nat → Bool} (h : CdAt w C xa P S) : ∀ k, C.has k → ∃ cs T, Blk w k cs T := by
  rintro k (e | e | e)
  · exact ⟨_, _, e ▸ h.head⟩
  · obtain ⟨_, _, h4⟩ := SetIn.blk h.set.2.2
    exact ⟨_, _, e ▸ h4⟩
  · have h4 := h.set.2.2
    rw [e] at h4
    obtain ⟨_, _, ws, h5, _⟩ := h4
    exact ⟨_, _, h5⟩
theorem Apt.cm (h : Apt B X C D s S S2 mb cnt wb wr) : ¬ C.has mb := fun hk => by
  obtain ⟨cs, T, hb⟩ := cdBlk h.cd mb hk
  exact h.map.farBlk hb rfl
theorem Apt.dm (h : Apt B X C D s S S2 mb cnt wb wr) : ¬ D.has mb := fun hk => by
  obtain ⟨cs, T, hb⟩ := cdBlk h.ce mb hk
  exact h.map.farBlk hb rfl
theorem Apt.ask (h : Apt B X C D s S S2 mb cnt wb wr) (hB : Below wr.heap.size wr w') : Apt B X C D s S S2 mb cnt wb w' :=
  ⟨h.ar.ask hB, h.P, h.cd.turn (Turn.ofBelow hB) (fun k hk e => by have := h.cd.lt k hk; omega), h.ce.turn (Turn.ofBelow hB) (fun k hk e => by have := h.ce.lt k hk; omega), h.cown, h.down, h.map.turn (Turn.ofBelow hB) (by have := h.map.lt; omega), h.mown⟩
theorem Apt.drew (h : Apt B X C D s S S2 mb cnt wb wr) : Apt B X C D s S S2 mb cnt wb wr.drew := h.ask (Below.refl _ wr).drew
theorem Apt.c1 (h : Apt B X C D s S S2 mb cnt wb wr) : CardIn B X C s S wb wr := ⟨h.ar.at_.toArMem, by rw [h.P]; exact h.cd, h.ar.own, fun k hk => (h.cown k hk).1, fun k hk => (h.cown k hk).2.1, h.ar.below, h.ar.base⟩
theorem Apt.c2 (h : Apt B X C D s S S2 mb cnt wb wr) : CardIn B X D s S2 wb wr := ⟨h.ar.at_.toArMem, by rw [h.P]; exact h.ce, h.ar.own, fun k hk => (h.down k hk).1, fun k hk => (h.down k hk).2, h.ar.below, h.ar.base⟩
theorem ArIn.turnedC {M : Nat → Prop} (h : ArIn B X s wb wr) (hT : Turn M wr w') (hX : ∀ k, X.has k → ¬ M k) (hB : ∀ k, k < B → ¬ M k) : ArIn B X s wb w' :=
  ⟨h.at_.turn hT hX, h.own, h.below.trans (hT.below B h.size hB), h.base, h.tab, h.tabB⟩
/-- A page gets dirty: which blocks are the table's then. -/
theorem CardIn.dirtyN (h : CardIn B X C s S wb wr) (n : Nat) (h1 : 1 ≤ n) (h2 : n ≤ 32 * s.P) : Calls Tryd.prog 33 #[.pointer (some ⟨C.t, 0, none⟩), .int .i64 (n : Int)] wr fun e w' =>
    e = .returned (.bool true) ∧ ∃ lo', SetAt w' C.b lo' s.P (putS s.P S (((n - 1) / 32 : Nat) : Int)) ∧ (lo' = C.lo ∨ C.lo = none ∧ ∃ l, lo' = some l ∧ wr.heap.size ≤ l) ∧ Turn (fun k => k = C.b ∨ C.lo = some k) wr w' := by
  have c0 := h.cd.c0
  have c1 := h.cd.c1
  have hp := h.ar.p64
  have cP := page_yes h.ar n h1 h2
  have hpgI : ¬ ((pg n : Nat) : Int) < 0 := by omega
  have cS := put_x C.b C.lo s.P S ((pg n : Nat) : Int) wr h.cd.set
  have e : pg n = (n - 1) / 32 := rfl
  go_enter Tryd.func33, Tryd.ntmps33
  go_wp2_with fail
  refine cP.mono ?_
  rintro e w1 ⟨rfl, rfl⟩
  clear cP
  go_wp2_with fail
  refine cS.mono ?_
  rintro e w2 ⟨lo', rfl, hS, hlo, hT⟩
  clear cS
  go_wp2_with fail
  go_ret
  exact ⟨rfl, lo', hS, hlo, hT⟩
theorem with_new {lo' : Option Nat} {w : World} (hlo : lo' = C.lo ∨ C.lo = none ∧ ∃ l, lo' = some l ∧ w.heap.size ≤ l) : ∀ k, (C.with lo').has k → C.has k ∨ w.heap.size ≤ k := by
  rintro k (e | e | e)
  · exact .inl (.inl e)
  · exact .inl (.inr (.inl e))
  · rcases hlo with e2 | ⟨_, l, e2, hl⟩
    · exact .inl (.inr (.inr (e2 ▸ e)))
    · have e3 : lo' = some k := e
      rw [e2] at e3
      cases e3
      exact .inr hl
/-- The first table's page gets dirty; the map hears of it next. -/
theorem Apt.dirty1 (h : Apt B X C D s S S2 mb cnt wb wr) (n : Nat) (hn : n < 256) (hc : cnt < 9223372036854775807) : Calls Tryd.prog 33 #[.pointer (some ⟨C.t, 0, none⟩), .int .i64 ((n : Int) + 1)] wr fun e w' =>
    e = .returned (.bool true) ∧ ∃ w2 lo', (Instr.mapUpdate 74 (.map (some mb)) (.int .i64 ((n / 32 : Nat) : Int)) (.int .i64 1)).run Tryd.prog w' = .ok () w2 ∧ Apt B X (C.with lo') D s (putS 8 S ((n / 32 : Nat) : Int)) S2 mb (cnt + 1) wb w2 := by
  have hP := h.P
  have cN := h.c1.dirtyN (n + 1) (by omega) (by omega)
  rw [show (((n + 1 : Nat)) : Int) = (n : Int) + 1 by omega] at cN
  refine cN.mono ?_
  rintro e w' ⟨rfl, lo', hS, hlo, hT⟩
  rw [show (n + 1 - 1) / 32 = n / 32 by rw [Nat.add_sub_cancel], hP] at hS
  have hnew := with_new hlo
  have hsz := h.ar.size
  have hC : ∀ k, (k = C.b ∨ C.lo = some k) → C.has k := fun k e => .inr e
  have hm2 : MapOf w' mb cnt S := h.map.turn hT (fun e => h.cm (hC _ e))
  obtain ⟨w2, hrun, hm3, hg⟩ := hm2.store (m := 8) (by decide) (by omega) ((n / 32 : Nat) : Int) (by simp [Lit.wf, IntKind.min, IntKind.max, IntKind.signed, IntKind.bits]; omega) (by unfold may; rw [decide_eq_true (by omega), decide_eq_true (by omega)]; rfl)
  have hT2 : Turn (fun k => k = mb) w' w2 := ⟨hg.os, hg.tape, hg.output, hg.size, fun k hk hn => hg.block k hk (fun e => hn (by injection e))⟩
  have hmC := h.cm
  have hmD := h.dm
  have hml := h.map.lt
  refine ⟨rfl, w2, lo', hrun, ⟨(h.ar.turnedC hT (fun k hk e => (h.cown k (hC k e)).2.1 hk) (fun k hk e => by have := (h.cown k (hC k e)).1; omega)).turnedC hT2 (fun k hk e => h.mown.2 ((show k = mb from e) ▸ hk)) (fun k hk e => by have e2 : k = mb := e; have := h.mown.1; omega), hP, ?_, ?_, fun k hk => ?_, h.down, hm3, h.mown⟩⟩
  · have h1 : CdAt w' (C.with lo') X.a 8 (putS 8 S ((n / 32 : Nat) : Int)) := ⟨h.cd.head.turn hT (by rintro (e | e); exact h.cd.tb e; exact h.cd.tl e), hS⟩
    refine h1.turn hT2 (fun k hk e => ?_)
    have e2 : k = mb := e
    rcases hnew k hk with e3 | e3
    · exact hmC (e2 ▸ e3)
    · omega
  · exact (h.ce.turn hT (fun k hk e => (h.cown k (hC k e)).2.2 hk)).turn hT2 (fun k hk e => hmD ((show k = mb from e) ▸ hk))
  · rcases hnew k hk with e | e
    · exact h.cown k e
    · exact ⟨by omega, fun hx => by have := h.ar.at_.lt k hx; omega, fun hx => by have := h.ce.lt k hx; omega⟩
/-- The second table's. -/
theorem Apt.dirty2 (h : Apt B X C D s S S2 mb cnt wb wr) (n : Nat) (hn : n < 256) : Calls Tryd.prog 33 #[.pointer (some ⟨D.t, 0, none⟩), .int .i64 ((n : Int) + 1)] wr fun e w' =>
    e = .returned (.bool true) ∧ ∃ lo', Apt B X C (D.with lo') s S (putS 8 S2 ((n / 32 : Nat) : Int)) mb cnt wb w' := by
  have hP := h.P
  have cN := h.c2.dirtyN (n + 1) (by omega) (by omega)
  rw [show (((n + 1 : Nat)) : Int) = (n : Int) + 1 by omega] at cN
  refine cN.mono ?_
  rintro e w' ⟨rfl, lo', hS, hlo, hT⟩
  rw [show (n + 1 - 1) / 32 = n / 32 by rw [Nat.add_sub_cancel], hP] at hS
  have hnew := with_new hlo
  have hsz := h.ar.size
  have hD : ∀ k, (k = D.b ∨ D.lo = some k) → D.has k := fun k e => .inr e
  refine ⟨rfl, lo', ⟨h.ar.turnedC hT (fun k hk e => (h.down k (hD k e)).2 hk) (fun k hk e => by have := (h.down k (hD k e)).1; omega), hP, h.cd.turn hT (fun k hk e => (h.cown k hk).2.2 (hD k e)), ⟨h.ce.head.turn hT (by rintro (e | e); exact h.ce.tb e; exact h.ce.tl e), hS⟩, fun k hk => ⟨(h.cown k hk).1, (h.cown k hk).2.1, fun hx => ?_⟩, fun k hk => ?_, h.map.turn hT (fun e => h.dm (hD _ e)), h.mown⟩⟩
  · rcases hnew k hx with e | e
    · exact (h.cown k hk).2.2 e
    · have := h.cd.lt k hk; omega
  · rcases hnew k hk with e | e
    · exact h.down k e
    · exact ⟨by omega, fun hx => by have := h.ar.at_.lt k hx; omega⟩
theorem Apt.clean2 (h : Apt B X C D s S S2 mb cnt wb wr) : Calls Tryd.prog 37 #[.pointer (some ⟨D.t, 0, none⟩)] wr fun e w' =>
    e = .returned (.tuple #[]) ∧ Apt B X C D s S (fun _ => false) mb cnt wb w' := by
  refine h.c2.clean.mono ?_
  rintro e w' ⟨rfl, h2, hT⟩
  have hcd := h2.cd
  rw [h.P] at hcd
  exact ⟨rfl, ⟨h.ar.turnedC hT (fun k hk e => (h.down k e).2 hk) (fun k hk e => by have := (h.down k e).1; omega), h.P, h.cd.turn hT (fun k hk e => (h.cown k hk).2.2 e), hcd, h.cown, h.down, h.map.turn hT h.dm, h.mown⟩⟩
/-- The arena is turned. -/
theorem Apt.arena {X' : ArB} {s' : ArS} (h : Apt B X C D s S S2 mb cnt wb wr) (hA : ArIn B X' s' wb w') (hS : ArStep X wr X' w') (hP : s'.P = s.P) (ha : X'.a = X.a) : Apt B X' C D s' S S2 mb cnt wb w' := by
  have hsz := h.ar.size
  refine ⟨hA, hP.trans h.P, by rw [ha]; exact h.cd.turn hS.turn (fun k hk e => (h.cown k hk).2.1 e), by rw [ha]; exact h.ce.turn hS.turn (fun k hk e => (h.down k hk).2 e), fun k hk => ⟨(h.cown k hk).1, fun hx => ?_, (h.cown k hk).2.2⟩, fun k hk => ⟨(h.down k hk).1, fun hx => ?_⟩, h.map.turn hS.turn h.mown.2, h.mown.1, fun hx => ?_⟩
  · rcases hS.has_new hx with e | e
    · exact (h.cown k hk).2.1 e
    · have := h.cd.lt k hk; omega
  · rcases hS.has_new hx with e | e
    · exact (h.down k hk).2 e
    · have := h.ce.lt k hk; omega
  · rcases hS.has_new hx with e | e
    · exact h.mown.2 e
    · have := h.map.lt; omega
theorem Apt.take (h : Apt B X C D s S S2 mb cnt wb wr) (c : Int) : Calls Tryd.prog 16 #[.pointer (some ⟨X.a, 0, none⟩), .int .i64 c] wr fun e w' =>
    e = .returned (.tuple #[.int .i64 ((seekF s c : Nat) : Int), .bool (decide (seekF s c ≠ 0))]) ∧ ∃ lo', Apt B (X.with lo') C D (s.take c) S S2 mb cnt wb w' := by
  refine (h.ar.take c).mono ?_
  rintro e w' ⟨rfl, lo', hA, hS⟩
  exact ⟨rfl, lo', h.arena hA hS (take_P s c) rfl⟩
theorem Apt.give (h : Apt B X C D s S S2 mb cnt wb wr) (r : Int) : Calls Tryd.prog 13 #[.pointer (some ⟨X.a, 0, none⟩), .int .i64 r] wr fun e w' =>
    e = .returned (.bool (inS s.S r)) ∧ ∃ lo', Apt B (X.with lo') C D (s.giveI r) S S2 mb cnt wb w' := by
  refine (h.ar.give r).mono ?_
  rintro e w' ⟨rfl, lo', hA, hS⟩
  exact ⟨rfl, lo', h.arena hA hS (by unfold ArS.giveI; split; exact give_P s _; rfl) rfl⟩
end
end Go.Proofs.YtfipflghnhfcjaaDoor
