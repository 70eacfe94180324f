/- One table and a map beside it, for CardRuns; at this seat's numbers. -/
import Derived.Test.YtfipflghnhfcjaaCdF
import Derived.Test.YtfipflghnhfcjaaMapC
namespace Go.Proofs.Ytfipflghnhfcjaa
open Go Go.RowKit Go.Shelf Go.MuLone Go.RwLone
set_option linter.unusedSimpArgs false
set_option linter.unusedVariables false

structure Crn (B : Nat) (X : ArB) (C : CdB) (P : Nat) (S : Nat → Bool) (mb cnt : Nat) (wb wr : World) : Prop where
  c : CardIn B X C (.new P) S wb wr
  map : MapOf wr mb cnt S
  mown : B ≤ mb ∧ ¬ X.has mb
section
variable {B : Nat} {X : ArB} {C : CdB} {P : Nat} {S : Nat → Bool} {mb cnt : Nat} {wb wr w' : World}
theorem Crn.ask (h : Crn B X C P S mb cnt wb wr) (hB : Below wr.heap.size wr w') : Crn B X C P S mb cnt wb w' :=
  ⟨h.c.ask hB, h.map.turn (Turn.ofBelow hB) (by have := h.map.lt; omega), h.mown⟩
theorem Crn.drew (h : Crn B X C P S mb cnt wb wr) : Crn B X C P S mb cnt wb wr.drew := h.ask (Below.refl _ wr).drew
theorem Crn.dirtyNo (h : Crn B X C P S mb cnt wb wr) (r : Int) (hr : ¬ (1 ≤ r ∧ r ≤ 32 * (P : Int))) : Calls Try.prog 13 #[.pointer (some ⟨C.t, 0, none⟩), .int .i64 r] wr fun e w' =>
    e = .returned (.bool false) ∧ ∃ lo', Crn B X (C.with lo') P S mb cnt wb w' := by
  refine (h.c.dirty r false (decide_eq_false hr)).mono ?_
  rintro e w' ⟨rfl, lo', h2, hT⟩
  have e1 : dirtyS (ArS.new P).P S r = S := dirtyS_none hr
  rw [e1] at h2
  exact ⟨rfl, lo', h2, h.map.turn hT (h.c.farMap h.map), h.mown⟩
theorem Crn.dirtyYes (h : Crn B X C P S mb cnt wb wr) (hP : P ≤ 4096) (r : Int) (hr : 1 ≤ r ∧ r ≤ 32 * (P : Int)) (hc : cnt < 9223372036854775807) : Calls Try.prog 13 #[.pointer (some ⟨C.t, 0, none⟩), .int .i64 r] wr fun e w' =>
    e = .returned (.bool true) ∧ ∃ w2 lo', (Instr.mapUpdate 28 (.map (some mb)) (.int .i64 ((((r.toNat - 1) / 32 : Nat)) : Int)) (.int .i64 1)).run Try.prog w' = .ok () w2 ∧ Crn B X (C.with lo') P (putS P S ((((r.toNat - 1) / 32 : Nat)) : Int)) mb (cnt + 1) wb w2 := by
  refine (h.c.dirty r true (decide_eq_true hr)).mono ?_
  rintro e w' ⟨rfl, lo', h2, hT⟩
  obtain ⟨e1, hm⟩ := dirtyS_put (S := S) hr
  replace e1 : dirtyS (ArS.new P).P S r = _ := e1
  rw [e1] at h2
  obtain ⟨w2, hrun, hm3, hg⟩ := (h.map.turn hT (h.c.farMap h.map)).store hP hc _ (by simp [Lit.wf, IntKind.min, IntKind.max, IntKind.signed, IntKind.bits]; omega) hm
  have hT2 : Turn (fun k => k = mb) w' w2 := ⟨hg.os, hg.tape, hg.output, hg.size, fun k hk hn => hg.block k hk (fun e => hn (by injection e))⟩
  have hfar := h2.farMap (h.map.turn hT (h.c.farMap h.map))
  exact ⟨rfl, w2, lo', hrun, h2.turn hT2 (fun k hk e => h.mown.2 ((show k = mb from e) ▸ hk)) (fun k hk e => hfar ((show k = mb from e) ▸ hk)) (fun k hk e => by have e2 : k = mb := e; have := h.mown.1; omega), hm3, h.mown⟩
theorem Crn.clean (h : Crn B X C P S mb cnt wb wr) : Calls Try.prog 12 #[.pointer (some ⟨C.t, 0, none⟩)] wr fun e w' =>
    e = .returned (.tuple #[]) ∧ Crn B X C P (fun _ => false) w'.heap.size 0 wb (w'.alloc (.map #[] 0)) := by
  refine h.c.clean.mono ?_
  rintro e w' ⟨rfl, h2, hT⟩
  exact ⟨rfl, h2.alloc _, MapOf.made w', h2.size, fun hx => by have := h2.ar.lt _ hx; omega⟩
theorem Crn.start (h : CardIn B X C (.new P) (fun _ => false) wb wr) : Crn B X C P (fun _ => false) wr.heap.size 0 wb (wr.alloc (.map #[] 0)) :=
  ⟨h.alloc _, MapOf.made wr, h.size, fun hx => by have := h.ar.lt _ hx; omega⟩
end
end Go.Proofs.Ytfipflghnhfcjaa
