/- A table of dirty pages, beside its arena; package card's functions but Take; at this seat's numbers. -/
import Derived.Test.YtooddbhlanjfbaaGreatDoorUc
import Derived.Test.YtooddbhlanjfbaaGreatDoorUf
namespace Go.Proofs.YtooddbhlanjfbaaGreatDoor
open Go Go.RowKit Go.Shelf Go.MuLone Go.RwLone
set_option linter.unusedSimpArgs false
set_option linter.unusedVariables false

/-- A table's blocks: itself, its set, the set's leaf. -/
structure CdB where
  t : Nat
  b : Nat
  lo : Option Nat
def CdB.has (C : CdB) (k : Nat) : Prop := k = C.t ∨ k = C.b ∨ C.lo = some k
def CdB.with (C : CdB) (lo : Option Nat) : CdB := { C with lo := lo }
structure CdAt (w : World) (C : CdB) (xa P : Nat) (S : Nat → Bool) : Prop where
  head : Blk w C.t #[.pointer (some ⟨C.b, 0, none⟩), .pointer (some ⟨xa, 0, none⟩)] 160
  set : SetAt w C.b C.lo P S
section
variable {w w' : World} {C : CdB} {xa P : Nat} {S : Nat → Bool}
theorem CdAt.turn {M : Nat → Prop} (h : CdAt w C xa P S) (hT : Turn M w w') (hn : ∀ k, C.has k → ¬ M k) : CdAt w' C xa P S :=
  ⟨h.head.turn hT (hn _ (.inl rfl)), h.set.turn hT (hn _ (.inr (.inl rfl))) (fun l hl => hn _ (.inr (.inr hl)))⟩
theorem CdAt.lt (h : CdAt w C xa P S) : ∀ k, C.has k → k < w.heap.size := by
  rintro k (rfl | rfl | e)
  · exact h.head.lt
  · exact h.set.lt.1
  · exact h.set.lt.2 _ e
theorem CdAt.c0 (h : CdAt w C xa P S) : w.cell? ⟨C.t, 0, none⟩ = some (.pointer (some ⟨C.b, 0, none⟩)) := h.head.cell 0
theorem CdAt.c1 (h : CdAt w C xa P S) : w.cell? ⟨C.t, 1, none⟩ = some (.pointer (some ⟨xa, 0, none⟩)) := h.head.cell 1
theorem CdAt.tb (h : CdAt w C xa P S) : ¬ C.t = C.b := fun e => by
  obtain ⟨_, _, hb⟩ := SetIn.blk h.set.2.2
  have h1 := h.head
  rw [e] at h1
  unfold Blk at h1 hb
  rw [hb] at h1
  injection h1 with h2
  injection h2 with _ h3
  exact absurd h3 (by decide)
theorem CdAt.tl (h : CdAt w C xa P S) : ¬ C.lo = some C.t := fun e => by
  have h2 := h.set.2.2
  rw [e] at h2
  obtain ⟨_, _, ws, hL, _⟩ := h2
  have h1 := h.head
  unfold Blk at h1 hL
  rw [hL] at h1
  injection h1 with h2
  injection h2 with _ h3
  exact absurd h3 (by decide)
theorem CdAt.in_ (h : CdAt w C xa P S) (p : Int) : (may P p && S p.toNat) = (decide (0 ≤ p) && S p.toNat) := by
  unfold may
  by_cases h0 : 0 ≤ p
  · cases e : S p.toNat with
    | false => simp
    | true =>
      have := h.set.2.1 _ e
      rw [decide_eq_true h0, decide_eq_true (by omega : p < (P : Int))]
      rfl
  · rw [decide_eq_false h0]; rfl
end
/-- The pages that are dirty once r's is. -/
def dirtyS (P : Nat) (S : Nat → Bool) (r : Int) : Nat → Bool := if 1 ≤ r ∧ r ≤ 32 * P then fun j => S j || decide (j = (r.toNat - 1) / 32) else S

/-- A table beside its arena, which a call made since. -/
structure CardIn (B : Nat) (X : ArB) (C : CdB) (s : ArS) (S : Nat → Bool) (wb wr : World) : Prop where
  ar : ArMem wr X s
  cd : CdAt wr C X.a s.P S
  xown : ∀ k, X.has k → B ≤ k
  own : ∀ k, C.has k → B ≤ k
  sep : ∀ k, C.has k → ¬ X.has k
  below : Below B wb wr
  base : B ≤ wb.heap.size
section
variable {B : Nat} {X : ArB} {C : CdB} {s : ArS} {S S' : Nat → Bool} {wb wr w' : World}
theorem CardIn.size (h : CardIn B X C s S wb wr) : B ≤ wr.heap.size := Nat.le_trans h.base h.below.size
theorem CardIn.turn {M : Nat → Prop} (h : CardIn B X C s S wb wr) (hT : Turn M wr w') (hx : ∀ k, X.has k → ¬ M k) (hc : ∀ k, C.has k → ¬ M k) (hb : ∀ k, k < B → ¬ M k) : CardIn B X C s S wb w' :=
  ⟨h.ar.turn hT hx, h.cd.turn hT hc, h.xown, h.own, h.sep, h.below.trans (hT.below B h.size hb), h.base⟩
theorem CardIn.ask (h : CardIn B X C s S wb wr) (hB : Below wr.heap.size wr w') : CardIn B X C s S wb w' :=
  h.turn (Turn.ofBelow hB) (fun k hk e => by have := h.ar.lt k hk; omega) (fun k hk e => by have := h.cd.lt k hk; omega) (fun k hk e => by have := h.size; omega)
theorem CardIn.alloc (h : CardIn B X C s S wb wr) (o : Obj) : CardIn B X C s S wb (wr.alloc o) := h.ask ((Below.refl _ wr).alloc (Nat.le_refl _) o)
theorem CardIn.drew (h : CardIn B X C s S wb wr) : CardIn B X C s S wb wr.drew := h.ask (Below.refl _ wr).drew
/-- The set is turned. -/
theorem CardIn.step (h : CardIn B X C s S wb wr) {lo' : Option Nat} (hS : SetAt w' C.b lo' s.P S') (hlo : lo' = C.lo ∨ C.lo = none ∧ ∃ l, lo' = some l ∧ wr.heap.size ≤ l) (hT : Turn (fun k => k = C.b ∨ C.lo = some k) wr w') :
    CardIn B X (C.with lo') s S' wb w' ∧ Turn C.has wr w' := by
  have hT2 : Turn C.has wr w' := hT.mono fun k _ e => .inr e
  have hnew : ∀ k, (C.with lo').has k → C.has k ∨ wr.heap.size ≤ k := by
    rintro k (e | e | e)
    · exact .inl (.inl e)
    · exact .inl (.inr (.inl e))
    · rcases hlo with e2 | ⟨_, l, e2, hl⟩
      · exact .inl (.inr (.inr (e2 ▸ e)))
      · have e3 : lo' = some k := e
        rw [e2] at e3
        cases e3
        exact .inr hl
  refine ⟨⟨h.ar.turn hT (fun k hk e => h.sep k (.inr e) hk), ⟨h.cd.head.turn hT (by rintro (e | e); exact h.cd.tb e; exact h.cd.tl e), hS⟩, h.xown, fun k hk => ?_, fun k hk hx => ?_, h.below.trans (hT.below B h.size fun k hk e => by have := h.own k (.inr e); omega), h.base⟩, hT2⟩
  · rcases hnew k hk with e | e
    · exact h.own k e
    · have := h.size; omega
  · rcases hnew k hk with e | e
    · exact h.sep k e hx
    · have := h.ar.lt k hx; omega

theorem cdNew (h : ArMem wr X s) (hx : ∀ k, X.has k → B ≤ k) (hB : Below B wb wr) (hb : B ≤ wb.heap.size) : Calls Tryz.prog 56 #[.pointer (some ⟨X.a, 0, none⟩)] wr fun e w' =>
    ∃ C, e = .returned (.pointer (some ⟨C.t, 0, none⟩)) ∧ CardIn B X C s (fun _ => false) wb w' ∧ (∀ k, C.has k → wr.heap.size ≤ k) ∧ Below wr.heap.size wr w' := by
  have cP := pages_any h
  have hp := h.p64
  have hXlt := h.lt
  go_enter Tryz.func56, Tryz.ntmps56
  go_wp2_with fail
  refine cP.mono ?_
  rintro e w1 ⟨rfl, rfl⟩
  clear cP
  go_wp2_with fail
  refine (new_at (s.P : Int) (by omega) wr s.P (by omega)).mono ?_
  rintro e w2 ⟨b, hbl, rfl, hS, hT⟩
  have hsz := hT.size
  have hSb := hS.lt.1
  go_wp2_with fail
  go_ret
  have hT3 := hT.alloc (.cells #[.pointer (some ⟨b, 0, none⟩), .pointer (some ⟨X.a, 0, none⟩)] 160)
  have hBl : Below wr.heap.size wr (w2.alloc (.cells #[.pointer (some ⟨b, 0, none⟩), .pointer (some ⟨X.a, 0, none⟩)] 160)) := hT3.below _ (Nat.le_refl _) (fun _ _ e => e)
  have hge : B ≤ wr.heap.size := Nat.le_trans hb hB.size
  have hcs : ∀ k, CdB.has ⟨w2.heap.size, b, none⟩ k → wr.heap.size ≤ k := by
    rintro k (rfl | rfl | e)
    · exact hsz
    · exact hbl
    · cases e
  exact ⟨⟨w2.heap.size, b, none⟩, rfl, ⟨h.turn hT3 (fun _ _ e => e), ⟨Blk.new w2 _ _, hS.turn ((Turn.refl (fun _ => False) w2).alloc _) (fun e => e) (fun _ h => by cases h)⟩, hx, fun k hk => Nat.le_trans hge (hcs k hk),
    fun k hk hx2 => by have h1 := hcs k hk; have h2 := hXlt k hx2; omega, hB.trans (hBl.mono hge), hb⟩, hcs, hBl⟩

theorem CardIn.dirty (h : CardIn B X C s S wb wr) (r : Int) (q : Bool) (hq : decide (1 ≤ r ∧ r ≤ 32 * s.P) = q) : Calls Tryz.prog 170 #[.pointer (some ⟨C.t, 0, none⟩), .int .i64 r] wr fun e w' =>
    e = .returned (.bool q) ∧ ∃ lo', CardIn B X (C.with lo') s (dirtyS s.P S r) wb w' ∧ Turn C.has wr w' := by
  have c0 := h.cd.c0
  have c1 := h.cd.c1
  have hp := h.ar.p64
  by_cases hr : 1 ≤ r ∧ r ≤ 32 * s.P
  · rw [decide_eq_true hr] at hq
    subst hq
    obtain ⟨n, rfl⟩ : ∃ n : Nat, r = n := ⟨r.toNat, by omega⟩
    have cP := page_yes h.ar n (by omega) (by omega)
    have hpg : pg n < s.P := by unfold pg; omega
    have hpgI : ¬ ((pg n : Nat) : Int) < 0 := by omega
    have cS := put_x C.b C.lo s.P S ((pg n : Nat) : Int) wr h.cd.set
    have hSS : putS s.P S ((pg n : Nat) : Int) = dirtyS s.P S (n : Int) := by
      unfold dirtyS
      rw [if_pos hr]
      funext j
      unfold putS may
      rw [decide_eq_true (by omega : (0 : Int) ≤ ((pg n : Nat) : Int)), decide_eq_true (by omega : ((pg n : Nat) : Int) < (s.P : Int)), Int.toNat_natCast, Int.toNat_natCast]
      unfold pg
      simp
    rw [hSS] at cS
    clear hSS hpg
    go_enter Tryz.func170, Tryz.ntmps170
    go_wp2_with fail
    refine cP.mono ?_
    rintro e w1 ⟨rfl, rfl⟩
    clear cP
    go_wp2_with fail
    refine cS.mono ?_
    rintro e w2 ⟨lo', rfl, hS, hlo, hT⟩
    clear cS
    go_wp2_with fail
    go_ret
    exact ⟨rfl, lo', h.step hS hlo hT⟩
  · rw [decide_eq_false hr] at hq
    subst hq
    have cP := page_no h.ar r hr
    have e1 : dirtyS s.P S r = S := by unfold dirtyS; rw [if_neg hr]
    rw [e1]
    clear e1 hr
    go_enter Tryz.func170, Tryz.ntmps170
    go_wp2_with fail
    refine cP.mono ?_
    rintro e w1 ⟨rfl, rfl⟩
    clear cP
    go_wp2_with fail
    go_ret
    exact ⟨rfl, C.lo, h, Turn.refl _ _⟩

theorem CardIn.clean (h : CardIn B X C s S wb wr) : Calls Tryz.prog 174 #[.pointer (some ⟨C.t, 0, none⟩)] wr fun e w' =>
    e = .returned (.tuple #[]) ∧ CardIn B X C s (fun _ => false) wb w' ∧ Turn C.has wr w' := by
  have c0 := h.cd.c0
  have cR := reset_any C.b C.lo s.P S wr h.cd.set
  go_enter Tryz.func174, Tryz.ntmps174
  go_wp2_with fail
  refine cR.mono ?_
  rintro e w1 ⟨rfl, hS, hT⟩
  clear cR
  go_wp2_with fail
  go_end0
  exact ⟨rfl, h.step hS (.inl rfl) hT⟩

end
end Go.Proofs.YtooddbhlanjfbaaGreatDoor
