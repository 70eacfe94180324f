/- Two barriers of one engine, with two markers, over one graph; at this seat's numbers. -/
import Derived.Test.YtooddbhlanjfbaaGreatDoorEnC
import Derived.Test.YtooddbhlanjfbaaGreatDoorEnB
import Derived.Test.YtooddbhlanjfbaaGreatDoorUd
import Derived.Test.YtooddbhlanjfbaaGreatDoorUm
namespace Go.Proofs.YtooddbhlanjfbaaGreatDoor
open Go Go.RowKit Go.Shelf
set_option linter.unusedSimpArgs false
set_option linter.unusedVariables false

/-- What is marked in the end, whatever the order. -/
inductive UpC (P : Int → List Int) (c : Col) : Int → Prop
  | ma {z : Int} : c.ma z = true → UpC P c z
  | pt {x y : Int} : UpC P c x → c.sc x = false → y ∈ P x → UpC P c y
theorem UpC.scan {P : Int → List Int} {c : Col} {x z : Int} (hx : c.ma x = true) (hs : c.sc x = false) (h : UpC P (c.scan P x) z) : UpC P c z := by
  induction h with
  | @ma z hz =>
    have hz2 : (c.ma z || decide (z ∈ P x)) = true := hz
    rcases Bool.or_eq_true_iff.1 hz2 with e | e
    · exact .ma e
    · exact .pt (.ma hx) hs (of_decide_eq_true e)
  | @pt u y _ h2 h3 ih =>
    have h4 : updI c.sc x true u = false := h2
    by_cases e : u = x
    · rw [e, updI_at] at h4; cases h4
    · rw [updI_ne e] at h4; exact .pt ih h4 h3
theorem Scans.sub {P : Int → List Int} {c c' : Col} {l : List Int} (h : Scans P c l c') : ∀ z, c'.ma z = true → UpC P c z := by
  induction h with
  | nil c => exact fun z hz => .ma hz
  | cons h1 h2 _ ih => exact fun z hz => (ih z hz).scan h1 h2
theorem Scans.told {P : Int → List Int} {c c' : Col} {l : List Int} (h : Scans P c l c') : ∀ x ∈ l, ∀ y ∈ P x, c'.ma y = true := by
  induction h with
  | nil c => intro x hx; cases hx
  | @cons c0 c1 x0 l0 h1 h2 h3 ih =>
    intro x hx y hy
    rcases List.mem_cons.1 hx with e | e
    · subst e
      refine h3.once.2.2 y ?_
      show (c0.ma y || decide (y ∈ P x)) = true
      rw [decide_eq_true hy]; simp
    · exact ih x e y hy
theorem Scans.sup {P : Int → List Int} {c c' : Col} {l : List Int} (h : Scans P c l c') (hd : c'.dry) {z : Int} (hz : UpC P c z) : c'.ma z = true := by
  induction hz with
  | ma h1 => exact h.once.2.2 _ h1
  | @pt x y _ h2 h3 ih =>
    rcases (h.sc_iff x).1 (hd x ih) with e | e
    · rw [h2] at e; cases e
    · exact h.told x e y h3
theorem Scans.in_iff {P : Int → List Int} {c c' : Col} {l : List Int} (h : Scans P c l c') (hd : c'.dry) (z : Int) : z ∈ l ↔ UpC P c z ∧ c.sc z = false := by
  constructor
  · intro hz
    obtain ⟨h1, h2⟩ := h.once.2.1 z hz
    exact ⟨h.sub z h2, h1⟩
  · rintro ⟨h1, h2⟩
    rcases (h.sc_iff z).1 (hd z (h.sup hd h1)) with e | e
    · rw [h2] at e; cases e
    · exact e
/-- All orders end alike. -/
theorem Scans.same {P : Int → List Int} {c c1 c2 : Col} {l1 l2 : List Int} (h1 : Scans P c l1 c1) (d1 : c1.dry) (h2 : Scans P c l2 c2) (d2 : c2.dry) : l1.length = l2.length ∧ c1.ma = c2.ma ∧ c1.sc = c2.sc := by
  refine ⟨same_length h1.once.1 h2.once.1 fun z => (h1.in_iff d1 z).trans (h2.in_iff d2 z).symm, ?_, ?_⟩
  · funext z
    rw [Bool.eq_iff_iff]
    exact ⟨fun h => h2.sup d2 (h1.sub z h), fun h => h1.sup d1 (h2.sub z h)⟩
  · funext z
    rw [Bool.eq_iff_iff, h1.sc_iff, h2.sc_iff, h1.in_iff d1, h2.in_iff d2]

structure En2 (e B mb n : Nat) (X : ArB) (s : ArS) (obs : List Ob) (vl : Value) (f : Int → Value) (adj : Int → List Int) (E : Nat → Prop) (room : Nat) (T : MkB) (c : Col) (H : Nat → Prop) (bt tm : Nat) (σ : EnS) (T2 : MkB) (c2 : Col) (H2 : Nat → Prop) (bt2 tm2 : Nat) (σ2 : EnS) (wb wr : World) : Prop where
  a : EnIn e B mb n X s obs vl f adj (fun k => E k ∨ T2.has k ∨ H2 k) T c H bt tm room σ wb wr
  b : EnIn e B mb n X s obs vl f adj (fun k => E k ∨ T.has k ∨ H k) T2 c2 H2 bt2 tm2 room σ2 wb wr
section
variable {e B mb n room bt tm bt2 tm2 : Nat} {X : ArB} {s : ArS} {obs : List Ob} {vl : Value} {f : Int → Value} {adj : Int → List Int} {E E' H H' H2 : Nat → Prop} {T T' T2 : MkB} {c c' c2 : Col} {σ σ' σ2 : EnS} {wb wr w' : World}
theorem En2.symm (h : En2 e B mb n X s obs vl f adj E room T c H bt tm σ T2 c2 H2 bt2 tm2 σ2 wb wr) : En2 e B mb n X s obs vl f adj E room T2 c2 H2 bt2 tm2 σ2 T c H bt tm σ wb wr := ⟨h.b, h.a⟩
theorem En2.ask (h : En2 e B mb n X s obs vl f adj E room T c H bt tm σ T2 c2 H2 bt2 tm2 σ2 wb wr) (hB : Below wr.heap.size wr w') : En2 e B mb n X s obs vl f adj E room T c H bt tm σ T2 c2 H2 bt2 tm2 σ2 wb w' := ⟨h.a.ask hB, h.b.ask hB⟩
theorem En2.watch (h : En2 e B mb n X s obs vl f adj E room T c H bt tm σ T2 c2 H2 bt2 tm2 σ2 wb wr) (hB : Below wr.heap.size wr w') (hE : ∀ k, E' k → E k ∨ (wr.heap.size ≤ k ∧ k < w'.heap.size)) : En2 e B mb n X s obs vl f adj E' room T c H bt tm σ T2 c2 H2 bt2 tm2 σ2 wb w' :=
  ⟨h.a.watch hB fun k e => by
    rcases e with e | e
    · rcases hE k e with e2 | e2
      · exact .inl (.inl e2)
      · exact .inr e2
    · exact .inl (.inr e), h.b.watch hB fun k e => by
    rcases e with e | e
    · rcases hE k e with e2 | e2
      · exact .inl (.inl e2)
      · exact .inr e2
    · exact .inl (.inr e)⟩
theorem En2.box (h : En2 e B mb n X s obs vl f adj E room T c H bt tm σ T2 c2 H2 bt2 tm2 σ2 wb wr) (o : Obj) : En2 e B mb n X s obs vl f adj (fun k => E k ∨ k = wr.heap.size) room T c H bt tm σ T2 c2 H2 bt2 tm2 σ2 wb (wr.alloc o) :=
  h.watch ((Below.refl _ wr).alloc (Nat.le_refl _) _) fun k e => by
    rcases e with e | e
    · exact .inl e
    · exact .inr ⟨by omega, by simp; omega⟩
theorem En2.less (h : En2 e B mb n X s obs vl f adj E room T c H bt tm σ T2 c2 H2 bt2 tm2 σ2 wb wr) (hE : ∀ k, E' k → E k) : En2 e B mb n X s obs vl f adj E' room T c H bt tm σ T2 c2 H2 bt2 tm2 σ2 wb wr :=
  ⟨h.a.less fun k e => e.imp (hE k) id, h.b.less fun k e => e.imp (hE k) id⟩
/-- One of the two was asked for something. -/
theorem En2.stepA (h : En2 e B mb n X s obs vl f adj E room T c H bt tm σ T2 c2 H2 bt2 tm2 σ2 wb wr) (ha : EnIn e B mb n X s obs vl f adj (fun k => E k ∨ T2.has k ∨ H2 k) T' c' H' bt tm room σ' wb w') (hk : ∀ k, (E k ∨ T2.has k ∨ H2 k) → w'.heap[k]? = wr.heap[k]?) :
    En2 e B mb n X s obs vl f adj E room T' c' H' bt tm σ' T2 c2 H2 bt2 tm2 σ2 wb w' := by
  refine ⟨ha, ⟨⟨ha.gm.go, h.b.gm.mt.keep fun k e => hk k (.inr (.inl e)), fun k e => ⟨(h.b.gm.own k e).1, (h.b.gm.own k e).2.1, fun e2 => ?_⟩, fun k e => ?_, h.b.gm.inn, h.b.gm.ex⟩, h.b.en.keep fun k e => hk k (.inr (.inr e)), h.b.tm, fun k e => ⟨(h.b.own k e).1, (h.b.own k e).2.1, fun e2 => ?_⟩⟩⟩
  · rcases e2 with (e2 | e2 | e2) | e2
    · exact (h.b.gm.own k e).2.2 (.inl (.inl e2))
    · exact (ha.gm.own k e2).2.2 (.inl (.inr (.inl e)))
    · exact (ha.own k e2).2.2 (.inr (.inl e))
    · exact (h.b.gm.own k e).2.2 (.inr e2)
  · rcases e with (e | e | e) | e
    · exact ha.gm.ext k (.inl (.inl e))
    · exact ha.gm.mt.lt k e
    · exact ha.gm.ext k (.inr e)
    · exact ha.gm.ext k (.inl (.inr (.inr e)))
  · rcases e2 with e2 | e2 | e2
    · exact (h.b.own k e).2.2 (.inl e2)
    · exact (ha.gm.own k e2).2.2 (.inl (.inr (.inr e)))
    · exact (ha.own k e2).2.2 (.inr (.inr e))
theorem En2.stepB {T2' : MkB} {c2' : Col} {H2' : Nat → Prop} {σ2' : EnS} (h : En2 e B mb n X s obs vl f adj E room T c H bt tm σ T2 c2 H2 bt2 tm2 σ2 wb wr) (hb : EnIn e B mb n X s obs vl f adj (fun k => E k ∨ T.has k ∨ H k) T2' c2' H2' bt2 tm2 room σ2' wb w') (hk : ∀ k, (E k ∨ T.has k ∨ H k) → w'.heap[k]? = wr.heap[k]?) :
    En2 e B mb n X s obs vl f adj E room T c H bt tm σ T2' c2' H2' bt2 tm2 σ2' wb w' := (h.symm.stepA hb hk).symm
/-- A marker and a barrier beside another marker: then the other one's barrier. -/
theorem En2.made (ha : EnIn e B mb n X s obs vl f adj (fun k => E k ∨ T2.has k) T c H bt tm room σ wb wr) (hb : EnIn e B mb n X s obs vl f adj (fun k => E k ∨ T.has k ∨ H k) T2 c2 H2 bt2 tm2 room σ2 wb w') (hB : Below wr.heap.size wr w') :
    En2 e B mb n X s obs vl f adj E room T c H bt tm σ T2 c2 H2 bt2 tm2 σ2 wb w' :=
  ⟨(ha.ask hB).reE fun k e => by
    rcases e with e | e | e
    · exact ⟨fun e2 => (ha.gm.own k e2).2.2 (.inl (.inl e)), fun e2 => (ha.own k e2).2.2 (.inl e), (ha.ask hB).gm.ext k (.inl (.inl e))⟩
    · exact ⟨fun e2 => (hb.gm.own k e).2.2 (.inl (.inr (.inl e2))), fun e2 => (hb.gm.own k e).2.2 (.inl (.inr (.inr e2))), hb.gm.mt.lt k e⟩
    · exact ⟨fun e2 => (hb.own k e).2.2 (.inr (.inl e2)), fun e2 => (hb.own k e).2.2 (.inr (.inr e2)), hb.en.lt k e⟩, hb⟩
/-- Two markers of one arena, whatever is read between. -/
theorem gm2_newC (h : GoIn B mb n X s obs vl f adj wb wr) (hP : s.P = 64) (r : Int) (hE : ∀ k, E k → k < wr.heap.size) (hr : r ≤ 4096) (hD : TabAt wb) (hDB : 1 < B) : Calls Tryz.prog 12 #[.pointer (some ⟨X.a, 0, none⟩), .int .i64 r] wr fun e w1 =>
    ∃ T : MkB, e = .returned (.pointer (some ⟨T.m, 0, none⟩)) ∧ Below wr.heap.size wr w1 ∧ Calls Tryz.prog 12 #[.pointer (some ⟨X.a, 0, none⟩), .int .i64 r] w1 fun e w' =>
      ∃ T2 : MkB, e = .returned (.pointer (some ⟨T2.m, 0, none⟩)) ∧ Below w1.heap.size w1 w' ∧ Gm2 B mb n X s obs vl f adj E T Col.white T2 Col.white wb w' := by
  refine (gm_new (E := E) h hP r hE hr hD hDB).mono ?_
  rintro e w1 ⟨T, rfl, h1, hB1⟩
  refine ⟨T, rfl, hB1, ?_⟩
  refine (gm_new (E := fun k => E k ∨ T.has k) h1.go hP r (fun k e => by
    rcases e with e | e
    · exact h1.ext k e
    · exact h1.mt.lt k e) hr hD hDB).mono ?_
  rintro e w2 ⟨T2, rfl, h2, hB2⟩
  have h1' := h1.ask hB2
  exact ⟨T2, rfl, hB2, ⟨⟨h1'.go, h1'.mt, fun k e => ⟨(h1'.own k e).1, (h1'.own k e).2.1, fun e2 => by
    rcases e2 with e2 | e2
    · exact (h1'.own k e).2.2 e2
    · exact (h2.own k e2).2.2 (.inr e)⟩, fun k e => by
    rcases e with e | e
    · exact h1'.ext k e
    · exact h2.mt.lt k e, h1'.inn, h1'.ex⟩, h2⟩⟩
/-- One of the two finishes, over a box that is laid for it. -/
theorem En2.finish (h : En2 e B mb n X s obs vl f adj (fun _ => False) room T c H bt tm σ T2 c2 H2 bt2 tm2 σ2 wb wr) (he : e ≤ 3) (hcl : Closed obs) (hol : obs.length ≤ 4096) {v : Value} (R : List Int) (hR : RefRow wr v R) (hv : ∀ k, v.ownBlock = some k → vl.ownBlock = some k) (hin : ∀ x ∈ R, x ∈ refsI obs) {V : World} (hV : wr.alloc (.cells #[v] 33) = V) :
    Calls Tryz.prog 20 #[enV e bt, .pointer (some ⟨tm, 0, none⟩), .func (.func 53) #[] #[.pointer (some ⟨wr.heap.size, 0, none⟩)]] V fun en w' =>
      ∃ (T' : MkB) (H' : Nat → Prop) (l : List Int) (c3 : Col), en = .returned (.int .i64 (l.length : Int)) ∧ Scans (ptsAt obs) (remC e (if e = 2 then c else c.shades R) σ) l c3 ∧ c3.dry ∧
        En2 e B mb n X s obs vl f adj (fun _ => False) room T' c3 H' bt tm (remS e σ) T2 c2 H2 bt2 tm2 σ2 wb w' := by
  subst hV
  have h7 := h.box (.cells #[v] 33)
  have hB := (Below.refl wr.heap.size wr).alloc (Nat.le_refl _) (.cells #[v] 33)
  have hR7 : RefRow (wr.alloc (.cells #[v] 33)) v R := hR.keepG fun k e => hB.block k (hR.lt e)
  refine (en_finish h7.a he hcl hol R hR7 ((Blk.new wr _ _).cell 0) (.inl (.inr rfl)) (fun k e => .inr (.inr (.inl (hv k e)))) hin).mono ?_
  rintro en w' ⟨T', H', l, c3, rfl, hsc, hd, h9, hk9⟩
  exact ⟨T', H', l, c3, rfl, hsc, hd, (h7.stepA h9 hk9).less (fun _ h => h.elim)⟩
end
end Go.Proofs.YtooddbhlanjfbaaGreatDoor
