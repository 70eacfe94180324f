/- Two sets beside each other, and a box; at this seat's numbers. -/
import Derived.Test.YtbahichdoafliaaDoorBitsS
namespace Go.Proofs.YtbahichdoafliaaDoor
open Go.RowKit Go.Shelf Go.MuLone Go.RwLone

theorem turn_opens {b : Nat} {lo lo' : Option Nat} {w w' : World} (hlo : lo' = lo ∨ lo = none ∧ ∃ l, lo' = some l ∧ w.heap.size ≤ l) (hT : Turn (fun k => k = b ∨ lo = some k) w w') {B : Nat} (ho : OwnSet B b lo) (hB : B ≤ w.heap.size) :
    OwnSet B b lo' ∧ Below B w w' ∧ (∀ b2 lo2 n2 S2, SetAt w b2 lo2 n2 S2 → Sep b lo b2 lo2 → SetAt w' b2 lo2 n2 S2 ∧ Sep b lo' b2 lo2) ∧
      ∀ x cs T, Blk w x cs T → x ≠ b → lo ≠ some x → Blk w' x cs T ∧ lo' ≠ some x := by
  refine ⟨⟨ho.1, fun l hl => ?_⟩, hT.below B hB (fun k hk hm => ?_), fun b2 lo2 n2 S2 h2 hs => ⟨?_, ?_⟩, fun x cs T hX h1 h2 => ⟨hX.turn hT (fun hm => ?_), fun hl => ?_⟩⟩
  · rcases hlo with e | ⟨_, l', e, hle⟩
    · exact ho.2 l (by rw [← e]; exact hl)
    · rw [e] at hl; cases hl; omega
  · rcases hm with e | e
    · have := ho.1; omega
    · have := ho.2 k e; omega
  · refine h2.turn hT (fun hm => ?_) (fun l hl hm => ?_)
    · rcases hm with e | e
      · exact hs.1 e.symm
      · exact hs.2.1 _ e rfl
    · rcases hm with e | e
      · exact hs.2.2.1 l hl e
      · exact hs.2.2.2 l e hl
  · rcases hlo with e | ⟨e0, l', e, hle⟩
    · rw [e]; exact hs
    · have hlt := h2.lt
      refine ⟨hs.1, fun l hl => ?_, hs.2.2.1, fun l hl hl2 => ?_⟩
      · rw [e] at hl; cases hl; omega
      · rw [e] at hl; cases hl; have := hlt.2 _ hl2; omega
  · rcases hm with e | e
    · exact h1 e
    · exact h2 e
  · rcases hlo with e | ⟨_, l', e, hle⟩
    · rw [e] at hl; exact h2 hl
    · rw [e] at hl; cases hl; have := hX.lt; omega

/-- Two sets that share nothing, and a box beside them. -/
structure TwoIn (B : Nat) (a : Nat) (la : Option Nat) (b : Nat) (lb : Option Nat) (m tb : Nat) (cs : Array Value) (T : TypeId) (wb wr : World) (S1 S2 : Nat → Bool) : Prop where
  one : SetAt wr a la m S1
  two : SetAt wr b lb m S2
  own1 : OwnSet B a la
  own2 : OwnSet B b lb
  sep : Sep a la b lb
  below : Below B wb wr
  base : B ≤ wb.heap.size
  box : Blk wr tb cs T
  ne1 : tb ≠ a
  nl1 : la ≠ some tb
  ne2 : tb ≠ b
  nl2 : lb ≠ some tb

variable {B a b m tb : Nat} {la lb : Option Nat} {cs : Array Value} {T : TypeId} {wb wr w' : World} {S1 S2 S1' : Nat → Bool} {e : Ending}

theorem TwoIn.symm (h : TwoIn B a la b lb m tb cs T wb wr S1 S2) : TwoIn B b lb a la m tb cs T wb wr S2 S1 :=
  ⟨h.two, h.one, h.own2, h.own1, h.sep.symm, h.below, h.base, h.box, h.ne2, h.nl2, h.ne1, h.nl1⟩

theorem TwoIn.after (h : TwoIn B a la b lb m tb cs T wb wr S1 S2) {lo' : Option Nat} (hA' : SetAt w' a lo' m S1') (hlo : lo' = la ∨ la = none ∧ ∃ l, lo' = some l ∧ wr.heap.size ≤ l) (hT : Turn (fun k => k = a ∨ la = some k) wr w') :
    TwoIn B a lo' b lb m tb cs T wb w' S1' S2 := by
  obtain ⟨h1, h2, h3, h4⟩ := turn_opens hlo hT h.own1 (Nat.le_trans h.base h.below.size)
  obtain ⟨h5, h6⟩ := h3 _ _ _ _ h.two h.sep
  obtain ⟨h7, h8⟩ := h4 _ _ _ h.box h.ne1 h.nl1
  exact ⟨hA', h5, h1, h.own2, h6, h.below.trans h2, h.base, h7, h.ne1, h8, h.ne2, h.nl2⟩

theorem TwoIn.turnA {r : Bool} (h : TwoIn B a la b lb m tb cs T wb wr S1 S2) (hP : TurnPost a la m r S1' wr e w') :
    e = .returned (.bool r) ∧ ∃ la', TwoIn B a la' b lb m tb cs T wb w' S1' S2 := by
  obtain ⟨lo', he, hA', hlo, hT⟩ := hP
  exact ⟨he, lo', h.after hA' hlo hT⟩
theorem TwoIn.askA {r : Int} (h : TwoIn B a la b lb m tb cs T wb wr S1 S2) (hP : AskPost a la m r S1 wr e w') :
    e = .returned (.int .i64 r) ∧ TwoIn B a la b lb m tb cs T wb w' S1 S2 := by
  obtain ⟨he, hA', hT⟩ := hP
  exact ⟨he, h.after hA' (.inl rfl) (hT.mono fun k _ hk => .inl hk)⟩
theorem TwoIn.resetA (h : TwoIn B a la b lb m tb cs T wb wr S1 S2) (hP : ResetPost a la m wr e w') :
    e = .returned (.tuple #[]) ∧ TwoIn B a la b lb m tb cs T wb w' (fun _ => false) S2 := by
  obtain ⟨he, hA', hT⟩ := hP
  exact ⟨he, h.after hA' (.inl rfl) hT⟩

theorem TwoIn.putA (h : TwoIn B a la b lb m tb cs T wb wr S1 S2) (x : Int) : Calls Tryd.prog 12 #[.pointer (some ⟨a, 0, none⟩), .int .i64 x] wr fun e w' =>
    e = .returned (.bool (may m x && !S1 x.toNat)) ∧ ∃ la', TwoIn B a la' b lb m tb cs T wb w' (putS m S1 x) S2 :=
  (put_x a la m S1 x wr h.one).mono fun _ _ hP => h.turnA hP
theorem TwoIn.putB (h : TwoIn B a la b lb m tb cs T wb wr S1 S2) (x : Int) : Calls Tryd.prog 12 #[.pointer (some ⟨b, 0, none⟩), .int .i64 x] wr fun e w' =>
    e = .returned (.bool (may m x && !S2 x.toNat)) ∧ ∃ lb', TwoIn B a la b lb' m tb cs T wb w' S1 (putS m S2 x) :=
  (h.symm.putA x).mono fun _ _ ⟨he, l, hk⟩ => ⟨he, l, hk.symm⟩
theorem TwoIn.countA (h : TwoIn B a la b lb m tb cs T wb wr S1 S2) : Calls Tryd.prog 13 #[.pointer (some ⟨a, 0, none⟩)] wr fun e w' =>
    e = .returned (.int .i64 (card S1)) ∧ TwoIn B a la b lb m tb cs T wb w' S1 S2 :=
  (count_any a la m S1 wr h.one).mono fun _ _ hP => h.askA hP
theorem TwoIn.countB (h : TwoIn B a la b lb m tb cs T wb wr S1 S2) : Calls Tryd.prog 13 #[.pointer (some ⟨b, 0, none⟩)] wr fun e w' =>
    e = .returned (.int .i64 (card S2)) ∧ TwoIn B a la b lb m tb cs T wb w' S1 S2 :=
  h.symm.countA.mono fun _ _ ⟨he, hk⟩ => ⟨he, hk.symm⟩
theorem TwoIn.reset (h : TwoIn B a la b lb m tb cs T wb wr S1 S2) : Calls Tryd.prog 10 #[.pointer (some ⟨a, 0, none⟩)] wr fun e w' =>
    e = .returned (.tuple #[]) ∧ TwoIn B a la b lb m tb cs T wb w' (fun _ => false) S2 :=
  (reset_any a la m S1 wr h.one).mono fun _ _ hP => h.resetA hP

/-- A drop from the second set, in a round over the first one. -/
theorem TwoIn.dropB (h : TwoIn B a la b lb m tb cs T wb wr S1 S2) (x : Int) (X : Nat) (hX : X < wr.heap.size) (hXb : X ≠ b) (hXl : lb ≠ some X) (hg : (0 : Nat) < B) :
    Calls Tryd.prog 11 #[.pointer (some ⟨b, 0, none⟩), .int .i64 x] wr fun e w' =>
      e = .returned (.bool (may m x && S2 x.toNat)) ∧ (∃ lb', TwoIn B a la b lb' m tb cs T wb w' S1 (dropS S2 x) ∧ lb' ≠ some X) ∧ KeepsOthers wr w' ∧ KpSet a la X wr w' := by
  refine (drop_x b lb m S2 x wr h.two).mono fun e w' hP => ?_
  obtain ⟨lo', he, hA', hlo, hT⟩ := hP
  have hla := h.one.lt
  refine ⟨he, ⟨lo', (h.symm.after hA' hlo hT).symm, ?_⟩, h.two.others hT, hT.block a hla.1 ?_, fun l hl => hT.block l (hla.2 l hl) ?_, hT.block X hX ?_, hT.block _ (Nat.lt_of_lt_of_le hg (Nat.le_trans h.base h.below.size)) ?_⟩
  · rcases hlo with e | ⟨_, l', e, hle⟩
    · rw [e]; exact hXl
    · rw [e]; intro h; cases h; omega
  · rintro (e | e)
    · exact h.sep.1 e
    · exact h.sep.2.2.1 _ e rfl
  · rintro (e | e)
    · exact h.sep.2.1 l hl e
    · exact h.sep.2.2.2 l hl e
  · rintro (e | e)
    · exact hXb e
    · exact hXl e
  · rintro (e | e)
    · have := h.own2.1; omega
    · have := h.own2.2 _ e; omega

theorem TwoIn.kept {row : Option Nat} (h : TwoIn B a la b lb m tb cs T wb wr S1 S2) (hg : wr.grownBy w' row) (hrow : ∀ r, row = some r → B ≤ r ∧ ∃ o : Obj, wr.heap[r]? = some o ∧ o.isCells = false) : TwoIn B a la b lb m tb cs T wb w' S1 S2 :=
  ⟨h.one.kept hg fun r e => (hrow r e).2, h.two.kept hg fun r e => (hrow r e).2, h.own1, h.own2, h.sep, h.below.grown hg (Nat.le_trans h.base h.below.size) (fun k e => (hrow k e).1), h.base, h.box.kept hg fun r e => (hrow r e).2, h.ne1, h.nl1, h.ne2, h.nl2⟩
end Go.Proofs.YtbahichdoafliaaDoor
