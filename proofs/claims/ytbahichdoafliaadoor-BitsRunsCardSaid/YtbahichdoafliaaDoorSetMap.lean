/- A set and a map that the call made beside each other; at this seat's numbers. -/
import Derived.Test.YtbahichdoafliaaDoorBitsU
import Derived.Test.YtbahichdoafliaaDoorMap
namespace Go.Proofs.YtbahichdoafliaaDoor
open Go.RowKit Go.Shelf Go.MuLone Go.RwLone Go.Maps

structure SetMap (B a : Nat) (la : Option Nat) (m mb cnt : Nat) (f : Int → Int) (wb wr : World) (S : Nat → Bool) : Prop where
  one : SetAt wr a la m S
  own : OwnSet B a la
  map : MapAt wr mb cnt f
  ne : mb ≠ a
  nl : la ≠ some mb
  bm : B ≤ mb
  below : Below B wb wr
  base : B ≤ wb.heap.size

variable {B a m mb cnt : Nat} {la : Option Nat} {f : Int → Int} {wb wr w' : World} {S S' : Nat → Bool} {e : Ending}

theorem SetMap.drew (h : SetMap B a la m mb cnt f wb wr S) : SetMap B a la m mb cnt f wb wr.drew S :=
  ⟨h.one, h.own, h.map.turn ((Turn.refl (fun _ => False) wr).drew) (fun h => h), h.ne, h.nl, h.bm, h.below.drew, h.base⟩

theorem SetMap.after (h : SetMap B a la m mb cnt f wb wr S) {lo' : Option Nat} (hA' : SetAt w' a lo' m S') (hlo : lo' = la ∨ la = none ∧ ∃ l, lo' = some l ∧ wr.heap.size ≤ l) (hT : Turn (fun k => k = a ∨ la = some k) wr w') :
    SetMap B a lo' m mb cnt f wb w' S' := by
  obtain ⟨h1, h2, _, _⟩ := turn_opens hlo hT h.own (Nat.le_trans h.base h.below.size)
  have hmlt : mb < wr.heap.size := by
    obtain ⟨o, ho, _⟩ := h.map.block
    exact (Array.getElem?_eq_some_iff.1 ho).1
  refine ⟨hA', h1, h.map.turn hT ?_, h.ne, ?_, h.bm, h.below.trans h2, h.base⟩
  · rintro (e | e)
    · exact h.ne e
    · exact h.nl e
  · rcases hlo with e | ⟨_, l', e, hle⟩
    · rw [e]; exact h.nl
    · rw [e]; intro hh; cases hh; omega

theorem SetMap.turn {r : Bool} (h : SetMap B a la m mb cnt f wb wr S) (hP : TurnPost a la m r S' wr e w') :
    e = .returned (.bool r) ∧ ∃ la', SetMap B a la' m mb cnt f wb w' S' := by
  obtain ⟨lo', he, hA', hlo, hT⟩ := hP
  exact ⟨he, lo', h.after hA' hlo hT⟩
theorem SetMap.ask {r : Int} (h : SetMap B a la m mb cnt f wb wr S) (hP : AskPost a la m r S wr e w') :
    e = .returned (.int .i64 r) ∧ SetMap B a la m mb cnt f wb w' S := by
  obtain ⟨he, hA', hT⟩ := hP
  exact ⟨he, h.after hA' (.inl rfl) (hT.mono fun k _ hk => .inl hk)⟩

theorem SetMap.put (h : SetMap B a la m mb cnt f wb wr S) (x : Int) : Calls Tryd.prog 12 #[.pointer (some ⟨a, 0, none⟩), .int .i64 x] wr fun e w' =>
    e = .returned (.bool (may m x && !S x.toNat)) ∧ ∃ la', SetMap B a la' m mb cnt f wb w' (putS m S x) :=
  (put_x a la m S x wr h.one).mono fun _ _ hP => h.turn hP
theorem SetMap.drop (h : SetMap B a la m mb cnt f wb wr S) (x : Int) : Calls Tryd.prog 11 #[.pointer (some ⟨a, 0, none⟩), .int .i64 x] wr fun e w' =>
    e = .returned (.bool (may m x && S x.toNat)) ∧ ∃ la', SetMap B a la' m mb cnt f wb w' (dropS S x) :=
  (drop_x a la m S x wr h.one).mono fun _ _ hP => h.turn hP

theorem SetMap.kept {row : Option Nat} {cnt' : Nat} {f' : Int → Int} (h : SetMap B a la m mb cnt f wb wr S) (hg : wr.grownBy w' row) (hrow : ∀ r, row = some r → B ≤ r ∧ ∃ o : Obj, wr.heap[r]? = some o ∧ o.isCells = false) (hM : MapAt w' mb cnt' f') : SetMap B a la m mb cnt' f' wb w' S :=
  ⟨h.one.kept hg fun r e => (hrow r e).2, h.own, hM, h.ne, h.nl, h.bm, h.below.grown hg (Nat.le_trans h.base h.below.size) (fun k e => (hrow k e).1), h.base⟩

theorem SetMap.store (h : SetMap B a la m mb cnt f wb wr S) (hn : cnt < 9223372036854775807) (x v : Int) (hx : (Lit.int .i64 x).wf = true) (hv : (Lit.int .i64 v).wf = true) :
    ∃ w', (Instr.mapUpdate 28 (.map (some mb)) (.int .i64 x) (.int .i64 v)).run Tryd.prog wr = .ok () w' ∧ SetMap B a la m mb (cnt + 1) (fun y => if y = x then v else f y) wb w' S := by
  obtain ⟨w', h1, h2, h3⟩ := h.map.store hn x v hx hv
  exact ⟨w', h1, h.kept h3 (fun r e => by cases e; exact ⟨h.bm, h.map.block⟩) h2⟩
end Go.Proofs.YtbahichdoafliaaDoor
