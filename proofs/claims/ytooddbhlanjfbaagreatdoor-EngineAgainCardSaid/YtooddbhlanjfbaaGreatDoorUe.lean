/- Plain: a range over an iterator that changes something as it comes to an element (Arr), and whose rounds may change what depends on the element (Kp x). It speaks of no program's text. Plain: a range over an iterator that lays blocks of its own and hands each element on; rounds that own blocks; a range within a round. It speaks of no program's text. Plain: XRanE's range, where a round is told of its loop's record: for a range within a round. It speaks of no program's text. All's iterator, where rounds may change the set at, or below, what they are told; at this seat's numbers. Take: the iterator over a table's dirty pages, each clean as it is told; at this seat's numbers. Cells' iterator, each element known to be taken; at this seat's numbers. -/
import Derived.Test.YtooddbhlanjfbaaGreatDoorRange
import Derived.Test.YtooddbhlanjfbaaGreatDoorUa
import Derived.RangeFuncFrom
import Derived.RangeFuncNested
import Derived.RangeFuncBound
import Derived.Test.YtooddbhlanjfbaaGreatDoorUb
import Derived.Lib.Hide
import Derived.Test.YtooddbhlanjfbaaGreatDoorCdA
import Derived.Test.YtooddbhlanjfbaaGreatDoorUc
namespace Go.Proofs.YtooddbhlanjfbaaGreatDoor
open Go Go.RowKit

/-- As SeqO; Arr: what the iterator does ahead of telling an element; Jm: what holds as it is told. -/
def SeqE {α : Type} (F : Fence) (n : Nat) (P : Program) (g : Nat) (lb : Array Value) (encs : α → Array Value) (Kp Arr : α → World → World → Prop) (S Sp : List α → Prop) (N : Nat) (w : World) : Prop :=
  ∀ (l : Nat) (J Jx : List α × (Nat → Prop) → World → Prop) (Jm : (List α × (Nat → Prop)) × α → World → Prop) (W : World), Below w.heap.size w W → OwnFrom W.heap.size J → OwnFrom W.heap.size Jm → OwnFrom W.heap.size Jx →
    (∀ pre O (x : α) A C, J (pre, O) A → Arr x A C → Jm ((pre, O), x) C) →
    (∀ pre O (x : α) W1, Jm ((pre, O), x) W1 → pre.length < N → YieldAt F (n - 1) P l (encs x) W1 fun e W' => ∃ O', Owned W.heap.size O O' W1 W' ∧
      ((e = .returned (.bool true) ∧ J (pre ++ [x], O') W' ∧ Kp x W1 W') ∨ (e = .returned (.bool false) ∧ Jx (pre ++ [x], O') W'))) →
    J ([], fun _ => False) W →
    CallsIn F n P g (#[.func (.yield l) #[] #[]] ++ lb) W fun e W' => (∃ v, e = .returned v) ∧ ((∃ xs O, S xs ∧ J (xs, O) W') ∨ (∃ pre O, Sp pre ∧ Jx (pre, O) W'))

section
variable {F : Fence} {n : Nat} {P : Program} {α : Type}

/-- A range over such an iterator. -/
theorem wpIn_rangeE {g : Operand} {ps : Array Tmp} {assign body : Code} {Q : Exit → Act → World → Prop} {a : Act} {w : World} (hro : F.round = none) (h1 : 1 ≤ n) {gf : Nat} {lb : Array Value} (hg : a.eval g = .func (.func gf) #[] lb) (hFg : F.fn gf)
    (eg : ∀ args w, (callFunc gf args).run P w = .ok (.enter gf args) w) {encs : α → Array Value} {Kp Arr : α → World → World → Prop} {S Sp : List α → Prop} {N : Nat} {w0 : World} (hseq : SeqE F (n - 1) P gf lb encs Kp Arr S Sp N w0)
    (hKt : ∀ {x : α} {A B C : World}, Kp x A B → Kp x B C → Kp x A C) (hKb : ∀ (x : α) (W : World) (l : Nat) (o : Obj), w.heap.size ≤ l → Kp x W (W.putObj l o))
    (hAo : ∀ (x : α) (A C : World), Arr x A C → A.heap.size ≤ C.heap.size ∧ ∀ k, w.heap.size ≤ k → k < A.heap.size → C.heap[k]? = A.heap[k]?) (hb0 : Below w0.heap.size w0 w) (hps : ∀ x, (encs x).size = ps.size)
    (I : List α × (Nat → Prop) → World → Prop) (Im : (List α × (Nat → Prop)) × α → World → Prop) (Ix : Code → List α × (Nat → Prop) → World → Prop) (hI : OwnFrom w.heap.size I) (hIm : OwnFrom w.heap.size Im) (hIx : ∀ c, OwnFrom w.heap.size (Ix c))
    (hArr : ∀ pre O (x : α) A C, I (pre, O) A → Arr x A C → Im ((pre, O), x) C) (h0 : I ([], fun _ => False) w) (a₁ : α → Act)
    (hassign : ∀ (l : Nat) (x : α) (W : World) (K : Act → World → Prop), K (a₁ x) W →
      assign.wpIn (F.inRound l) (n - 1 - 1) P (Exit.then K (fun _ _ _ => False)) { tmps := (ps.zip (encs x)).foldl (fun t (p, v) => t.setIfInBounds p v) a.tmps, defers := [] } W)
    (hbody : ∀ (l : Nat) (pre : List α) (O : Nat → Prop) (x : α) (W : World), Im ((pre, O), x) W → pre.length < N → body.wpIn (F.inRound l) (n - 1 - 1) P (leftO w.heap.size (Kp x) I Ix O (pre ++ [x]) W) (a₁ x) W)
    (hdone : ∀ (D : Nat) (xs : List α) (O : Nat → Prop) (W : World), w.heap.size ≤ D → S xs → I (xs, O) W → W.heap[D]? = some (.deferred (some [])) → Q .normal { a with defers := { target := .collected D, args := #[] } :: a.defers } W)
    (hstop : ∀ (D : Nat) (c : Code) (pre : List α) (O : Nat → Prop) (W : World), w.heap.size ≤ D → Sp pre → Ix c (pre, O) W → W.heap[D]? = some (.deferred (some [])) → c.wpIn F n P Q { a with defers := { target := .collected D, args := #[] } :: a.defers } W) :
    (Code.rangeFunc g ps assign body).wpIn F n P Q a w := by
  obtain ⟨D, hD⟩ : ∃ D, D = w.heap.size := ⟨_, rfl⟩
  obtain ⟨l, hl⟩ : ∃ l, l = D + 1 := ⟨_, rfl⟩
  have hne : D ≠ l := by omega
  refine wpIn_rangeFunc fun fn hfn => ?_
  obtain ⟨r, hr⟩ : ∃ r : LoopState → Option Code → Loop, r = fun st pe => { state := st, pending := pe, fn, tmps := a.tmps, params := ps, assign, body, defers := D } := ⟨_, rfl⟩
  obtain ⟨V, hV⟩ : ∃ V, V = (w.alloc (.deferred (some []))).alloc (.loop (r .ready none)) := ⟨_, rfl⟩
  have hVs : V.heap.size = l + 1 := by rw [hV, hl, hD]; simp
  have hVb : Books l D (r .ready none) V := by
    rw [hV, hl, hD]
    refine ⟨?_, (Below.heap_alloc _ _ _ (by simp)).trans (World.alloc_heap_new w _)⟩
    have := World.alloc_heap_new (w.alloc (.deferred (some []))) (.loop (r .ready none))
    rwa [World.size_alloc] at this
  have hVI : I ([], fun _ => False) V := by rw [hV]; exact hI.alloc _ (hI.alloc _ h0)
  have hVw : Below w0.heap.size w0 V := by
    rw [hV]; exact (hb0.alloc hb0.size _).alloc (by have := hb0.size; simp; omega) _
  refine ⟨l, [{ target := .collected D, args := #[] }], V, { target := .fn (.func gf) lb, args := #[.func (.yield l) #[] #[]] }, V, gf, #[.func (.yield l) #[] #[]] ++ lb, V, ?_, ?_, ?_, ?_, fun _ => h1, ?_⟩
  · rw [hro, hV, hr, hl, hD]; exact run_enterLoop_outer _ _ _ _ _
  · simp only [resolve, hg]
    simp [go_sem]
  · intro f hf; simp [Target.leads] at hf; subst hf; exact hFg
  · simp [invoke, go_sem, eg]
  have far : ∀ {A : World} {row : Option Nat}, (∀ k, row = some k → V.heap.size ≤ k ∧ ∃ o : Obj, A.heap[k]? = some o ∧ o.isCells = false) → ∀ k, row = some k → w.heap.size ≤ k ∧ ∃ o : Obj, A.heap[k]? = some o ∧ o.isCells = false := fun h k e => by
    obtain ⟨h2, h3⟩ := h k e
    exact ⟨by omega, h3⟩
  refine (hseq l (fun s W => I s W ∧ Books l D (r .ready none) W ∧ ∀ k, s.2 k → l < k) (fun s W => (∃ c, Ix c s W ∧ Books l D (r .done (some c)) W)) (fun s W => Im s W ∧ Books l D (r .ready none) W ∧ ∀ k, s.1.2 k → l < k) V hVw ?_ ?_ ?_ ?_ ?_ ⟨hVI, hVb, fun _ h => h.elim⟩).mono ?_
  · exact fun s A B row h hg' hr' => ⟨hI s A B row h.1 hg' (far hr'), h.2.1.grown hg' (fun k e => (hr' k e).1) (by omega) (by omega), h.2.2⟩
  · exact fun s A B row h hg' hr' => ⟨hIm s A B row h.1 hg' (far hr'), h.2.1.grown hg' (fun k e => (hr' k e).1) (by omega) (by omega), h.2.2⟩
  · exact fun s A B row ⟨c, h, hb⟩ hg' hr' => ⟨c, hIx c s A B row h hg' (far hr'), hb.grown hg' (fun k e => (hr' k e).1) (by omega) (by omega)⟩
  · rintro pre O x A C ⟨hi, hb, hO⟩ hA
    obtain ⟨hs, hk⟩ := hAo x A C hA
    have h1 : l < A.heap.size := (Array.getElem?_eq_some_iff.1 hb.rec_).1
    exact ⟨hArr pre O x A C hi hA, ⟨(hk l (by omega) h1).trans hb.rec_, (hk D (by omega) (by omega)).trans hb.def_⟩, hO⟩
  · rintro pre O x W ⟨hi, hb, hO⟩ hlen
    have hsz : l < W.heap.size := (Array.getElem?_eq_some_iff.1 hb.rec_).1
    have hy := run_yield (P := P) (args := encs x) hb.rec_ (by rw [hr]; exact hps x)
    rw [hr] at hy
    refine ⟨fn, _, assign, body, hy, roundIn_of_wpIn hfn (hassign l x W _ ⟨_, run_beginRound hb.rec_ (by rw [hr]), ?_⟩)⟩
    obtain ⟨W1, hW1⟩ : ∃ W1, W1 = W.putObj l (.loop { r .ready none with state := .busy }) := ⟨_, rfl⟩
    rw [← hW1]
    have hb1 : Books l D { r .ready none with state := .busy } W1 := by rw [hW1]; exact hb.put hne
    have hi1 : Im ((pre, O), x) W1 := by rw [hW1]; exact hIm.putObj _ hi (by omega) hb.rec_ rfl
    have ho1 : Owned V.heap.size O O W W1 := by rw [hW1]; exact put_owned _ (by omega)
    have hk1 : Kp x W W1 := by rw [hW1]; exact hKb _ _ _ _ (by omega)
    have nl : ¬ O l := fun e => by have := hO _ e; omega
    have nD : ¬ O D := fun e => by have := hO _ e; omega
    have fin : ∀ (jump : Option Code) (O' : Nat → Prop) (W3 : World), Owned w.heap.size O O' W1 W3 → Books l D { r .ready none with state := .busy } W3 ∧ (Instr.endRound l jump).run P W3 = .ok (.bool jump.isNone) (W3.putObj l (.loop (r (if jump.isNone then .ready else .done) jump))) ∧
        Books l D (r (if jump.isNone then .ready else .done) jump) (W3.putObj l (.loop (r (if jump.isNone then .ready else .done) jump))) ∧ Owned V.heap.size O O' W (W3.putObj l (.loop (r (if jump.isNone then .ready else .done) jump))) ∧ ∀ k, O' k → l < k := fun jump O' W3 ho => by
      have hb3 := hb1.owned ho (by omega) (by omega) nl nD
      have he := run_endRound (P := P) jump hb3.rec_
      refine ⟨hb3, ?_, hb3.put hne, (ho1.trans (ho.mono (by omega))).trans (put_owned _ (by omega)), fun k hk => ?_⟩
      · rw [hr] at he ⊢; exact he
      · rcases ho.own k hk with y | y
        · exact hO k y
        · have := ho1.size; omega
    refine wpIn_mono (hbody l pre O x W1 hi1 hlen) ?_
    rintro e a3 W3 hp
    cases e with
    | normal =>
      obtain ⟨O', ho, hk, hi3⟩ := hp
      obtain ⟨hb3, he, hb4, ho4, hO4⟩ := fin none O' W3 ho
      exact ⟨_, _, he, O', ho4, .inl ⟨rfl, ⟨hI.putObj _ hi3 (by omega) hb3.rec_ rfl, hb4, hO4⟩, hKt (hKt hk1 hk) (hKb _ _ _ _ (by omega))⟩⟩
    | ret =>
      obtain ⟨O', ho, hi3⟩ := hp
      obtain ⟨hb3, he, hb4, ho4, hO4⟩ := fin (some .ret) O' W3 ho
      exact ⟨_, _, he, O', ho4, .inr ⟨rfl, .ret, (hIx _).putObj _ hi3 (by omega) hb3.rec_ rfl, hb4⟩⟩
    | exit id =>
      obtain ⟨O', ho, hi3⟩ := hp
      obtain ⟨hb3, he, hb4, ho4, hO4⟩ := fin (some (.exit id)) O' W3 ho
      exact ⟨_, _, he, O', ho4, .inr ⟨rfl, .exit id, (hIx _).putObj _ hi3 (by omega) hb3.rec_ rfl, hb4⟩⟩
    | goto t => exact hp.elim
    | panic ch => exact hp.elim
    | outgrown => exact hp.elim
  · rintro e W2 ⟨⟨v, rfl⟩, (⟨xs, O, hS, hi, hb, _⟩ | ⟨pre, O, hSp, c, hi, hb⟩)⟩
    · have he := run_endLoop (P := P) hb.rec_ (by rw [hr]; simp)
      rw [hr] at he
      exact ⟨none, _, he, hdone D xs O _ (by omega) hS (hI.putObj _ hi (by omega) hb.rec_ rfl) ((World.putObj_heap_other hne).trans hb.def_)⟩
    · have he := run_endLoop (P := P) hb.rec_ (by rw [hr]; simp)
      rw [hr] at he
      exact ⟨some c, _, he, hstop D c pre O _ (by omega) hSp ((hIx c).putObj _ hi (by omega) hb.rec_ rfl) ((World.putObj_heap_other hne).trans hb.def_)⟩
end
end Go.Proofs.YtooddbhlanjfbaaGreatDoor

namespace Go.Proofs.YtooddbhlanjfbaaGreatDoor
open Go Go.RowKit

/-- From B on a round turns only what it owns, or lays anew. -/
structure OwnedT (B : Nat) (O O' : Nat → Prop) (W W' : World) : Prop where
  size : W.heap.size ≤ W'.heap.size
  same : ∀ k, B ≤ k → k < W.heap.size → ¬ O k → W'.heap[k]? = W.heap[k]?
  own : ∀ k, O' k → O k ∨ (W.heap.size ≤ k ∧ k < W'.heap.size)
theorem OwnedT.mono {B B' : Nat} {O O' : Nat → Prop} {W W' : World} (h : OwnedT B O O' W W') (hB : B ≤ B') : OwnedT B' O O' W W' := ⟨h.size, fun k hk => h.same k (Nat.le_trans hB hk), h.own⟩
theorem OwnedT.refl (B : Nat) (O : Nat → Prop) (W : World) : OwnedT B O O W W := ⟨Nat.le_refl _, fun _ _ _ _ => rfl, fun _ h => .inl h⟩
theorem OwnedT.at_ {B : Nat} {O O' : Nat → Prop} {W W' : World} (h : OwnedT B O O' W W') {k : Nat} {o : Obj} (hk : W.heap[k]? = some o) (hB : B ≤ k) (hO : ¬ O k) : W'.heap[k]? = some o :=
  (h.same k hB (Array.getElem?_eq_some_iff.1 hk).1 hO).trans hk
/-- Some blocks below B are turned, nothing else. -/
theorem OwnedT.ofTurn {B : Nat} {O : Nat → Prop} {M : Nat → Prop} {W W' : World} (h : Turn M W W') (hM : ∀ k, M k → k < B) : OwnedT B O O W W' :=
  ⟨h.size, fun k hB hk _ => h.block k hk (fun e => by have := hM k e; omega), fun _ h => .inl h⟩
theorem OwnedT.trans {B : Nat} {O O' O2 : Nat → Prop} {W W' W2 : World} (h : OwnedT B O O' W W') (k : OwnedT B O' O2 W' W2) : OwnedT B O O2 W W2 := by
  have h1 := h.size
  have h2 := k.size
  refine ⟨Nat.le_trans h.size k.size, fun i hB hi hn => ?_, fun i hi => ?_⟩
  · exact (k.same i hB (Nat.lt_of_lt_of_le hi h.size) (fun e => by rcases h.own i e with x | x; exact hn x; omega)).trans (h.same i hB hi hn)
  · rcases k.own i hi with x | x
    · rcases h.own i x with y | y
      · exact .inl y
      · exact .inr ⟨y.1, by omega⟩
    · exact .inr ⟨by omega, x.2⟩
theorem put_ownedT {B l : Nat} {O : Nat → Prop} {W : World} (o : Obj) (h : l < B) : OwnedT B O O W (W.putObj l o) :=
  ⟨by simp, fun k hB _ _ => World.putObj_heap_other (by omega), fun _ h => .inl h⟩

/-- An iterator whose rounds keep what it lays: S: all of them came; Sp: it was left behind these. -/
def SeqT {α : Type} (F : Fence) (n : Nat) (P : Program) (g : Nat) (lb : Array Value) (encs : α → Array Value) (Kp : World → World → Prop) (S Sp : List α → Prop) (N : Nat) (w : World) : Prop :=
  ∀ (l : Nat) (J Jx : List α × (Nat → Prop) → World → Prop) (W : World), Below w.heap.size w W → OwnFrom W.heap.size J → OwnFrom W.heap.size Jx →
    (∀ pre O (x : α) W1, J (pre, O) W1 → pre.length < N → YieldAt F (n - 1) P l (encs x) W1 fun e W' => ∃ O', OwnedT W.heap.size O O' W1 W' ∧
      ((e = .returned (.bool true) ∧ J (pre ++ [x], O') W' ∧ Kp W1 W') ∨ (e = .returned (.bool false) ∧ Jx (pre ++ [x], O') W'))) →
    J ([], fun _ => False) W →
    CallsIn F n P g (#[.func (.yield l) #[] #[]] ++ lb) W fun e W' => (∃ v, e = .returned v) ∧ ((∃ xs O, S xs ∧ J (xs, O) W') ∨ (∃ pre O, Sp pre ∧ Jx (pre, O) W'))

/-- How a round's body may be left. -/
def leftT {α : Type} (B : Nat) (Kp : World → World → Prop) (I : List α × (Nat → Prop) → World → Prop) (Ix : Code → List α × (Nat → Prop) → World → Prop) (O : Nat → Prop) (xs : List α) (W : World) : Exit → Act → World → Prop
  | .normal, _, W' => ∃ O', OwnedT B O O' W W' ∧ Kp W W' ∧ I (xs, O') W'
  | .ret, _, W' => ∃ O', OwnedT B O O' W W' ∧ Ix .ret (xs, O') W'
  | .exit id, _, W' => ∃ O', OwnedT B O O' W W' ∧ Ix (.exit id) (xs, O') W'
  | .goto _, _, _ => False
  | .panic _, _, _ => False
  | .outgrown, _, _ => False

section
variable {F : Fence} {n : Nat} {P : Program} {α : Type}

/-- The loop's record and its block for deferred calls stand where they were laid. -/
structure BooksT (l D : Nat) (r : Loop) (W : World) : Prop where
  rec_ : W.heap[l]? = some (.loop r)
  def_ : W.heap[D]? = some (.deferred (some []))
theorem BooksT.put {l D : Nat} {r r' : Loop} {W : World} (h : BooksT l D r W) (hne : D ≠ l) : BooksT l D r' (W.putObj l (.loop r')) :=
  ⟨World.putObj_heap_same (Array.getElem?_eq_some_iff.1 h.rec_).1, (World.putObj_heap_other hne).trans h.def_⟩
theorem BooksT.owned {B l D : Nat} {r : Loop} {O O' : Nat → Prop} {W W' : World} (h : BooksT l D r W) (hO : OwnedT B O O' W W') (h1 : B ≤ l) (h2 : B ≤ D) (h3 : ¬ O l) (h4 : ¬ O D) : BooksT l D r W' :=
  ⟨hO.at_ h.rec_ h1 h3, hO.at_ h.def_ h2 h4⟩
theorem BooksT.grown {B l D : Nat} {r : Loop} {W W' : World} {row : Option Nat} (h : BooksT l D r W) (hg : W.grownBy W' row) (hr : ∀ k, row = some k → B ≤ k) (h1 : l < B) (h2 : D < B) : BooksT l D r W' :=
  ⟨(hg.block l (Array.getElem?_eq_some_iff.1 h.rec_).1 (fun e => by have := hr l e.symm; omega)).trans h.rec_, (hg.block D (Array.getElem?_eq_some_iff.1 h.def_).1 (fun e => by have := hr D e.symm; omega)).trans h.def_⟩

/-- A range over such an iterator. -/
theorem wpIn_rangeT {g : Operand} {ps : Array Tmp} {assign body : Code} {Q : Exit → Act → World → Prop} {a : Act} {w : World} (hro : F.round = none) (h1 : 1 ≤ n) {gf : Nat} {lb : Array Value} (hg : a.eval g = .func (.func gf) #[] lb) (hFg : F.fn gf)
    (eg : ∀ args w, (callFunc gf args).run P w = .ok (.enter gf args) w) {encs : α → Array Value} {Kp : World → World → Prop} {S Sp : List α → Prop} {N : Nat} {w0 : World} (hseq : SeqT F (n - 1) P gf lb encs Kp S Sp N w0)
    (hKt : ∀ {A B C : World}, Kp A B → Kp B C → Kp A C) (hKb : ∀ (W : World) (l : Nat) (o o' : Obj), w.heap.size ≤ l → W.heap[l]? = some o → o.isCells = false → Kp W (W.putObj l o')) (hb0 : Below w0.heap.size w0 w) (hps : ∀ x, (encs x).size = ps.size)
    (I : List α × (Nat → Prop) → World → Prop) (Ix : Code → List α × (Nat → Prop) → World → Prop) (hI : OwnFrom w.heap.size I) (hIx : ∀ c, OwnFrom w.heap.size (Ix c)) (h0 : I ([], fun _ => False) w) (a₁ : α → Act)
    (hassign : ∀ (l : Nat) (x : α) (W : World) (K : Act → World → Prop), K (a₁ x) W →
      assign.wpIn (F.inRound l) (n - 1 - 1) P (Exit.then K (fun _ _ _ => False)) { tmps := (ps.zip (encs x)).foldl (fun t (p, v) => t.setIfInBounds p v) a.tmps, defers := [] } W)
    (hbody : ∀ (l : Nat) (pre : List α) (O : Nat → Prop) (x : α) (W : World), w.heap.size ≤ l → (∃ r, W.heap[l]? = some (.loop r)) → (∀ k, O k → l < k ∧ k < W.heap.size) → I (pre, O) W → pre.length < N → body.wpIn (F.inRound l) (n - 1 - 1) P (leftT w.heap.size Kp I Ix O (pre ++ [x]) W) (a₁ x) W)
    (hdone : ∀ (D : Nat) (xs : List α) (O : Nat → Prop) (W : World), w.heap.size ≤ D → (∀ k, O k → D < k ∧ k < W.heap.size) → S xs → I (xs, O) W → W.heap[D]? = some (.deferred (some [])) → Q .normal { a with defers := { target := .collected D, args := #[] } :: a.defers } W)
    (hstop : ∀ (D : Nat) (c : Code) (pre : List α) (O : Nat → Prop) (W : World), w.heap.size ≤ D → Sp pre → Ix c (pre, O) W → W.heap[D]? = some (.deferred (some [])) → c.wpIn F n P Q { a with defers := { target := .collected D, args := #[] } :: a.defers } W) :
    (Code.rangeFunc g ps assign body).wpIn F n P Q a w := by
  obtain ⟨D, hD⟩ : ∃ D, D = w.heap.size := ⟨_, rfl⟩
  obtain ⟨l, hl⟩ : ∃ l, l = D + 1 := ⟨_, rfl⟩
  have hne : D ≠ l := by omega
  refine wpIn_rangeFunc fun fn hfn => ?_
  obtain ⟨r, hr⟩ : ∃ r : LoopState → Option Code → Loop, r = fun st pe => { state := st, pending := pe, fn, tmps := a.tmps, params := ps, assign, body, defers := D } := ⟨_, rfl⟩
  obtain ⟨V, hV⟩ : ∃ V, V = (w.alloc (.deferred (some []))).alloc (.loop (r .ready none)) := ⟨_, rfl⟩
  have hVs : V.heap.size = l + 1 := by rw [hV, hl, hD]; simp
  have hVb : BooksT l D (r .ready none) V := by
    rw [hV, hl, hD]
    refine ⟨?_, (Below.heap_alloc _ _ _ (by simp)).trans (World.alloc_heap_new w _)⟩
    have := World.alloc_heap_new (w.alloc (.deferred (some []))) (.loop (r .ready none))
    rwa [World.size_alloc] at this
  have hVI : I ([], fun _ => False) V := by rw [hV]; exact hI.alloc _ (hI.alloc _ h0)
  have hVw : Below w0.heap.size w0 V := by
    rw [hV]; exact (hb0.alloc hb0.size _).alloc (by have := hb0.size; simp; omega) _
  refine ⟨l, [{ target := .collected D, args := #[] }], V, { target := .fn (.func gf) lb, args := #[.func (.yield l) #[] #[]] }, V, gf, #[.func (.yield l) #[] #[]] ++ lb, V, ?_, ?_, ?_, ?_, fun _ => h1, ?_⟩
  · rw [hro, hV, hr, hl, hD]; exact run_enterLoop_outer _ _ _ _ _
  · simp only [resolve, hg]
    simp [go_sem]
  · intro f hf; simp [Target.leads] at hf; subst hf; exact hFg
  · simp [invoke, go_sem, eg]
  have far : ∀ {A : World} {row : Option Nat}, (∀ k, row = some k → V.heap.size ≤ k ∧ ∃ o : Obj, A.heap[k]? = some o ∧ o.isCells = false) → ∀ k, row = some k → w.heap.size ≤ k ∧ ∃ o : Obj, A.heap[k]? = some o ∧ o.isCells = false := fun h k e => by
    obtain ⟨h2, h3⟩ := h k e
    exact ⟨by omega, h3⟩
  refine (hseq l (fun s W => I s W ∧ BooksT l D (r .ready none) W ∧ ∀ k, s.2 k → l < k ∧ k < W.heap.size) (fun s W => (∃ c, Ix c s W ∧ BooksT l D (r .done (some c)) W)) V hVw ?_ ?_ ?_ ⟨hVI, hVb, fun _ h => h.elim⟩).mono ?_
  · exact fun s A B row h hg' hr' => ⟨hI s A B row h.1 hg' (far hr'), h.2.1.grown hg' (fun k e => (hr' k e).1) (by omega) (by omega), fun k hk => ⟨(h.2.2 k hk).1, Nat.lt_of_lt_of_le (h.2.2 k hk).2 hg'.size⟩⟩
  · exact fun s A B row ⟨c, h, hb⟩ hg' hr' => ⟨c, hIx c s A B row h hg' (far hr'), hb.grown hg' (fun k e => (hr' k e).1) (by omega) (by omega)⟩
  · rintro pre O x W ⟨hi, hb, hO⟩ hlen
    have hsz : l < W.heap.size := (Array.getElem?_eq_some_iff.1 hb.rec_).1
    have hy := run_yield (P := P) (args := encs x) hb.rec_ (by rw [hr]; exact hps x)
    rw [hr] at hy
    refine ⟨fn, _, assign, body, hy, roundIn_of_wpIn hfn (hassign l x W _ ⟨_, run_beginRound hb.rec_ (by rw [hr]), ?_⟩)⟩
    obtain ⟨W1, hW1⟩ : ∃ W1, W1 = W.putObj l (.loop { r .ready none with state := .busy }) := ⟨_, rfl⟩
    rw [← hW1]
    have hb1 : BooksT l D { r .ready none with state := .busy } W1 := by rw [hW1]; exact hb.put hne
    have hi1 : I (pre, O) W1 := by rw [hW1]; exact hI.putObj _ hi (by omega) hb.rec_ rfl
    have ho1 : OwnedT V.heap.size O O W W1 := by rw [hW1]; exact put_ownedT _ (by omega)
    have hs1 : W1.heap.size = W.heap.size := by rw [hW1]; simp
    have hk1 : Kp W W1 := by rw [hW1]; exact hKb _ _ _ _ (by omega) hb.rec_ rfl
    have nl : ¬ O l := fun e => by have := (hO _ e).1; omega
    have nD : ¬ O D := fun e => by have := (hO _ e).1; omega
    have fin : ∀ (jump : Option Code) (O' : Nat → Prop) (W3 : World), OwnedT w.heap.size O O' W1 W3 → BooksT l D { r .ready none with state := .busy } W3 ∧ (Instr.endRound l jump).run P W3 = .ok (.bool jump.isNone) (W3.putObj l (.loop (r (if jump.isNone then .ready else .done) jump))) ∧
        BooksT l D (r (if jump.isNone then .ready else .done) jump) (W3.putObj l (.loop (r (if jump.isNone then .ready else .done) jump))) ∧ OwnedT V.heap.size O O' W (W3.putObj l (.loop (r (if jump.isNone then .ready else .done) jump))) ∧ ∀ k, O' k → l < k ∧ k < (W3.putObj l (.loop (r (if jump.isNone then .ready else .done) jump))).heap.size := fun jump O' W3 ho => by
      have hb3 := hb1.owned ho (by omega) (by omega) nl nD
      have he := run_endRound (P := P) jump hb3.rec_
      refine ⟨hb3, ?_, hb3.put hne, (ho1.trans (ho.mono (by omega))).trans (put_ownedT _ (by omega)), fun k hk => ?_⟩
      · rw [hr] at he ⊢; exact he
      · have h9 := ho.size
        rw [World.putObj_size]
        rcases ho.own k hk with y | y
        · have := hO k y; omega
        · omega
    refine wpIn_mono (hbody l pre O x W1 (by omega) ⟨_, hb1.rec_⟩ (fun k hk => ⟨(hO k hk).1, by have := (hO k hk).2; omega⟩) hi1 hlen) ?_
    rintro e a3 W3 hp
    cases e with
    | normal =>
      obtain ⟨O', ho, hk, hi3⟩ := hp
      obtain ⟨hb3, he, hb4, ho4, hO4⟩ := fin none O' W3 ho
      exact ⟨_, _, he, O', ho4, .inl ⟨rfl, ⟨hI.putObj _ hi3 (by omega) hb3.rec_ rfl, hb4, hO4⟩, hKt (hKt hk1 hk) (hKb _ _ _ _ (by omega) hb3.rec_ rfl)⟩⟩
    | ret =>
      obtain ⟨O', ho, hi3⟩ := hp
      obtain ⟨hb3, he, hb4, ho4, hO4⟩ := fin (some .ret) O' W3 ho
      exact ⟨_, _, he, O', ho4, .inr ⟨rfl, .ret, (hIx _).putObj _ hi3 (by omega) hb3.rec_ rfl, hb4⟩⟩
    | exit id =>
      obtain ⟨O', ho, hi3⟩ := hp
      obtain ⟨hb3, he, hb4, ho4, hO4⟩ := fin (some (.exit id)) O' W3 ho
      exact ⟨_, _, he, O', ho4, .inr ⟨rfl, .exit id, (hIx _).putObj _ hi3 (by omega) hb3.rec_ rfl, hb4⟩⟩
    | goto t => exact hp.elim
    | panic ch => exact hp.elim
    | outgrown => exact hp.elim
  · rintro e W2 ⟨⟨v, rfl⟩, (⟨xs, O, hS, hi, hb, hO⟩ | ⟨pre, O, hSp, c, hi, hb⟩)⟩
    · have he := run_endLoop (P := P) hb.rec_ (by rw [hr]; simp)
      rw [hr] at he
      exact ⟨none, _, he, hdone D xs O _ (by omega) (fun k hk => by have := hO k hk; rw [World.putObj_size]; omega) hS (hI.putObj _ hi (by omega) hb.rec_ rfl) ((World.putObj_heap_other hne).trans hb.def_)⟩
    · have he := run_endLoop (P := P) hb.rec_ (by rw [hr]; simp)
      rw [hr] at he
      exact ⟨some c, _, he, hstop D c pre O _ (by omega) hSp ((hIx c).putObj _ hi (by omega) hb.rec_ rfl) ((World.putObj_heap_other hne).trans hb.def_)⟩

/-- A range over such an iterator, within a round of another one. -/
theorem wpIn_rangeTN {l₀ : Nat} {r₀ : Loop} {g : Operand} {ps : Array Tmp} {assign body : Code} {Q : Exit → Act → World → Prop} {a : Act} {w : World} (hro : F.round = some l₀) (hl₀ : w.heap[l₀]? = some (.loop r₀)) (h1 : 1 ≤ n) {gf : Nat} {lb : Array Value} (hg : a.eval g = .func (.func gf) #[] lb) (hFg : F.fn gf)
    (eg : ∀ args w, (callFunc gf args).run P w = .ok (.enter gf args) w) {encs : α → Array Value} {Kp : World → World → Prop} {S Sp : List α → Prop} {N : Nat} {w0 : World} (hseq : SeqT F (n - 1) P gf lb encs Kp S Sp N w0)
    (hKt : ∀ {A B C : World}, Kp A B → Kp B C → Kp A C) (hKb : ∀ (W : World) (l : Nat) (o o' : Obj), w.heap.size ≤ l → W.heap[l]? = some o → o.isCells = false → Kp W (W.putObj l o')) (hb0 : Below w0.heap.size w0 w) (hps : ∀ x, (encs x).size = ps.size)
    (I : List α × (Nat → Prop) → World → Prop) (Ix : Code → List α × (Nat → Prop) → World → Prop) (hI : OwnFrom w.heap.size I) (hIx : ∀ c, OwnFrom w.heap.size (Ix c)) (h0 : I ([], fun _ => False) w) (a₁ : α → Act)
    (hassign : ∀ (l : Nat) (x : α) (W : World) (K : Act → World → Prop), K (a₁ x) W →
      assign.wpIn (F.inRound l) (n - 1 - 1) P (Exit.then K (fun _ _ _ => False)) { tmps := (ps.zip (encs x)).foldl (fun t (p, v) => t.setIfInBounds p v) a.tmps, defers := [] } W)
    (hbody : ∀ (l : Nat) (pre : List α) (O : Nat → Prop) (x : α) (W : World), w.heap.size ≤ l → (∃ r, W.heap[l]? = some (.loop r)) → (∀ k, O k → l < k ∧ k < W.heap.size) → I (pre, O) W → pre.length < N → body.wpIn (F.inRound l) (n - 1 - 1) P (leftT w.heap.size Kp I Ix O (pre ++ [x]) W) (a₁ x) W)
    (hdone : ∀ (xs : List α) (O : Nat → Prop) (W : World), (∀ k, O k → w.heap.size < k ∧ k < W.heap.size) → S xs → I (xs, O) W → Q .normal a W)
    (hstop : ∀ (c : Code) (pre : List α) (O : Nat → Prop) (W : World), Sp pre → Ix c (pre, O) W → c.wpIn F n P Q a W) :
    (Code.rangeFunc g ps assign body).wpIn F n P Q a w := by
  obtain ⟨l, hl⟩ : ∃ l, l = w.heap.size := ⟨_, rfl⟩
  refine wpIn_rangeFunc fun fn hfn => ?_
  obtain ⟨r, hr⟩ : ∃ r : LoopState → Option Code → Loop, r = fun st pe => { state := st, pending := pe, fn, tmps := a.tmps, params := ps, assign, body, defers := r₀.defers } := ⟨_, rfl⟩
  obtain ⟨V, hV⟩ : ∃ V, V = w.alloc (.loop (r .ready none)) := ⟨_, rfl⟩
  have hVs : V.heap.size = l + 1 := by rw [hV, hl]; simp
  have hVb : V.heap[l]? = some (.loop (r .ready none)) := by rw [hV, hl]; exact World.alloc_heap_new w _
  have hVI : I ([], fun _ => False) V := by rw [hV]; exact hI.alloc _ h0
  have hVw : Below w0.heap.size w0 V := by
    rw [hV]; exact hb0.alloc hb0.size _
  refine ⟨l, [], V, { target := .fn (.func gf) lb, args := #[.func (.yield l) #[] #[]] }, V, gf, #[.func (.yield l) #[] #[]] ++ lb, V, ?_, ?_, ?_, ?_, fun _ => h1, ?_⟩
  · rw [hro, hV, hr, hl]; exact run_enterLoop_inner hl₀ _ _ _ _ _
  · simp only [resolve, hg]
    simp [go_sem]
  · intro f hf; simp [Target.leads] at hf; subst hf; exact hFg
  · simp [invoke, go_sem, eg]
  have far : ∀ {A : World} {row : Option Nat}, (∀ k, row = some k → V.heap.size ≤ k ∧ ∃ o : Obj, A.heap[k]? = some o ∧ o.isCells = false) → ∀ k, row = some k → w.heap.size ≤ k ∧ ∃ o : Obj, A.heap[k]? = some o ∧ o.isCells = false := fun h k e => by
    obtain ⟨h2, h3⟩ := h k e
    exact ⟨by omega, h3⟩
  have grown : ∀ {A B : World} {row : Option Nat} {r1 : Loop}, A.heap[l]? = some (.loop r1) → A.grownBy B row → (∀ k, row = some k → V.heap.size ≤ k) → B.heap[l]? = some (.loop r1) := fun {A B row r1} h hg' hr' =>
    (hg'.block l (Array.getElem?_eq_some_iff.1 h).1 (fun e => by have := hr' l e.symm; omega)).trans h
  refine (hseq l (fun s W => I s W ∧ W.heap[l]? = some (.loop (r .ready none)) ∧ ∀ k, s.2 k → l < k ∧ k < W.heap.size) (fun s W => (∃ c, Ix c s W ∧ W.heap[l]? = some (.loop (r .done (some c))))) V hVw ?_ ?_ ?_ ⟨hVI, hVb, fun _ h => h.elim⟩).mono ?_
  · exact fun s A B row h hg' hr' => ⟨hI s A B row h.1 hg' (far hr'), grown h.2.1 hg' (fun k e => (hr' k e).1), fun k hk => ⟨(h.2.2 k hk).1, Nat.lt_of_lt_of_le (h.2.2 k hk).2 hg'.size⟩⟩
  · exact fun s A B row ⟨c, h, hb⟩ hg' hr' => ⟨c, hIx c s A B row h hg' (far hr'), grown hb hg' (fun k e => (hr' k e).1)⟩
  · rintro pre O x W ⟨hi, hb, hO⟩ hlen
    have hsz : l < W.heap.size := (Array.getElem?_eq_some_iff.1 hb).1
    have hy := run_yield (P := P) (args := encs x) hb (by rw [hr]; exact hps x)
    rw [hr] at hy
    refine ⟨fn, _, assign, body, hy, roundIn_of_wpIn hfn (hassign l x W _ ⟨_, run_beginRound hb (by rw [hr]), ?_⟩)⟩
    obtain ⟨W1, hW1⟩ : ∃ W1, W1 = W.putObj l (.loop { r .ready none with state := .busy }) := ⟨_, rfl⟩
    rw [← hW1]
    have hb1 : W1.heap[l]? = some (.loop { r .ready none with state := .busy }) := by rw [hW1]; exact World.putObj_heap_same hsz
    have hi1 : I (pre, O) W1 := by rw [hW1]; exact hI.putObj _ hi (by omega) hb rfl
    have ho1 : OwnedT V.heap.size O O W W1 := by rw [hW1]; exact put_ownedT _ (by omega)
    have hs1 : W1.heap.size = W.heap.size := by rw [hW1]; simp
    have hk1 : Kp W W1 := by rw [hW1]; exact hKb _ _ _ _ (by omega) hb rfl
    have nl : ¬ O l := fun e => by have := (hO _ e).1; omega
    have fin : ∀ (jump : Option Code) (O' : Nat → Prop) (W3 : World), OwnedT w.heap.size O O' W1 W3 → W3.heap[l]? = some (.loop { r .ready none with state := .busy }) ∧ (Instr.endRound l jump).run P W3 = .ok (.bool jump.isNone) (W3.putObj l (.loop (r (if jump.isNone then .ready else .done) jump))) ∧
        (W3.putObj l (.loop (r (if jump.isNone then .ready else .done) jump))).heap[l]? = some (.loop (r (if jump.isNone then .ready else .done) jump)) ∧ OwnedT V.heap.size O O' W (W3.putObj l (.loop (r (if jump.isNone then .ready else .done) jump))) ∧ ∀ k, O' k → l < k ∧ k < (W3.putObj l (.loop (r (if jump.isNone then .ready else .done) jump))).heap.size := fun jump O' W3 ho => by
      have hb3 := ho.at_ hb1 (by omega) nl
      have he := run_endRound (P := P) jump hb3
      refine ⟨hb3, ?_, World.putObj_heap_same (Array.getElem?_eq_some_iff.1 hb3).1, (ho1.trans (ho.mono (by omega))).trans (put_ownedT _ (by omega)), fun k hk => ?_⟩
      · rw [hr] at he ⊢; exact he
      · have h9 := ho.size
        rw [World.putObj_size]
        rcases ho.own k hk with y | y
        · have := hO k y; omega
        · omega
    refine wpIn_mono (hbody l pre O x W1 (by omega) ⟨_, hb1⟩ (fun k hk => ⟨(hO k hk).1, by have := (hO k hk).2; omega⟩) hi1 hlen) ?_
    rintro e a3 W3 hp
    cases e with
    | normal =>
      obtain ⟨O', ho, hk, hi3⟩ := hp
      obtain ⟨hb3, he, hb4, ho4, hO4⟩ := fin none O' W3 ho
      exact ⟨_, _, he, O', ho4, .inl ⟨rfl, ⟨hI.putObj _ hi3 (by omega) hb3 rfl, hb4, hO4⟩, hKt (hKt hk1 hk) (hKb _ _ _ _ (by omega) hb3 rfl)⟩⟩
    | ret =>
      obtain ⟨O', ho, hi3⟩ := hp
      obtain ⟨hb3, he, hb4, ho4, hO4⟩ := fin (some .ret) O' W3 ho
      exact ⟨_, _, he, O', ho4, .inr ⟨rfl, .ret, (hIx _).putObj _ hi3 (by omega) hb3 rfl, hb4⟩⟩
    | exit id =>
      obtain ⟨O', ho, hi3⟩ := hp
      obtain ⟨hb3, he, hb4, ho4, hO4⟩ := fin (some (.exit id)) O' W3 ho
      exact ⟨_, _, he, O', ho4, .inr ⟨rfl, .exit id, (hIx _).putObj _ hi3 (by omega) hb3 rfl, hb4⟩⟩
    | goto t => exact hp.elim
    | panic ch => exact hp.elim
    | outgrown => exact hp.elim
  · rintro e W2 ⟨⟨v, rfl⟩, (⟨xs, O, hS, hi, hb, hO⟩ | ⟨pre, O, hSp, c, hi, hb⟩)⟩
    · have he := run_endLoop (P := P) hb (by rw [hr]; simp)
      rw [hr] at he
      exact ⟨none, _, he, hdone xs O _ (fun k hk => by have := hO k hk; rw [World.putObj_size]; omega) hS (hI.putObj _ hi (by omega) hb rfl)⟩
    · have he := run_endLoop (P := P) hb (by rw [hr]; simp)
      rw [hr] at he
      exact ⟨some c, _, he, hstop c pre O _ hSp ((hIx c).putObj _ hi (by omega) hb rfl)⟩

/-- An iterator's contract goes into a round as it is. -/
theorem SeqT.inRound {g : Nat} {lb : Array Value} {encs : α → Array Value} {Kp : World → World → Prop} {S Sp : List α → Prop} {N : Nat} {w : World} (l : Nat) (h : SeqT F n P g lb encs Kp S Sp N w) : SeqT (F.inRound l) n P g lb encs Kp S Sp N w := h
/-- An iterator that lays nothing that lasts is such an iterator. -/
theorem SeqT.ofK {g : Nat} {lb : Array Value} {encs : α → Array Value} {Kp : World → World → Prop} {S Sp : List α → Prop} {N : Nat} {w : World} (h : SeqStopsK F n P g lb encs Kp S Sp N w) : SeqT F n P g lb encs Kp S Sp N w := fun l J Jx W hW hJ hJx hY h0 => by
  have weak : ∀ {β : Type} {X : β → World → Prop}, OwnFrom W.heap.size X → AbidesFrom W.heap.size X := fun hX s A B row hs hg hr =>
    hX s A B row hs hg (fun k e => by obtain ⟨h1, o, h2, h3⟩ := hr k e; exact ⟨h1, o, h2, Obj.not_cells_of_walk h3⟩)
  refine (h l (fun pre W => ∃ O, J (pre, O) W) (fun pre W => ∃ O, Jx (pre, O) W) W hW (weak fun s A B row ⟨O, hs⟩ hg hr => ⟨O, hJ _ A B row hs hg hr⟩) (weak fun s A B row ⟨O, hs⟩ hg hr => ⟨O, hJx _ A B row hs hg hr⟩)
    (fun pre x W1 ⟨O, hj⟩ hlen => (hY pre O x W1 hj hlen).mono fun e W' ⟨O', _, h⟩ => ?_) ⟨_, h0⟩).mono ?_
  · rcases h with ⟨he, h1, h2⟩ | ⟨he, h1⟩
    · exact .inl ⟨he, ⟨O', h1⟩, h2⟩
    · exact .inr ⟨he, O', h1⟩
  · rintro e W' ⟨hv, (⟨xs, hS, O, hj⟩ | ⟨pre, hp, O, hj⟩)⟩
    · exact ⟨hv, .inl ⟨xs, O, hS, hj⟩⟩
    · exact ⟨hv, .inr ⟨pre, O, hp, hj⟩⟩
end
end Go.Proofs.YtooddbhlanjfbaaGreatDoor

namespace Go.Proofs.YtooddbhlanjfbaaGreatDoor
open Go Go.RowKit

section
variable {F : Fence} {n : Nat} {P : Program} {α : Type}

/-- A range over such an iterator. -/
theorem wpIn_rangeEL {g : Operand} {ps : Array Tmp} {assign body : Code} {Q : Exit → Act → World → Prop} {a : Act} {w : World} (hro : F.round = none) (h1 : 1 ≤ n) {gf : Nat} {lb : Array Value} (hg : a.eval g = .func (.func gf) #[] lb) (hFg : F.fn gf)
    (eg : ∀ args w, (callFunc gf args).run P w = .ok (.enter gf args) w) {encs : α → Array Value} {Kp Arr : α → World → World → Prop} {S Sp : List α → Prop} {N : Nat} {w0 : World} (hseq : SeqE F (n - 1) P gf lb encs Kp Arr S Sp N w0)
    (hKt : ∀ {x : α} {A B C : World}, Kp x A B → Kp x B C → Kp x A C) (hKb : ∀ (x : α) (W : World) (l : Nat) (o : Obj), w.heap.size ≤ l → Kp x W (W.putObj l o))
    (hAo : ∀ (x : α) (A C : World), Arr x A C → A.heap.size ≤ C.heap.size ∧ ∀ k, w.heap.size ≤ k → k < A.heap.size → C.heap[k]? = A.heap[k]?) (hb0 : Below w0.heap.size w0 w) (hps : ∀ x, (encs x).size = ps.size)
    (I : List α × (Nat → Prop) → World → Prop) (Im : (List α × (Nat → Prop)) × α → World → Prop) (Ix : Code → List α × (Nat → Prop) → World → Prop) (hI : OwnFrom w.heap.size I) (hIm : OwnFrom w.heap.size Im) (hIx : ∀ c, OwnFrom w.heap.size (Ix c))
    (hArr : ∀ pre O (x : α) A C, I (pre, O) A → Arr x A C → Im ((pre, O), x) C) (h0 : I ([], fun _ => False) w) (a₁ : α → Act)
    (hassign : ∀ (l : Nat) (x : α) (W : World) (K : Act → World → Prop), K (a₁ x) W →
      assign.wpIn (F.inRound l) (n - 1 - 1) P (Exit.then K (fun _ _ _ => False)) { tmps := (ps.zip (encs x)).foldl (fun t (p, v) => t.setIfInBounds p v) a.tmps, defers := [] } W)
    (hbody : ∀ (l : Nat) (pre : List α) (O : Nat → Prop) (x : α) (W : World), w.heap.size ≤ l → (∃ r, W.heap[l]? = some (.loop r)) → (∀ k, O k → l < k) → Im ((pre, O), x) W → pre.length < N → body.wpIn (F.inRound l) (n - 1 - 1) P (leftO w.heap.size (Kp x) I Ix O (pre ++ [x]) W) (a₁ x) W)
    (hdone : ∀ (D : Nat) (xs : List α) (O : Nat → Prop) (W : World), w.heap.size ≤ D → S xs → I (xs, O) W → W.heap[D]? = some (.deferred (some [])) → Q .normal { a with defers := { target := .collected D, args := #[] } :: a.defers } W)
    (hstop : ∀ (D : Nat) (c : Code) (pre : List α) (O : Nat → Prop) (W : World), w.heap.size ≤ D → Sp pre → Ix c (pre, O) W → W.heap[D]? = some (.deferred (some [])) → c.wpIn F n P Q { a with defers := { target := .collected D, args := #[] } :: a.defers } W) :
    (Code.rangeFunc g ps assign body).wpIn F n P Q a w := by
  obtain ⟨D, hD⟩ : ∃ D, D = w.heap.size := ⟨_, rfl⟩
  obtain ⟨l, hl⟩ : ∃ l, l = D + 1 := ⟨_, rfl⟩
  have hne : D ≠ l := by omega
  refine wpIn_rangeFunc fun fn hfn => ?_
  obtain ⟨r, hr⟩ : ∃ r : LoopState → Option Code → Loop, r = fun st pe => { state := st, pending := pe, fn, tmps := a.tmps, params := ps, assign, body, defers := D } := ⟨_, rfl⟩
  obtain ⟨V, hV⟩ : ∃ V, V = (w.alloc (.deferred (some []))).alloc (.loop (r .ready none)) := ⟨_, rfl⟩
  have hVs : V.heap.size = l + 1 := by rw [hV, hl, hD]; simp
  have hVb : Books l D (r .ready none) V := by
    rw [hV, hl, hD]
    refine ⟨?_, (Below.heap_alloc _ _ _ (by simp)).trans (World.alloc_heap_new w _)⟩
    have := World.alloc_heap_new (w.alloc (.deferred (some []))) (.loop (r .ready none))
    rwa [World.size_alloc] at this
  have hVI : I ([], fun _ => False) V := by rw [hV]; exact hI.alloc _ (hI.alloc _ h0)
  have hVw : Below w0.heap.size w0 V := by
    rw [hV]; exact (hb0.alloc hb0.size _).alloc (by have := hb0.size; simp; omega) _
  refine ⟨l, [{ target := .collected D, args := #[] }], V, { target := .fn (.func gf) lb, args := #[.func (.yield l) #[] #[]] }, V, gf, #[.func (.yield l) #[] #[]] ++ lb, V, ?_, ?_, ?_, ?_, fun _ => h1, ?_⟩
  · rw [hro, hV, hr, hl, hD]; exact run_enterLoop_outer _ _ _ _ _
  · simp only [resolve, hg]
    simp [go_sem]
  · intro f hf; simp [Target.leads] at hf; subst hf; exact hFg
  · simp [invoke, go_sem, eg]
  have far : ∀ {A : World} {row : Option Nat}, (∀ k, row = some k → V.heap.size ≤ k ∧ ∃ o : Obj, A.heap[k]? = some o ∧ o.isCells = false) → ∀ k, row = some k → w.heap.size ≤ k ∧ ∃ o : Obj, A.heap[k]? = some o ∧ o.isCells = false := fun h k e => by
    obtain ⟨h2, h3⟩ := h k e
    exact ⟨by omega, h3⟩
  refine (hseq l (fun s W => I s W ∧ Books l D (r .ready none) W ∧ ∀ k, s.2 k → l < k) (fun s W => (∃ c, Ix c s W ∧ Books l D (r .done (some c)) W)) (fun s W => Im s W ∧ Books l D (r .ready none) W ∧ ∀ k, s.1.2 k → l < k) V hVw ?_ ?_ ?_ ?_ ?_ ⟨hVI, hVb, fun _ h => h.elim⟩).mono ?_
  · exact fun s A B row h hg' hr' => ⟨hI s A B row h.1 hg' (far hr'), h.2.1.grown hg' (fun k e => (hr' k e).1) (by omega) (by omega), h.2.2⟩
  · exact fun s A B row h hg' hr' => ⟨hIm s A B row h.1 hg' (far hr'), h.2.1.grown hg' (fun k e => (hr' k e).1) (by omega) (by omega), h.2.2⟩
  · exact fun s A B row ⟨c, h, hb⟩ hg' hr' => ⟨c, hIx c s A B row h hg' (far hr'), hb.grown hg' (fun k e => (hr' k e).1) (by omega) (by omega)⟩
  · rintro pre O x A C ⟨hi, hb, hO⟩ hA
    obtain ⟨hs, hk⟩ := hAo x A C hA
    have h1 : l < A.heap.size := (Array.getElem?_eq_some_iff.1 hb.rec_).1
    exact ⟨hArr pre O x A C hi hA, ⟨(hk l (by omega) h1).trans hb.rec_, (hk D (by omega) (by omega)).trans hb.def_⟩, hO⟩
  · rintro pre O x W ⟨hi, hb, hO⟩ hlen
    have hsz : l < W.heap.size := (Array.getElem?_eq_some_iff.1 hb.rec_).1
    have hy := run_yield (P := P) (args := encs x) hb.rec_ (by rw [hr]; exact hps x)
    rw [hr] at hy
    refine ⟨fn, _, assign, body, hy, roundIn_of_wpIn hfn (hassign l x W _ ⟨_, run_beginRound hb.rec_ (by rw [hr]), ?_⟩)⟩
    obtain ⟨W1, hW1⟩ : ∃ W1, W1 = W.putObj l (.loop { r .ready none with state := .busy }) := ⟨_, rfl⟩
    rw [← hW1]
    have hb1 : Books l D { r .ready none with state := .busy } W1 := by rw [hW1]; exact hb.put hne
    have hi1 : Im ((pre, O), x) W1 := by rw [hW1]; exact hIm.putObj _ hi (by omega) hb.rec_ rfl
    have ho1 : Owned V.heap.size O O W W1 := by rw [hW1]; exact put_owned _ (by omega)
    have hk1 : Kp x W W1 := by rw [hW1]; exact hKb _ _ _ _ (by omega)
    have nl : ¬ O l := fun e => by have := hO _ e; omega
    have nD : ¬ O D := fun e => by have := hO _ e; omega
    have fin : ∀ (jump : Option Code) (O' : Nat → Prop) (W3 : World), Owned w.heap.size O O' W1 W3 → Books l D { r .ready none with state := .busy } W3 ∧ (Instr.endRound l jump).run P W3 = .ok (.bool jump.isNone) (W3.putObj l (.loop (r (if jump.isNone then .ready else .done) jump))) ∧
        Books l D (r (if jump.isNone then .ready else .done) jump) (W3.putObj l (.loop (r (if jump.isNone then .ready else .done) jump))) ∧ Owned V.heap.size O O' W (W3.putObj l (.loop (r (if jump.isNone then .ready else .done) jump))) ∧ ∀ k, O' k → l < k := fun jump O' W3 ho => by
      have hb3 := hb1.owned ho (by omega) (by omega) nl nD
      have he := run_endRound (P := P) jump hb3.rec_
      refine ⟨hb3, ?_, hb3.put hne, (ho1.trans (ho.mono (by omega))).trans (put_owned _ (by omega)), fun k hk => ?_⟩
      · rw [hr] at he ⊢; exact he
      · rcases ho.own k hk with y | y
        · exact hO k y
        · have := ho1.size; omega
    refine wpIn_mono (hbody l pre O x W1 (by omega) ⟨_, hb1.rec_⟩ hO hi1 hlen) ?_
    rintro e a3 W3 hp
    cases e with
    | normal =>
      obtain ⟨O', ho, hk, hi3⟩ := hp
      obtain ⟨hb3, he, hb4, ho4, hO4⟩ := fin none O' W3 ho
      exact ⟨_, _, he, O', ho4, .inl ⟨rfl, ⟨hI.putObj _ hi3 (by omega) hb3.rec_ rfl, hb4, hO4⟩, hKt (hKt hk1 hk) (hKb _ _ _ _ (by omega))⟩⟩
    | ret =>
      obtain ⟨O', ho, hi3⟩ := hp
      obtain ⟨hb3, he, hb4, ho4, hO4⟩ := fin (some .ret) O' W3 ho
      exact ⟨_, _, he, O', ho4, .inr ⟨rfl, .ret, (hIx _).putObj _ hi3 (by omega) hb3.rec_ rfl, hb4⟩⟩
    | exit id =>
      obtain ⟨O', ho, hi3⟩ := hp
      obtain ⟨hb3, he, hb4, ho4, hO4⟩ := fin (some (.exit id)) O' W3 ho
      exact ⟨_, _, he, O', ho4, .inr ⟨rfl, .exit id, (hIx _).putObj _ hi3 (by omega) hb3.rec_ rfl, hb4⟩⟩
    | goto t => exact hp.elim
    | panic ch => exact hp.elim
    | outgrown => exact hp.elim
  · rintro e W2 ⟨⟨v, rfl⟩, (⟨xs, O, hS, hi, hb, _⟩ | ⟨pre, O, hSp, c, hi, hb⟩)⟩
    · have he := run_endLoop (P := P) hb.rec_ (by rw [hr]; simp)
      rw [hr] at he
      exact ⟨none, _, he, hdone D xs O _ (by omega) hS (hI.putObj _ hi (by omega) hb.rec_ rfl) ((World.putObj_heap_other hne).trans hb.def_)⟩
    · have he := run_endLoop (P := P) hb.rec_ (by rw [hr]; simp)
      rw [hr] at he
      exact ⟨some c, _, he, hstop D c pre O _ (by omega) hSp ((hIx c).putObj _ hi (by omega) hb.rec_ rfl) ((World.putObj_heap_other hne).trans hb.def_)⟩
end
end Go.Proofs.YtooddbhlanjfbaaGreatDoor

namespace Go.Proofs.YtooddbhlanjfbaaGreatDoor
open Go Go.RowKit Go.Shelf Go.MuLone Go.RwLone
attribute [local go_sem] Oper.semAt_some
set_option linter.unusedSimpArgs false
set_option linter.unusedVariables false

theorem turn_putObj {l : Nat} (W : World) (o : Obj) : Turn (fun k => k = l) W (W.putObj l o) :=
  ⟨rfl, rfl, rfl, by simp, fun k _ hn => World.putObj_heap_other (by have h : ¬ k = l := hn; omega)⟩
/-- A world has one set at a place. -/
theorem SetAt.uniq {w : World} {b : Nat} {lo : Option Nat} {m : Nat} {S S' : Nat → Bool} (h : SetAt w b lo m S) (h' : SetAt w b lo m S') : S = S' := by
  funext k
  by_cases hk : k < m
  · have hm := h.1
    cases lo with
    | none => rw [h.2.2.2 k, h'.2.2.2 k]
    | some l =>
      obtain ⟨_, _, _, _, ws, hL, hw⟩ := h
      obtain ⟨_, _, _, _, ws', hL', hw'⟩ := h'
      have e : ws = ws' := by
        unfold Blk at hL hL'
        rw [hL] at hL'
        injection hL' with e1
        injection e1
      subst e
      obtain ⟨x, hx, hxc, hxb⟩ := hw.2 (k / 64) (by omega)
      obtain ⟨y, hy, hyc, hyb⟩ := hw'.2 (k / 64) (by omega)
      rw [hxc] at hyc
      have e2 : x = y := by
        injection hyc with e3
        injection e3 with _ e4
        omega
      subst e2
      have h1 := hxb (k % 64) (Nat.mod_lt _ (by decide))
      have h2 := hyb (k % 64) (Nat.mod_lt _ (by decide))
      rw [show 64 * (k / 64) + k % 64 = k by omega] at h1 h2
      rw [← h1, h2]
  · have e1 : S k = false := by
      cases e : S k with
      | false => rfl
      | true => exact absurd (h.2.1 k e) hk
    have e2 : S' k = false := by
      cases e : S' k with
      | false => rfl
      | true => exact absurd (h'.2.1 k e) hk
    rw [e1, e2]

/-- What a round over a changing set keeps: the set above what it was told, the closure's box, the table. -/
def KpChg (b : Nat) (lo : Option Nat) (B m x : Nat) (W W' : World) : Prop :=
  (∀ S, SetAt W b lo m S → ∃ S', SetAt W' b lo m S' ∧ ∀ k, x < k → S' k = S k) ∧ W'.heap[B]? = W.heap[B]? ∧ W'.heap[(1 : Nat)]? = W.heap[(1 : Nat)]?
theorem KpChg.trans {b : Nat} {lo : Option Nat} {B m x : Nat} {A C D : World} (h : KpChg b lo B m x A C) (k : KpChg b lo B m x C D) : KpChg b lo B m x A D := by
  refine ⟨fun S hS => ?_, k.2.1.trans h.2.1, k.2.2.trans h.2.2⟩
  obtain ⟨S1, h1, e1⟩ := h.1 S hS
  obtain ⟨S2, h2, e2⟩ := k.1 S1 h1
  exact ⟨S2, h2, fun i hi => (e2 i hi).trans (e1 i hi)⟩
theorem KpChg.putObj {b : Nat} {lo : Option Nat} {B m x : Nat} {n0 : Nat} (hb : b < n0) (hl : ∀ l, lo = some l → l < n0) (hB : B < n0) (ht : (1 : Nat) < n0) (W : World) (l : Nat) (o : Obj) (h : n0 ≤ l) : KpChg b lo B m x W (W.putObj l o) :=
  ⟨fun S hS => ⟨S, hS.turn (turn_putObj W o) (by show ¬ b = l; omega) (fun i e => by have := hl i e; show ¬ i = l; omega), fun _ _ => rfl⟩, World.putObj_heap_other (by omega), World.putObj_heap_other (by have := ht; omega)⟩
/-- The set is changed at x alone. -/
theorem KpChg.one {b : Nat} {lo : Option Nat} {B m x : Nat} {W W' : World} {S S' : Nat → Bool} (hA : SetAt W b lo m S) (hA' : SetAt W' b lo m S') (hS : ∀ k, x < k → S' k = S k) (hT : Turn (fun k => k = b ∨ lo = some k) W W')
    (hB : B < W.heap.size) (hBb : B ≠ b) (hBl : lo ≠ some B) (ht : (1 : Nat) < W.heap.size) (htb : (1 : Nat) ≠ b) (htl : lo ≠ some 1) : KpChg b lo B m x W W' :=
  ⟨fun S0 h0 => by rw [← hA.uniq h0]; exact ⟨S', hA', hS⟩, hT.block _ hB (by rintro (e | e); exact hBb e; exact hBl e), hT.block _ ht (by rintro (e | e); exact htb e; exact htl e)⟩

/-- What holds between two rounds over a changing set. -/
def AllRelE (b : Nat) (lo : Option Nat) (B m : Nat) (S : Nat → Bool) (J : List Nat → World → Prop) (vi vok : Value) (W : World) : Prop :=
  TabAt W ∧ W.cell? ⟨B, 0, none⟩ = some (.pointer (some ⟨b, 0, none⟩)) ∧ ∃ S', SetAt W b lo m S' ∧
    ∃ i, i ≤ m ∧ (∀ k, i ≤ k → S' k = S k) ∧ J (elems S i) W ∧ ((∃ j, NextIs S i j ∧ vi = .int .i64 (j : Int) ∧ vok = .bool true) ∨ ((∀ j, i ≤ j → S j = false) ∧ vi = .int .i64 0 ∧ vok = .bool false))

theorem allRelE_next {b : Nat} {lo : Option Nat} {B m : Nat} {S S' : Nat → Bool} {J : List Nat → World → Prop} {i : Nat} {W W' : World} {e : Ending} {n0 : Nat} (hi : i ≤ m) (hJa : AbidesFrom n0 J) (hA : SetAt W b lo m S') (hS : ∀ k, i ≤ k → S' k = S k) (hT : TabAt W)
    (hB : W.cell? ⟨B, 0, none⟩ = some (.pointer (some ⟨b, 0, none⟩))) (hJ : J (elems S i) W) (hP : NextPost b lo m S' i W e W') :
    ∃ vi vok, e = .returned (.tuple #[vi, vok]) ∧ AllRelE b lo B m S J vi vok W' ∧ (i = 0 ∨ allMu m vi vok < m + 1 - (i - 1)) := by
  obtain ⟨hres, hA', hTn⟩ := hP
  have hBl := same_below hA hA' hTn
  have hk : W.grownBy W' none := ⟨hBl.os, hBl.tape, hBl.output, hBl.size, fun k hk _ => hBl.block k hk⟩
  have hJ' := hJa _ _ _ _ hJ hk (fun r e => by cases e)
  have hT' : TabAt W' := fun j hj => (hBl.cell (p := ⟨1, j, none⟩) hT.lt).trans (hT j hj)
  have hB' : W'.cell? ⟨B, 0, none⟩ = some (.pointer (some ⟨b, 0, none⟩)) := (hBl.cell (p := ⟨B, 0, none⟩) (World.block_lt_of_cell? W _ hB)).trans hB
  rcases hres with ⟨j, hj, rfl⟩ | ⟨hn, rfl⟩
  · have hj2 : NextIs S i j := ⟨hj.1, (hS j hj.1).symm.trans hj.2.1, fun k h1 h2 => (hS k h1).symm.trans (hj.2.2 k h1 h2)⟩
    refine ⟨_, _, rfl, ⟨hT', hB', S', hA', i, hi, hS, hJ', .inl ⟨j, hj2, rfl, rfl⟩⟩, ?_⟩
    have h1 := hj.1
    have h2 := hA.2.1 j hj.2.1
    simp [allMu, intOf]; omega
  · refine ⟨_, _, rfl, ⟨hT', hB', S', hA', i, hi, hS, hJ', .inr ⟨fun j hj => (hS j hj).symm.trans (hn j hj), rfl, rfl⟩⟩, ?_⟩
    simp [allMu]; omega

set_option maxRecDepth 100000 in
set_option maxHeartbeats 2000000 in
theorem all1E_in (n : Nat) (b : Nat) (lo : Option Nat) (B l m : Nat) (S : Nat → Bool) (J Jx : List Nat → World → Prop) (W : World) (hJa : AbidesFrom W.heap.size J)
    (hY : ∀ pre (x : Nat) W1, x < m → (∃ S', SetAt W1 b lo m S' ∧ S' x = true) → J pre W1 → pre.length < m → YieldAt Fence.wide (n - 1) Tryz.prog l #[.int .i64 (x : Int)] W1 fun e W' =>
      (e = .returned (.bool true) ∧ J (pre ++ [x]) W' ∧ KpChg b lo B m x W1 W') ∨ (e = .returned (.bool false) ∧ Jx (pre ++ [x]) W'))
    (hA : SetAt W b lo m S) (hT : TabAt W) (hB : W.cell? ⟨B, 0, none⟩ = some (.pointer (some ⟨b, 0, none⟩))) (h0 : J [] W) :
    CallsIn Fence.wide n Tryz.prog 91 #[.func (.yield l) #[] #[], .pointer (some ⟨B, 0, none⟩)] W fun e W' => (∃ v, e = .returned v) ∧
      ((∃ xs, xs = elems S m ∧ J xs W') ∨ (∃ pre, (∃ i j, NextIs S i j ∧ pre = elems S (j + 1)) ∧ Jx pre W')) := by
  have hm4 := hA.1
  refine callsIn_of_wp Tryz.func91 rfl (by trivial) ?_ rfl
  simp only [Tryz.ntmps91, List.size_toArray, List.length_cons, List.length_nil, Nat.reduceAdd, Nat.reduceSub, Array.replicate_succ, Array.replicate_zero, List.push_toArray, List.append_toArray, List.nil_append, List.cons_append]
  gi_wp2_with fail
  refine ⟨trivial, fun h => (by cases h), ?_⟩
  refine (callsIn_wide.2 (next_any b lo m S 0 _ hA hT)).mono ?_
  intro e W1 hP
  obtain ⟨vi, vok, rfl, hR, _⟩ := allRelE_next (Nat.zero_le _) hJa hA (fun _ _ => rfl) hT hB h0 hP
  clear hP hA hT hB h0
  gi_wp2_with fail
  gi_loopw [3, 4] (fun vi vok wr => AllRelE b lo B m S J vi vok wr) (fun vi vok _ => allMu m vi vok)
  case atStart => exact hR
  case round =>
    obtain ⟨hT, hB, S', hA, i, hi, hSS, hJs, h⟩ := hrel
    have HSS := Lib.hid hSS
    clear hSS
    rcases h with ⟨j, hj, rfl, rfl⟩ | ⟨hn, rfl, rfl⟩
    · have hSj : S' j = true := (HSS.out j hj.1).trans hj.2.1
      have hjm : j < m := hA.2.1 j hSj
      obtain ⟨fn, tmps, assign, body, hy, hY2⟩ := hY _ j wr hjm ⟨S', hA, hSj⟩ hJs (Nat.lt_of_le_of_lt (Nat.le_trans (elems_length S i) hj.1) hjm)
      have HSJ := Lib.hid hSj
      clear hSj
      gi_wp2_with fail
      refine ⟨fun h => (by cases h), ?_⟩
      refine hY2.mono ?_
      rintro e W3 (⟨rfl, hJ3, hk3⟩ | ⟨rfl, hJx3⟩)
      · obtain ⟨S3, hA3, hS3⟩ := hk3.1 S' hA
        have HS3 : Hid (∀ k, j + 1 ≤ k → S3 k = S k) := Lib.hid fun k hk => (hS3 k (by omega)).trans (HSS.out k (by have := hj.1; omega))
        have hT3 : TabAt W3 := fun q hq => (World.cell?_of_block (w := wr) (a := ⟨1, q, none⟩) hk3.2.2).trans (hT q hq)
        have hB3 : W3.cell? ⟨B, 0, none⟩ = some (.pointer (some ⟨b, 0, none⟩)) := (World.cell?_of_block (w := wr) (a := ⟨B, 0, none⟩) hk3.2.1).trans hB
        rw [← elems_next hj] at hJ3
        clear hA hT hB hJs hk3 hy hY2 hS3
        gi_wp2_with fail
        refine ⟨trivial, fun h => (by cases h), ?_⟩
        rw [show ((j : Int) + 1) = ((j + 1 : Nat) : Int) by omega]
        refine (callsIn_wide.2 (next_any b lo m S3 (j + 1) _ hA3 hT3)).mono ?_
        intro e W4 hP
        obtain ⟨vi2, vok2, rfl, hR4, hmu⟩ := allRelE_next (Nat.succ_le_of_lt hjm) hJa hA3 HS3.out hT3 hB3 hJ3 hP
        clear hP
        have HM : Hid (allMu m vi2 vok2 < m + 1 - j) := by rcases hmu with h | h; exact absurd h (by omega); exact h
        clear hmu hA3 hT3 hB3 hJ3
        gi_wp2_with fail
        go_roundw
        case rel => exact hR4
        case measure =>
          have := HM.out
          simp [allMu, intOf] at this ⊢
          omega
      · gi_wp2_with fail
        go_end0
        exact ⟨⟨_, rfl⟩, .inr ⟨_, ⟨i, j, hj, (elems_next hj).symm⟩, hJx3⟩⟩
    · gi_wp2_with fail
      refine ⟨fun _ h => (by cases h), ?_⟩
      gi_wp2_with fail
      go_end0
      exact ⟨⟨_, rfl⟩, .inl ⟨_, rfl, by rw [elems_end hi hn]; exact hJs⟩⟩

/-- What holds as a number is told. -/
def ArrAll (b : Nat) (lo : Option Nat) (m x : Nat) (A C : World) : Prop := A = C ∧ ∃ S', SetAt A b lo m S' ∧ S' x = true

theorem all_seqE (n : Nat) (b : Nat) (lo : Option Nat) (B m : Nat) (S : Nat → Bool) (w : World) (hA : SetAt w b lo m S) (hT : TabAt w) (hB : w.cell? ⟨B, 0, none⟩ = some (.pointer (some ⟨b, 0, none⟩))) :
    SeqE Fence.wide n Tryz.prog 91 #[.pointer (some ⟨B, 0, none⟩)] (fun x : Fin 4096 => #[.int .i64 ((x.val : Nat) : Int)]) (fun x => KpChg b lo B m x.val) (fun x => ArrAll b lo m x.val)
      (fun xs => xs.map Fin.val = elems S m) (fun pre => ∃ i j, NextIs S i j ∧ pre.map Fin.val = elems S (j + 1)) m w := fun l J Jx Jm W hW hJ hJm hJx hArr hY h0 => by
  have hm := hA.1
  have weak : ∀ {β : Type} {X : β → World → Prop}, OwnFrom W.heap.size X → AbidesFrom W.heap.size X := fun hX s A B row hs hg hr =>
    hX s A B row hs hg (fun k e => by obtain ⟨h1, o, h2, h3⟩ := hr k e; exact ⟨h1, o, h2, Obj.not_cells_of_walk h3⟩)
  have hJa : AbidesFrom W.heap.size (fun (p : List Nat) W => ∃ (q : List (Fin 4096)) (O : Nat → Prop), q.map Fin.val = p ∧ J (q, O) W) := fun s W1 W2 row ⟨q, O, hq, hs⟩ hg hr => ⟨q, O, hq, weak hJ (q, O) W1 W2 row hs hg hr⟩
  refine (all1E_in n b lo B l m S (fun p W => ∃ (q : List (Fin 4096)) (O : Nat → Prop), q.map Fin.val = p ∧ J (q, O) W) (fun p W => ∃ (q : List (Fin 4096)) (O : Nat → Prop), q.map Fin.val = p ∧ Jx (q, O) W) W
    hJa ?_ (hA.below hW hA.lt.1 hA.lt.2) (fun j hj => (hW.cell (p := ⟨1, j, none⟩) hT.lt).trans (hT j hj))
    ((hW.cell (p := ⟨B, 0, none⟩) (World.block_lt_of_cell? w _ hB)).trans hB) ⟨[], _, rfl, h0⟩).mono ?_
  · rintro pre x W1 hx hS' ⟨q, O, rfl, hq⟩ hlen
    refine (hY q O ⟨x, by omega⟩ W1 (hArr q O ⟨x, by omega⟩ W1 W1 hq ⟨rfl, hS'⟩) (by simpa using hlen)).mono ?_
    rintro e W2 ⟨O', _, (⟨he, hj, hk⟩ | ⟨he, hj⟩)⟩
    · exact .inl ⟨he, ⟨_, O', by simp, hj⟩, hk⟩
    · exact .inr ⟨he, ⟨_, O', by simp, hj⟩⟩
  · rintro e W2 ⟨hv, (⟨xs, hxs, q, O, hq, hj⟩ | ⟨pre, hp, q, O, hq, hj⟩)⟩
    · exact ⟨hv, .inl ⟨q, O, hq.trans hxs, hj⟩⟩
    · obtain ⟨i, j, h1, h2⟩ := hp
      exact ⟨hv, .inr ⟨q, O, ⟨i, j, h1, hq.trans h2⟩, hj⟩⟩
end Go.Proofs.YtooddbhlanjfbaaGreatDoor

namespace Go.Proofs.YtooddbhlanjfbaaGreatDoor
open Go Go.RowKit Go.Shelf Go.MuLone Go.RwLone
set_option linter.unusedSimpArgs false
set_option linter.unusedVariables false
attribute [local go_sem] Oper.semAt_some

theorem takefn_any (t : Nat) (w : World) :
    Calls Tryz.prog 171 #[.pointer (some ⟨t, 0, none⟩)] w fun e w' => e = .returned (.func (.func 175) #[] #[.pointer (some ⟨w.heap.size, 0, none⟩)]) ∧ w.alloc (.cells #[.pointer (some ⟨t, 0, none⟩)] 96) = w' := by
  go_enter Tryz.func171, Tryz.ntmps171
  go_wp2_with fail
  go_ret
  exact ⟨rfl, rfl⟩

def dropN1 (S : Nat → Bool) (x : Nat) : Nat → Bool := fun j => S j && !decide (j = x)
/-- What a round over the dirty pages keeps. -/
def KpTk (C : CdB) (B m x : Nat) (W W' : World) : Prop := KpChg C.b C.lo B m x W W' ∧ W'.heap[C.t]? = W.heap[C.t]?
theorem KpTk.trans {C : CdB} {B m x : Nat} {A D E : World} (h : KpTk C B m x A D) (k : KpTk C B m x D E) : KpTk C B m x A E := ⟨h.1.trans k.1, k.2.trans h.2⟩
theorem KpTk.putObj {C : CdB} {B m x : Nat} {n0 : Nat} (hC : ∀ k, C.has k → k < n0) (hB : B < n0) (ht : (1 : Nat) < n0) (W : World) (l : Nat) (o : Obj) (h : n0 ≤ l) : KpTk C B m x W (W.putObj l o) :=
  ⟨KpChg.putObj (hC _ (.inr (.inl rfl))) (fun l hl => hC _ (.inr (.inr hl))) hB ht W l o h, World.putObj_heap_other (by have := hC _ (.inl rfl); omega)⟩
/-- A page is clean ahead of being told. -/
def ArrTk (C : CdB) (m x : Nat) (A D : World) : Prop := ∃ S, SetAt A C.b C.lo m S ∧ S x = true ∧ x < m ∧ SetAt D C.b C.lo m (dropN1 S x) ∧ Turn (fun k => k = C.b ∨ C.lo = some k) A D

set_option maxRecDepth 100000 in
set_option maxHeartbeats 4000000 in
theorem take_seq (n : Nat) (hn : 6 ≤ n) {C : CdB} {xa m : Nat} {S : Nat → Bool} (B : Nat) (w : World) (hC : CdAt w C xa m S) (hT : TabAt w) (hB : w.cell? ⟨B, 0, none⟩ = some (.pointer (some ⟨C.t, 0, none⟩)))
    (hBn : ¬ C.has B) (htn : ¬ C.has 1) :
    SeqE Fence.wide n Tryz.prog 175 #[.pointer (some ⟨B, 0, none⟩)] (fun x : Fin 4096 => #[.int .i64 ((x.val : Nat) : Int)]) (fun x => KpTk C B m x.val) (fun x => ArrTk C m x.val)
      (fun xs => xs.map Fin.val = elems S m) (fun pre => ∃ i j, NextIs S i j ∧ pre.map Fin.val = elems S (j + 1)) m w := fun l J Jx Jm W hW hJ hJm hJx hArr hY h0 => by
  have hCw := hC.lt
  replace hC : CdAt W C xa m S := hC.turn (Turn.ofBelow hW) (fun k hk e => by have := hCw k hk; omega)
  have hBl := World.block_lt_of_cell? w _ hB
  replace hB := (hW.cell (p := ⟨B, 0, none⟩) hBl).trans hB
  replace hT : TabAt W := fun j hj => (hW.cell (p := ⟨1, j, none⟩) hT.lt).trans (hT j hj)
  have hClt := hC.lt
  have hTlt := hT.lt
  have hBl2 : B < W.heap.size := World.block_lt_of_cell? W _ hB
  have hCt := hClt _ (.inl rfl)
  have hCb := hClt _ (.inr (.inl rfl))
  refine callsIn_of_wp_marks Tryz.func175 rfl (by trivial) ?_ rfl
  simp only [Tryz.ntmps175, List.size_toArray, List.length_cons, List.length_nil, Nat.reduceAdd, Nat.reduceSub, Array.replicate_succ, Array.replicate_zero, List.push_toArray, List.append_toArray, List.nil_append, List.cons_append]
  obtain ⟨V, hV⟩ : ∃ V, V = W.alloc (.cells #[.func (.yield l) #[] #[]] 90) := ⟨_, rfl⟩
  have hCV : CdAt V C xa m S := by rw [hV]; exact hC.turn ((Turn.refl (fun _ => False) W).alloc _) (fun _ _ h => h)
  have hBV : V.cell? ⟨B, 0, none⟩ = some (.pointer (some ⟨C.t, 0, none⟩)) := by rw [hV]; exact cell_allocKeep hB _
  have hTV : TabAt V := fun j hj => by rw [hV]; exact cell_allocKeep (hT j hj) _
  have hYV : V.cell? ⟨W.heap.size, 0, none⟩ = some (.func (.yield l) #[] #[]) := by rw [hV]; exact (Blk.new W _ _).cell 0
  have hVs : V.heap.size = W.heap.size + 1 := by rw [hV]; simp
  have hJV : J ([], fun _ => False) V := by rw [hV]; exact hJ.alloc _ h0
  have hc0 := hCV.c0
  have hcB : (W.alloc (.cells #[.func (.yield l) #[] #[]] 90)).cell? ⟨B, 0, none⟩ = some (.pointer (some ⟨C.t, 0, none⟩)) := by rw [← hV]; exact hBV
  rw [hV] at hc0
  have HV := Lib.hid hV
  clear hV
  gi_wp2_with fail
  refine ⟨trivial, fun h => (by cases h), ?_⟩
  rw [← HV.out]
  refine (callsIn_wide.2 (all_any C.b V)).mono ?_
  rintro e w' ⟨rfl, rfl⟩
  clear hc0 hcB
  have hC6 : CdAt (V.alloc (.cells #[.pointer (some ⟨C.b, 0, none⟩)] 84)) C xa m S := hCV.turn ((Turn.refl (fun _ => False) V).alloc _) (fun _ _ h => h)
  have hB6 : (V.alloc (.cells #[.pointer (some ⟨C.b, 0, none⟩)] 84)).cell? ⟨B, 0, none⟩ = some (.pointer (some ⟨C.t, 0, none⟩)) := cell_allocKeep hBV _
  have hT6 : TabAt (V.alloc (.cells #[.pointer (some ⟨C.b, 0, none⟩)] 84)) := fun j hj => cell_allocKeep (hTV j hj) _
  have hY6 : (V.alloc (.cells #[.pointer (some ⟨C.b, 0, none⟩)] 84)).cell? ⟨W.heap.size, 0, none⟩ = some (.func (.yield l) #[] #[]) := cell_allocKeep hYV _
  have hx : (V.alloc (.cells #[.pointer (some ⟨C.b, 0, none⟩)] 84)).cell? ⟨V.heap.size, 0, none⟩ = some (.pointer (some ⟨C.b, 0, none⟩)) := (Blk.new V _ _).cell 0
  have hs6 : (V.alloc (.cells #[.pointer (some ⟨C.b, 0, none⟩)] 84)).heap.size = V.heap.size + 1 := by simp
  have hJ6 : J ([], fun _ => False) (V.alloc (.cells #[.pointer (some ⟨C.b, 0, none⟩)] 84)) := hJ.alloc _ hJV
  gi_wp2_with fail
  generalize V.alloc (.cells #[.pointer (some ⟨C.b, 0, none⟩)] 84) = W6 at *
  generalize V.heap.size = s1 at *
  obtain rfl : s1 = W.heap.size + 1 := hVs
  have hs1 : W.heap.size + 1 + 1 ≤ W6.heap.size := by omega
  have hlo : ∀ l, C.lo = some l → l < W.heap.size := fun l hl => hClt _ (.inr (.inr hl))
  refine wpIn_rangeE rfl (by omega) (gf := 91) (lb := #[.pointer (some ⟨W.heap.size + 1, 0, none⟩)]) rfl trivial (enters_of Tryz.func91 (by kernel_rfl) rfl)
    (all_seqE (n - 1) C.b C.lo (W.heap.size + 1) m S W6 hC6.set hT6 hx) KpChg.trans
    (fun x V l o hl => KpChg.putObj (n0 := W6.heap.size) (by omega) (fun l hl => by have := hlo l hl; omega) (by omega) (by omega) V l o hl) (fun x A D h => ⟨by rw [h.1]; exact Nat.le_refl _, fun k _ _ => by rw [h.1]⟩) (Below.refl _ _) (fun _ => rfl)
    (fun st V => J st V ∧ V.cell? ⟨W.heap.size, 0, none⟩ = some (.func (.yield l) #[] #[]) ∧ W6.heap.size ≤ V.heap.size ∧ (∀ k, st.2 k → W6.heap.size ≤ k) ∧ V.cell? ⟨B, 0, none⟩ = some (.pointer (some ⟨C.t, 0, none⟩)) ∧ V.cell? ⟨C.t, 0, none⟩ = some (.pointer (some ⟨C.b, 0, none⟩)))
    (fun st V => (J st.1 V ∧ V.cell? ⟨W.heap.size, 0, none⟩ = some (.func (.yield l) #[] #[]) ∧ W6.heap.size ≤ V.heap.size ∧ (∀ k, st.1.2 k → W6.heap.size ≤ k) ∧ V.cell? ⟨B, 0, none⟩ = some (.pointer (some ⟨C.t, 0, none⟩)) ∧ V.cell? ⟨C.t, 0, none⟩ = some (.pointer (some ⟨C.b, 0, none⟩))) ∧ ∃ S', SetAt V C.b C.lo m S' ∧ S' st.2.val = true)
    (fun c st V => c = .ret ∧ Jx st V)
    (fun st V V' row hs hg hr => ⟨hJ st V V' row hs.1 hg (fun k e => ⟨by have := (hr k e).1; omega, (hr k e).2⟩), cell_kept hs.2.1 hg (fun k e => (hr k e).2), Nat.le_trans hs.2.2.1 hg.size, hs.2.2.2.1, cell_kept hs.2.2.2.2.1 hg (fun k e => (hr k e).2), cell_kept hs.2.2.2.2.2 hg (fun k e => (hr k e).2)⟩)
    (fun st V V' row hs hg hr => ⟨⟨hJ st.1 V V' row hs.1.1 hg (fun k e => ⟨by have := (hr k e).1; omega, (hr k e).2⟩), cell_kept hs.1.2.1 hg (fun k e => (hr k e).2), Nat.le_trans hs.1.2.2.1 hg.size, hs.1.2.2.2.1, cell_kept hs.1.2.2.2.2.1 hg (fun k e => (hr k e).2), cell_kept hs.1.2.2.2.2.2 hg (fun k e => (hr k e).2)⟩, by
      obtain ⟨S', h1, h2⟩ := hs.2
      exact ⟨S', h1.kept hg (fun k e => (hr k e).2), h2⟩⟩)
    (fun c st V V' row hs hg hr => ⟨hs.1, hJx st V V' row hs.2 hg (fun k e => ⟨by have := (hr k e).1; omega, (hr k e).2⟩)⟩)
    (fun pre O x A D hi ha => by
      obtain ⟨rfl, h2⟩ := ha
      exact ⟨hi, h2⟩)
    ⟨hJ6, hY6, Nat.le_refl _, fun _ h => h.elim, hB6, hC6.c0⟩ ?a1 ?assign ?body ?done ?stop
  case assign =>
    intro l0 x V K hK
    gi_wp2
    exact hK
  case body =>
    rintro l0 pre O x V ⟨⟨hj, hyc, hsz, hO, hcB, hcT⟩, S', hS', hSx⟩ hlen
    have hxm : x.val < m := hS'.2.1 _ hSx
    have cD := drop_at C.b C.lo m S' (dropN1 S' x.val) true x.val V hxm hS' hSx.symm rfl
    have hVlo : C.lo ≠ none := fun e => by
      have h2 := hS'.2.2
      rw [e] at h2
      have h3 := h2.2 x.val
      rw [hSx] at h3; cases h3
    gi_wp2_with fail
    refine ⟨trivial, fun h => (by cases h), ?_⟩
    refine ((callsIn_wide.2 cD).inRound l0).mono ?_
    rintro e V2 ⟨lo', rfl, hS2, hlo2, hT2⟩
    obtain rfl : lo' = C.lo := by
      rcases hlo2 with e | ⟨e, _⟩
      · exact e
      · exact absurd e hVlo
    have hM : ∀ k, (k = C.b ∨ C.lo = some k) → k < W.heap.size := by
      rintro k (rfl | e)
      · exact hCb
      · exact hlo k e
    have hjm := hArr pre O x V V2 hj ⟨S', hS', hSx, hxm, hS2, hT2⟩
    have hy2 : V2.cell? ⟨W.heap.size, 0, none⟩ = some (.func (.yield l) #[] #[]) := (hT2.cell (a := ⟨W.heap.size, 0, none⟩) (World.block_lt_of_cell? V _ hyc) (fun e => by have := hM _ e; simp only at this; omega)).trans hyc
    have hBh : V2.heap[B]? = V.heap[B]? := hT2.block B (World.block_lt_of_cell? V _ hcB) (fun e => hBn (.inr e))
    have hTh : V2.heap[C.t]? = V.heap[C.t]? := hT2.block C.t (World.block_lt_of_cell? V _ hcT) (by rintro (e | e); exact hC6.tb e; exact hC6.tl e)
    obtain ⟨fn, tmps, assign, body, hy, hYY⟩ := YieldAt.anyWide (n - 1 - 1 - 1) (hY pre O x V2 hjm hlen)
    clear cD
    gi_wp2_with fail
    refine ⟨fun _ => by omega, ?_⟩
    have hY3 : RoundIn (Fence.wide.inRound l0) (n - 1 - 1 - 1) Tryz.prog l fn tmps assign body V2 _ := hYY
    refine hY3.mono ?_
    have ho2 : Owned W6.heap.size O O V V2 := Owned.ofTurn hT2 (fun k e => by have := hM k e; omega)
    rintro e V3 ⟨O', ho, ⟨rfl, hj3, hk3⟩ | ⟨rfl, hj3⟩⟩
    · clear hY3 hYY hy
      have hOs : ∀ k, k < W6.heap.size → ¬ O k := fun k hk e => by have h1 : W6.heap.size ≤ k := hO k e; omega
      have hs2 := hT2.size
      have hy3 : V3.cell? ⟨W.heap.size, 0, none⟩ = some (.func (.yield l) #[] #[]) := (World.cell?_of_block (w := V2) (a := ⟨W.heap.size, 0, none⟩) (ho.same W.heap.size (Nat.le_refl _) (by omega) (hOs _ (by omega)))).trans hy2
      gi_wp2_with fail
      refine ⟨O', ho2.trans (ho.mono (by omega)), ⟨fun S0 h0 => ?_, (ho.same _ (by omega) (by omega) (hOs _ (by omega))).trans (hT2.block _ (by omega) (fun e => by have := hM _ e; omega)), hk3.1.2.2.trans (hT2.block _ (by omega) (fun e => htn (.inr e)))⟩, hj3, hy3, Nat.le_trans hsz (Nat.le_trans hs2 ho.size), fun k hk => ?_, ?_, ?_⟩
      · have e0 := hS'.uniq h0
        subst e0
        obtain ⟨S3, h3, e3⟩ := hk3.1.1 _ hS2
        exact ⟨S3, h3, fun k hk => (e3 k hk).trans (by unfold dropN1; rw [decide_eq_false (by omega)]; simp)⟩
      · rcases ho.own k hk with h | h
        · exact hO k h
        · omega
      · exact ((World.cell?_of_block (w := V2) (a := ⟨B, 0, none⟩) hk3.1.2.1).trans (World.cell?_of_block (w := V) (a := ⟨B, 0, none⟩) hBh)).trans hcB
      · exact ((World.cell?_of_block (w := V2) (a := ⟨C.t, 0, none⟩) hk3.2).trans (World.cell?_of_block (w := V) (a := ⟨C.t, 0, none⟩) hTh)).trans hcT
    · clear hY3 hYY hy
      gi_wp2_with fail
      exact ⟨O', ho2.trans (ho.mono (by omega)), rfl, hj3⟩
  case done =>
    rintro D xs O V hD hxs ⟨hj, _⟩ hK
    gi_wp2_with fail
    refine ⟨by simp, .inl ⟨D, _, rfl, run_takeDeferred hK, ?_⟩⟩
    exact ⟨_, results_none rfl _ _ _, ⟨_, rfl⟩, .inl ⟨xs, hxs, O, hJ.putObj _ hj (by omega) hK rfl⟩⟩
  case stop =>
    rintro D c pre O V hD hsp ⟨rfl, hj⟩ hK
    gi_wp2_with fail
    refine ⟨by simp, .inl ⟨D, _, rfl, run_takeDeferred hK, ?_⟩⟩
    exact ⟨_, results_none rfl _ _ _, ⟨_, rfl⟩, .inr ⟨pre, O, hsp, hJx.putObj _ hj (by omega) hK rfl⟩⟩
end Go.Proofs.YtooddbhlanjfbaaGreatDoor

namespace Go.Proofs.YtooddbhlanjfbaaGreatDoor
open Go Go.RowKit Go.Shelf Go.MuLone Go.RwLone
set_option linter.unusedSimpArgs false
set_option linter.unusedVariables false
attribute [local go_sem] Oper.semAt_some

/-- A taken cell's place in page p. -/
abbrev InPg (S : Nat → Bool) (p : Nat) : Type := { x : Fin 32 // S (32 * p + x.val + 1) = true }
def pgArgs {S : Nat → Bool} {p : Nat} (x : InPg S p) : Array Value := #[.int .i64 ((32 * p + x.1.val + 1 : Nat) : Int)]
def pgVals {S : Nat → Bool} {p : Nat} (q : List (InPg S p)) : List Nat := q.map fun x => x.1.val
def PgRel (X : ArB) (s : ArS) (B p : Nat) (J : List (InPg s.S p) → World → Prop) (v10 : Value) (W : World) : Prop :=
  ArMem W X s ∧ W.cell? ⟨B, 0, none⟩ = some (.pointer (some ⟨X.a, 0, none⟩)) ∧ W.cell? ⟨B + 1, 0, none⟩ = some (.int .i64 (p : Int)) ∧
    ∃ j : Nat, j ≤ 32 ∧ v10 = .int .i64 (j : Int) ∧ ∃ q : List (InPg s.S p), pgVals q = elems (inPage s.S p) j ∧ J q W

set_option maxRecDepth 100000 in
set_option maxHeartbeats 4000000 in
theorem pg1_in (n : Nat) {X : ArB} {s : ArS} (B l p : Nat) (hp : p < s.P) (J Jx : List (InPg s.S p) → World → Prop) (W : World) (hJa : AbidesFrom W.heap.size J)
    (hY : ∀ pre (x : InPg s.S p) W1, J pre W1 → pre.length < 32 → YieldAt Fence.wide (n - 1) Tryz.prog l (pgArgs x) W1 fun e W' =>
      (e = .returned (.bool true) ∧ J (pre ++ [x]) W' ∧ KpAr X B W1 W') ∨ (e = .returned (.bool false) ∧ Jx (pre ++ [x]) W'))
    (hA : ArMem W X s) (hB0 : W.cell? ⟨B, 0, none⟩ = some (.pointer (some ⟨X.a, 0, none⟩))) (hB1 : W.cell? ⟨B + 1, 0, none⟩ = some (.int .i64 (p : Int))) (h0 : J [] W) :
    CallsIn Fence.wide n Tryz.prog 177 #[.func (.yield l) #[] #[], .pointer (some ⟨B, 0, none⟩), .pointer (some ⟨B + 1, 0, none⟩)] W fun e W' => (∃ v, e = .returned v) ∧
      ((∃ xs : List (InPg s.S p), pgVals xs = elems (inPage s.S p) 32 ∧ J xs W') ∨ (∃ pre : List (InPg s.S p), (∃ j, inPage s.S p j = true ∧ pgVals pre = elems (inPage s.S p) (j + 1)) ∧ Jx pre W')) := by
  have hp64 := hA.p64
  refine callsIn_of_wp Tryz.func177 rfl (by trivial) ?_ rfl
  simp only [Tryz.ntmps177, List.size_toArray, List.length_cons, List.length_nil, Nat.reduceAdd, Nat.reduceSub, Array.replicate_succ, Array.replicate_zero, List.push_toArray, List.append_toArray, List.nil_append, List.cons_append]
  have cK := knowsP_any hA (p : Int)
  rw [decide_eq_true (by omega)] at cK
  gi_wp2_with fail
  refine ⟨trivial, fun h => (by cases h), ?_⟩
  refine (callsIn_wide.2 cK).mono ?_
  rintro e w' ⟨rfl, rfl⟩
  clear cK
  gi_wp2_with fail
  gi_loopw [10] (fun v10 wr => PgRel X s B p J v10 wr) (fun v10 _ => 32 - (intOf v10).toNat)
  case atStart => exact ⟨hA, hB0, hB1, 0, by omega, rfl, [], rfl, h0⟩
  case round =>
    clear hA hB0 hB1
    obtain ⟨hA, hB0, hB1, j, hj, rfl, q, hq, hJ⟩ := hrel
    have HQ := Lib.hid hq
    clear hq
    by_cases hlt : j < 32
    · have hJ1 : (j : Int) < 32 := by omega
      have cR := ref_any (w := wr) (p : Int) (j : Int) (by omega) (by omega) (by omega) (by omega)
      gi_wp2_with fail
      refine ⟨trivial, fun h => (by cases h), ?_⟩
      refine (callsIn_wide.2 cR).mono ?_
      rintro e w' ⟨rfl, rfl⟩
      clear cR
      gi_wp2_with fail
      refine ⟨trivial, fun h => (by cases h), ?_⟩
      cases hS : s.S (32 * p + j + 1) with
      | false =>
        have HS := Lib.hid hS
        clear hS
        refine (callsIn_wide.2 (hasW hA (32 * p + j + 1) _ false (by omega) HS.out)).mono ?_
        rintro e w4 ⟨rfl, hBl⟩
        have hA4 := hA.below hBl
        have hB04 : w4.cell? ⟨B, 0, none⟩ = some (.pointer (some ⟨X.a, 0, none⟩)) := (hBl.cell (p := ⟨B, 0, none⟩) (World.block_lt_of_cell? wr _ hB0)).trans hB0
        have hB14 : w4.cell? ⟨B + 1, 0, none⟩ = some (.int .i64 (p : Int)) := (hBl.cell (p := ⟨B + 1, 0, none⟩) (World.block_lt_of_cell? wr _ hB1)).trans hB1
        have hJ4 := abides_below hJa hJ hBl
        clear hA hB0 hB1 hJ
        gi_wp2_with fail
        refine ⟨fun f h => (by cases h), ?_⟩
        gi_wp2_with fail
        go_roundw
        case rel => exact ⟨hA4, hB04, hB14, j + 1, by omega, by go_num, q, by rw [elems_no (T := inPage s.S p) HS.out]; exact HQ.out, hJ4⟩
        case measure => simp [intOf]; omega
      | true =>
        have HS := Lib.hid hS
        clear hS
        refine (callsIn_wide.2 (hasW hA (32 * p + j + 1) _ true (by omega) HS.out)).mono ?_
        rintro e w4 ⟨rfl, hBl⟩
        have hA4 := hA.below hBl
        have hB04 : w4.cell? ⟨B, 0, none⟩ = some (.pointer (some ⟨X.a, 0, none⟩)) := (hBl.cell (p := ⟨B, 0, none⟩) (World.block_lt_of_cell? wr _ hB0)).trans hB0
        have hB14 : w4.cell? ⟨B + 1, 0, none⟩ = some (.int .i64 (p : Int)) := (hBl.cell (p := ⟨B + 1, 0, none⟩) (World.block_lt_of_cell? wr _ hB1)).trans hB1
        have hJ4 := abides_below hJa hJ hBl
        have hlen : q.length < 32 := by
          have h1 := congrArg List.length HQ.out
          unfold pgVals at h1
          rw [List.length_map] at h1
          have h2 := elems_length (inPage s.S p) j
          omega
        have hY' := hY q ⟨⟨j, hlt⟩, HS.out⟩ w4 hJ4 hlen
        unfold pgArgs at hY'
        rw [show ((32 * p + ((⟨⟨j, hlt⟩, HS.out⟩ : InPg s.S p)).1.val + 1 : Nat) : Int) = (p : Int) * 32 + (j : Int) + 1 by show ((32 * p + j + 1 : Nat) : Int) = _; omega] at hY'
        obtain ⟨fn, tmps, assign, body, hy, hY2⟩ := hY'
        clear hA hB0 hB1 hJ hJ4 hBl
        gi_wp2_with fail
        refine ⟨fun h => (by cases h), ?_⟩
        refine hY2.mono ?_
        rintro e W3 (⟨rfl, hJ3, hk3⟩ | ⟨rfl, hJx3⟩)
        · have hA3 := hA4.same hk3.1
          have hB03 : W3.cell? ⟨B, 0, none⟩ = some (.pointer (some ⟨X.a, 0, none⟩)) := (World.cell?_of_block (w := w4) (a := ⟨B, 0, none⟩) hk3.2.1).trans hB04
          have hB13 : W3.cell? ⟨B + 1, 0, none⟩ = some (.int .i64 (p : Int)) := (World.cell?_of_block (w := w4) (a := ⟨B + 1, 0, none⟩) hk3.2.2).trans hB14
          clear hA4 hB04 hB14 hk3 hy hY2
          gi_wp2_with fail
          go_roundw
          case rel => exact ⟨hA3, hB03, hB13, j + 1, by omega, by go_num, _, by unfold pgVals; rw [elems_yes (T := inPage s.S p) HS.out, List.map_append]; unfold pgVals at HQ; rw [HQ.out]; rfl, hJ3⟩
          case measure => simp [intOf]; omega
        · gi_wp2_with fail
          refine bodyPost_ret (results_none rfl _ _ _) rfl ?_
          exact ⟨⟨_, rfl⟩, .inr ⟨_, ⟨j, HS.out, by unfold pgVals; rw [elems_yes (T := inPage s.S p) HS.out, List.map_append]; unfold pgVals at HQ; rw [HQ.out]; rfl⟩, hJx3⟩⟩
    · obtain rfl : j = 32 := by omega
      gi_wp2_with fail
      go_end0
      exact ⟨⟨_, rfl⟩, .inl ⟨q, HQ.out, hJ⟩⟩
/-- The iterator over a page's cells. -/
theorem pg_stops (n : Nat) {X : ArB} {s : ArS} (B p : Nat) (hp : p < s.P) (w : World) (hA : ArMem w X s) (hB0 : w.cell? ⟨B, 0, none⟩ = some (.pointer (some ⟨X.a, 0, none⟩))) (hB1 : w.cell? ⟨B + 1, 0, none⟩ = some (.int .i64 (p : Int))) :
    SeqStopsK Fence.wide n Tryz.prog 177 #[.pointer (some ⟨B, 0, none⟩), .pointer (some ⟨B + 1, 0, none⟩)] (pgArgs (S := s.S) (p := p)) (KpAr X B)
      (fun xs => pgVals xs = elems (inPage s.S p) 32) (fun pre => ∃ j, inPage s.S p j = true ∧ pgVals pre = elems (inPage s.S p) (j + 1)) 32 w := fun l J Jx W hW hJa _ hY h0 =>
  pg1_in n B l p hp J Jx W hJa hY (hA.below hW) ((hW.cell (p := ⟨B, 0, none⟩) (World.block_lt_of_cell? w _ hB0)).trans hB0) ((hW.cell (p := ⟨B + 1, 0, none⟩) (World.block_lt_of_cell? w _ hB1)).trans hB1) h0
end Go.Proofs.YtooddbhlanjfbaaGreatDoor
