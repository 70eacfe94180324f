/- Plain: a range over an iterator that lays blocks of its own and hands each element on to another range's round. It speaks of no program's text. -/
import Derived.Test.YtidpmplkbgllfaaGreatDoorUa
import Derived.RangeFuncFrom
import Derived.RangeFuncNested
import Derived.RangeFuncBound
namespace Go.Proofs.YtidpmplkbgllfaaGreatDoor
open Go Go.RowKit

/-- From B on a round turns only what it owns, or lays anew. -/
structure Owned (B : Nat) (O O' : Nat → Prop) (W W' : World) : Prop where
  size : W.heap.size ≤ W'.heap.size
  same : ∀ k, B ≤ k → k < W.heap.size → ¬ O k → W'.heap[k]? = W.heap[k]?
  own : ∀ k, O' k → O k ∨ W.heap.size ≤ k
theorem Owned.mono {B B' : Nat} {O O' : Nat → Prop} {W W' : World} (h : Owned B O O' W W') (hB : B ≤ B') : Owned B' O O' W W' := ⟨h.size, fun k hk => h.same k (Nat.le_trans hB hk), h.own⟩
theorem Owned.refl (B : Nat) (O : Nat → Prop) (W : World) : Owned B O O W W := ⟨Nat.le_refl _, fun _ _ _ _ => rfl, fun _ h => .inl h⟩
theorem Owned.at_ {B : Nat} {O O' : Nat → Prop} {W W' : World} (h : Owned B O O' W W') {k : Nat} {o : Obj} (hk : W.heap[k]? = some o) (hB : B ≤ k) (hO : ¬ O k) : W'.heap[k]? = some o :=
  (h.same k hB (Array.getElem?_eq_some_iff.1 hk).1 hO).trans hk
/-- Some blocks below B are turned, nothing else. -/
theorem Owned.ofTurn {B : Nat} {O : Nat → Prop} {M : Nat → Prop} {W W' : World} (h : Turn M W W') (hM : ∀ k, M k → k < B) : Owned B O O W W' :=
  ⟨h.size, fun k hB hk _ => h.block k hk (fun e => by have := hM k e; omega), fun _ h => .inl h⟩

/-- An iterator whose rounds keep what it lays: S: all of them came; Sp: it was left behind these. -/
def SeqO {α : Type} (F : Fence) (n : Nat) (P : Program) (g : Nat) (lb : Array Value) (encs : α → Array Value) (Kp : World → World → Prop) (S Sp : List α → Prop) (N : Nat) (w : World) : Prop :=
  ∀ (l : Nat) (J Jx : List α × (Nat → Prop) → World → Prop) (W : World), Below w.heap.size w W → OwnFrom W.heap.size J → OwnFrom W.heap.size Jx →
    (∀ pre O (x : α) W1, J (pre, O) W1 → pre.length < N → YieldAt F (n - 1) P l (encs x) W1 fun e W' => ∃ O', Owned W.heap.size O O' W1 W' ∧
      ((e = .returned (.bool true) ∧ J (pre ++ [x], O') W' ∧ Kp W1 W') ∨ (e = .returned (.bool false) ∧ Jx (pre ++ [x], O') W'))) →
    J ([], fun _ => False) W →
    CallsIn F n P g (#[.func (.yield l) #[] #[]] ++ lb) W fun e W' => (∃ v, e = .returned v) ∧ ((∃ xs O, S xs ∧ J (xs, O) W') ∨ (∃ pre O, Sp pre ∧ Jx (pre, O) W'))

/-- How a round's body may be left. -/
def leftO {α : Type} (B : Nat) (Kp : World → World → Prop) (I : List α × (Nat → Prop) → World → Prop) (Ix : Code → List α × (Nat → Prop) → World → Prop) (O : Nat → Prop) (xs : List α) (W : World) : Exit → Act → World → Prop
  | .normal, _, W' => ∃ O', Owned B O O' W W' ∧ Kp W W' ∧ I (xs, O') W'
  | .ret, _, W' => ∃ O', Owned B O O' W W' ∧ Ix .ret (xs, O') W'
  | .exit id, _, W' => ∃ O', Owned B O O' W W' ∧ Ix (.exit id) (xs, O') W'
  | .goto _, _, _ => False
  | .panic _, _, _ => False
  | .outgrown, _, _ => False

section
variable {F : Fence} {n : Nat} {P : Program} {α : Type}

/-- The loop's record and its block for deferred calls stand where they were laid. -/
structure Books (l D : Nat) (r : Loop) (W : World) : Prop where
  rec_ : W.heap[l]? = some (.loop r)
  def_ : W.heap[D]? = some (.deferred (some []))
theorem Books.put {l D : Nat} {r r' : Loop} {W : World} (h : Books l D r W) (hne : D ≠ l) : Books l D r' (W.putObj l (.loop r')) :=
  ⟨World.putObj_heap_same (Array.getElem?_eq_some_iff.1 h.rec_).1, (World.putObj_heap_other hne).trans h.def_⟩
theorem Books.owned {B l D : Nat} {r : Loop} {O O' : Nat → Prop} {W W' : World} (h : Books l D r W) (hO : Owned B O O' W W') (h1 : B ≤ l) (h2 : B ≤ D) (h3 : ¬ O l) (h4 : ¬ O D) : Books l D r W' :=
  ⟨hO.at_ h.rec_ h1 h3, hO.at_ h.def_ h2 h4⟩
theorem Books.grown {B l D : Nat} {r : Loop} {W W' : World} {row : Option Nat} (h : Books l D r W) (hg : W.grownBy W' row) (hr : ∀ k, row = some k → B ≤ k) (h1 : l < B) (h2 : D < B) : Books l D r W' :=
  ⟨(hg.block l (Array.getElem?_eq_some_iff.1 h.rec_).1 (fun e => by have := hr l e.symm; omega)).trans h.rec_, (hg.block D (Array.getElem?_eq_some_iff.1 h.def_).1 (fun e => by have := hr D e.symm; omega)).trans h.def_⟩

theorem put_owned {B l : Nat} {O : Nat → Prop} {W : World} (o : Obj) (h : l < B) : Owned B O O W (W.putObj l o) :=
  ⟨by simp, fun k hB _ _ => World.putObj_heap_other (by omega), fun _ h => .inl h⟩
theorem Owned.trans {B : Nat} {O O' O2 : Nat → Prop} {W W' W2 : World} (h : Owned B O O' W W') (k : Owned B O' O2 W' W2) : Owned B O O2 W W2 := by
  refine ⟨Nat.le_trans h.size k.size, fun i hB hi hn => ?_, fun i hi => ?_⟩
  · exact (k.same i hB (Nat.lt_of_lt_of_le hi h.size) (fun e => by rcases h.own i e with x | x; exact hn x; omega)).trans (h.same i hB hi hn)
  · rcases k.own i hi with x | x
    · exact h.own i x
    · exact .inr (Nat.le_trans h.size x)

/-- A range over such an iterator. -/
theorem wpIn_rangeOC {g : Operand} {ps : Array Tmp} {assign body : Code} {Q : Exit → Act → World → Prop} {a : Act} {w : World} (hro : F.round = none) (h1 : 1 ≤ n) {gf : Nat} {lb : Array Value} (hg : a.eval g = .func (.func gf) #[] lb) (hFg : F.fn gf)
    (eg : ∀ args w, (callFunc gf args).run P w = .ok (.enter gf args) w) {encs : α → Array Value} {Kp : World → World → Prop} {S Sp : List α → Prop} {N : Nat} {w0 : World} (hseq : SeqO F (n - 1) P gf lb encs Kp S Sp N w0)
    (hKt : ∀ {A B C : World}, Kp A B → Kp B C → Kp A C) (hKb : ∀ (W : World) (l : Nat) (o o' : Obj), w.heap.size ≤ l → W.heap[l]? = some o → o.isCells = false → Kp W (W.putObj l o')) (hb0 : Below w0.heap.size w0 w) (hps : ∀ x, (encs x).size = ps.size)
    (I : List α × (Nat → Prop) → World → Prop) (Ix : Code → List α × (Nat → Prop) → World → Prop) (hI : OwnFrom w.heap.size I) (hIx : ∀ c, OwnFrom w.heap.size (Ix c)) (h0 : I ([], fun _ => False) w) (a₁ : α → Act)
    (hassign : ∀ (l : Nat) (x : α) (W : World) (K : Act → World → Prop), K (a₁ x) W →
      assign.wpIn (F.inRound l) (n - 1 - 1) P (Exit.then K (fun _ _ _ => False)) { tmps := (ps.zip (encs x)).foldl (fun t (p, v) => t.setIfInBounds p v) a.tmps, defers := [] } W)
    (hbody : ∀ (l : Nat) (pre : List α) (O : Nat → Prop) (x : α) (W : World), I (pre, O) W → pre.length < N → body.wpIn (F.inRound l) (n - 1 - 1) P (leftO w.heap.size Kp I Ix O (pre ++ [x]) W) (a₁ x) W)
    (hdone : ∀ (D : Nat) (xs : List α) (O : Nat → Prop) (W : World), w.heap.size ≤ D → S xs → I (xs, O) W → W.heap[D]? = some (.deferred (some [])) → Q .normal { a with defers := { target := .collected D, args := #[] } :: a.defers } W)
    (hstop : ∀ (D : Nat) (c : Code) (pre : List α) (O : Nat → Prop) (W : World), w.heap.size ≤ D → Sp pre → Ix c (pre, O) W → W.heap[D]? = some (.deferred (some [])) → c.wpIn F n P Q { a with defers := { target := .collected D, args := #[] } :: a.defers } W) :
    (Code.rangeFunc g ps assign body).wpIn F n P Q a w := by
  obtain ⟨D, hD⟩ : ∃ D, D = w.heap.size := ⟨_, rfl⟩
  obtain ⟨l, hl⟩ : ∃ l, l = D + 1 := ⟨_, rfl⟩
  have hne : D ≠ l := by omega
  refine wpIn_rangeFunc fun fn hfn => ?_
  obtain ⟨r, hr⟩ : ∃ r : LoopState → Option Code → Loop, r = fun st pe => { state := st, pending := pe, fn, tmps := a.tmps, params := ps, assign, body, defers := D } := ⟨_, rfl⟩
  obtain ⟨V, hV⟩ : ∃ V, V = (w.alloc (.deferred (some []))).alloc (.loop (r .ready none)) := ⟨_, rfl⟩
  have hVs : V.heap.size = l + 1 := by rw [hV, hl, hD]; simp
  have hVb : Books l D (r .ready none) V := by
    rw [hV, hl, hD]
    refine ⟨?_, (Below.heap_alloc _ _ _ (by simp)).trans (World.alloc_heap_new w _)⟩
    have := World.alloc_heap_new (w.alloc (.deferred (some []))) (.loop (r .ready none))
    rwa [World.size_alloc] at this
  have hVI : I ([], fun _ => False) V := by rw [hV]; exact hI.alloc _ (hI.alloc _ h0)
  have hVw : Below w0.heap.size w0 V := by
    rw [hV]; exact (hb0.alloc hb0.size _).alloc (by have := hb0.size; simp; omega) _
  refine ⟨l, [{ target := .collected D, args := #[] }], V, { target := .fn (.func gf) lb, args := #[.func (.yield l) #[] #[]] }, V, gf, #[.func (.yield l) #[] #[]] ++ lb, V, ?_, ?_, ?_, ?_, fun _ => h1, ?_⟩
  · rw [hro, hV, hr, hl, hD]; exact run_enterLoop_outer _ _ _ _ _
  · simp only [resolve, hg]
    simp [go_sem]
  · intro f hf; simp [Target.leads] at hf; subst hf; exact hFg
  · simp [invoke, go_sem, eg]
  have far : ∀ {A : World} {row : Option Nat}, (∀ k, row = some k → V.heap.size ≤ k ∧ ∃ o : Obj, A.heap[k]? = some o ∧ o.isCells = false) → ∀ k, row = some k → w.heap.size ≤ k ∧ ∃ o : Obj, A.heap[k]? = some o ∧ o.isCells = false := fun h k e => by
    obtain ⟨h2, h3⟩ := h k e
    exact ⟨by omega, h3⟩
  refine (hseq l (fun s W => I s W ∧ Books l D (r .ready none) W ∧ ∀ k, s.2 k → l < k) (fun s W => (∃ c, Ix c s W ∧ Books l D (r .done (some c)) W)) V hVw ?_ ?_ ?_ ⟨hVI, hVb, fun _ h => h.elim⟩).mono ?_
  · exact fun s A B row h hg' hr' => ⟨hI s A B row h.1 hg' (far hr'), h.2.1.grown hg' (fun k e => (hr' k e).1) (by omega) (by omega), h.2.2⟩
  · exact fun s A B row ⟨c, h, hb⟩ hg' hr' => ⟨c, hIx c s A B row h hg' (far hr'), hb.grown hg' (fun k e => (hr' k e).1) (by omega) (by omega)⟩
  · rintro pre O x W ⟨hi, hb, hO⟩ hlen
    have hsz : l < W.heap.size := (Array.getElem?_eq_some_iff.1 hb.rec_).1
    have hy := run_yield (P := P) (args := encs x) hb.rec_ (by rw [hr]; exact hps x)
    rw [hr] at hy
    refine ⟨fn, _, assign, body, hy, roundIn_of_wpIn hfn (hassign l x W _ ⟨_, run_beginRound hb.rec_ (by rw [hr]), ?_⟩)⟩
    obtain ⟨W1, hW1⟩ : ∃ W1, W1 = W.putObj l (.loop { r .ready none with state := .busy }) := ⟨_, rfl⟩
    rw [← hW1]
    have hb1 : Books l D { r .ready none with state := .busy } W1 := by rw [hW1]; exact hb.put hne
    have hi1 : I (pre, O) W1 := by rw [hW1]; exact hI.putObj _ hi (by omega) hb.rec_ rfl
    have ho1 : Owned V.heap.size O O W W1 := by rw [hW1]; exact put_owned _ (by omega)
    have hk1 : Kp W W1 := by rw [hW1]; exact hKb _ _ _ _ (by omega) hb.rec_ rfl
    have nl : ¬ O l := fun e => by have := hO _ e; omega
    have nD : ¬ O D := fun e => by have := hO _ e; omega
    have fin : ∀ (jump : Option Code) (O' : Nat → Prop) (W3 : World), Owned w.heap.size O O' W1 W3 → Books l D { r .ready none with state := .busy } W3 ∧ (Instr.endRound l jump).run P W3 = .ok (.bool jump.isNone) (W3.putObj l (.loop (r (if jump.isNone then .ready else .done) jump))) ∧
        Books l D (r (if jump.isNone then .ready else .done) jump) (W3.putObj l (.loop (r (if jump.isNone then .ready else .done) jump))) ∧ Owned V.heap.size O O' W (W3.putObj l (.loop (r (if jump.isNone then .ready else .done) jump))) ∧ ∀ k, O' k → l < k := fun jump O' W3 ho => by
      have hb3 := hb1.owned ho (by omega) (by omega) nl nD
      have he := run_endRound (P := P) jump hb3.rec_
      refine ⟨hb3, ?_, hb3.put hne, (ho1.trans (ho.mono (by omega))).trans (put_owned _ (by omega)), fun k hk => ?_⟩
      · rw [hr] at he ⊢; exact he
      · rcases ho.own k hk with y | y
        · exact hO k y
        · have := ho1.size; omega
    refine wpIn_mono (hbody l pre O x W1 hi1 hlen) ?_
    rintro e a3 W3 hp
    cases e with
    | normal =>
      obtain ⟨O', ho, hk, hi3⟩ := hp
      obtain ⟨hb3, he, hb4, ho4, hO4⟩ := fin none O' W3 ho
      exact ⟨_, _, he, O', ho4, .inl ⟨rfl, ⟨hI.putObj _ hi3 (by omega) hb3.rec_ rfl, hb4, hO4⟩, hKt (hKt hk1 hk) (hKb _ _ _ _ (by omega) hb3.rec_ rfl)⟩⟩
    | ret =>
      obtain ⟨O', ho, hi3⟩ := hp
      obtain ⟨hb3, he, hb4, ho4, hO4⟩ := fin (some .ret) O' W3 ho
      exact ⟨_, _, he, O', ho4, .inr ⟨rfl, .ret, (hIx _).putObj _ hi3 (by omega) hb3.rec_ rfl, hb4⟩⟩
    | exit id =>
      obtain ⟨O', ho, hi3⟩ := hp
      obtain ⟨hb3, he, hb4, ho4, hO4⟩ := fin (some (.exit id)) O' W3 ho
      exact ⟨_, _, he, O', ho4, .inr ⟨rfl, .exit id, (hIx _).putObj _ hi3 (by omega) hb3.rec_ rfl, hb4⟩⟩
    | goto t => exact hp.elim
    | panic ch => exact hp.elim
    | outgrown => exact hp.elim
  · rintro e W2 ⟨⟨v, rfl⟩, (⟨xs, O, hS, hi, hb, _⟩ | ⟨pre, O, hSp, c, hi, hb⟩)⟩
    · have he := run_endLoop (P := P) hb.rec_ (by rw [hr]; simp)
      rw [hr] at he
      exact ⟨none, _, he, hdone D xs O _ (by omega) hS (hI.putObj _ hi (by omega) hb.rec_ rfl) ((World.putObj_heap_other hne).trans hb.def_)⟩
    · have he := run_endLoop (P := P) hb.rec_ (by rw [hr]; simp)
      rw [hr] at he
      exact ⟨some c, _, he, hstop D c pre O _ (by omega) hSp ((hIx c).putObj _ hi (by omega) hb.rec_ rfl) ((World.putObj_heap_other hne).trans hb.def_)⟩

/-- .. whose rounds may turn any block that it lays. -/
theorem wpIn_rangeO {g : Operand} {ps : Array Tmp} {assign body : Code} {Q : Exit → Act → World → Prop} {a : Act} {w : World} (hro : F.round = none) (h1 : 1 ≤ n) {gf : Nat} {lb : Array Value} (hg : a.eval g = .func (.func gf) #[] lb) (hFg : F.fn gf)
    (eg : ∀ args w, (callFunc gf args).run P w = .ok (.enter gf args) w) {encs : α → Array Value} {Kp : World → World → Prop} {S Sp : List α → Prop} {N : Nat} {w0 : World} (hseq : SeqO F (n - 1) P gf lb encs Kp S Sp N w0)
    (hKt : ∀ {A B C : World}, Kp A B → Kp B C → Kp A C) (hKb : ∀ (W : World) (l : Nat) (o : Obj), w.heap.size ≤ l → Kp W (W.putObj l o)) (hb0 : Below w0.heap.size w0 w) (hps : ∀ x, (encs x).size = ps.size)
    (I : List α × (Nat → Prop) → World → Prop) (Ix : Code → List α × (Nat → Prop) → World → Prop) (hI : OwnFrom w.heap.size I) (hIx : ∀ c, OwnFrom w.heap.size (Ix c)) (h0 : I ([], fun _ => False) w) (a₁ : α → Act)
    (hassign : ∀ (l : Nat) (x : α) (W : World) (K : Act → World → Prop), K (a₁ x) W →
      assign.wpIn (F.inRound l) (n - 1 - 1) P (Exit.then K (fun _ _ _ => False)) { tmps := (ps.zip (encs x)).foldl (fun t (p, v) => t.setIfInBounds p v) a.tmps, defers := [] } W)
    (hbody : ∀ (l : Nat) (pre : List α) (O : Nat → Prop) (x : α) (W : World), I (pre, O) W → pre.length < N → body.wpIn (F.inRound l) (n - 1 - 1) P (leftO w.heap.size Kp I Ix O (pre ++ [x]) W) (a₁ x) W)
    (hdone : ∀ (D : Nat) (xs : List α) (O : Nat → Prop) (W : World), w.heap.size ≤ D → S xs → I (xs, O) W → W.heap[D]? = some (.deferred (some [])) → Q .normal { a with defers := { target := .collected D, args := #[] } :: a.defers } W)
    (hstop : ∀ (D : Nat) (c : Code) (pre : List α) (O : Nat → Prop) (W : World), w.heap.size ≤ D → Sp pre → Ix c (pre, O) W → W.heap[D]? = some (.deferred (some [])) → c.wpIn F n P Q { a with defers := { target := .collected D, args := #[] } :: a.defers } W) :
    (Code.rangeFunc g ps assign body).wpIn F n P Q a w :=
  wpIn_rangeOC hro h1 hg hFg eg hseq hKt (fun W l _ o' hl _ _ => hKb W l o' hl) hb0 hps I Ix hI hIx h0 a₁ hassign hbody hdone hstop

/-- An iterator that lays nothing that lasts is such an iterator. -/
theorem SeqO.ofK {g : Nat} {lb : Array Value} {encs : α → Array Value} {Kp : World → World → Prop} {S Sp : List α → Prop} {N : Nat} {w : World} (h : SeqStopsK F n P g lb encs Kp S Sp N w) : SeqO F n P g lb encs Kp S Sp N w := fun l J Jx W hW hJ hJx hY h0 => by
  have weak : ∀ {β : Type} {X : β → World → Prop}, OwnFrom W.heap.size X → AbidesFrom W.heap.size X := fun hX s A B row hs hg hr =>
    hX s A B row hs hg (fun k e => by obtain ⟨h1, o, h2, h3⟩ := hr k e; exact ⟨h1, o, h2, Obj.not_cells_of_walk h3⟩)
  refine (h l (fun pre W => ∃ O, J (pre, O) W) (fun pre W => ∃ O, Jx (pre, O) W) W hW (weak fun s A B row ⟨O, hs⟩ hg hr => ⟨O, hJ _ A B row hs hg hr⟩) (weak fun s A B row ⟨O, hs⟩ hg hr => ⟨O, hJx _ A B row hs hg hr⟩)
    (fun pre x W1 ⟨O, hj⟩ hlen => (hY pre O x W1 hj hlen).mono fun e W' ⟨O', _, h⟩ => ?_) ⟨_, h0⟩).mono ?_
  · rcases h with ⟨he, h1, h2⟩ | ⟨he, h1⟩
    · exact .inl ⟨he, ⟨O', h1⟩, h2⟩
    · exact .inr ⟨he, O', h1⟩
  · rintro e W' ⟨hv, (⟨xs, hS, O, hj⟩ | ⟨pre, hp, O, hj⟩)⟩
    · exact ⟨hv, .inl ⟨xs, O, hS, hj⟩⟩
    · exact ⟨hv, .inr ⟨pre, O, hp, hj⟩⟩
end
end Go.Proofs.YtidpmplkbgllfaaGreatDoor
