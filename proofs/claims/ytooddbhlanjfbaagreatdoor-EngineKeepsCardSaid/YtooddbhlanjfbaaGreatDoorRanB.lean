/- Plain: a range whose rounds lay a box for what comes; it speaks of no program's text. -/
import Derived.Test.YtooddbhlanjfbaaGreatDoorUe
namespace Go.Proofs.YtooddbhlanjfbaaGreatDoor
open Go Go.RowKit
section
variable {F : Fence} {n : Nat} {P : Program} {α : Type}
/-- A range over such an iterator, whose rounds lay a box for what comes. -/
theorem wpIn_rangeTB {g : Operand} {ps : Array Tmp} {assign body : Code} {Q : Exit → Act → World → Prop} {a : Act} {w : World} (hro : F.round = none) (h1 : 1 ≤ n) {gf : Nat} {lb : Array Value} (hg : a.eval g = .func (.func gf) #[] lb) (hFg : F.fn gf)
    (eg : ∀ args w, (callFunc gf args).run P w = .ok (.enter gf args) w) {encs : α → Array Value} {Kp : World → World → Prop} {S Sp : List α → Prop} {N : Nat} {w0 : World} (hseq : SeqT F (n - 1) P gf lb encs Kp S Sp N w0)
    (hKt : ∀ {A B C : World}, Kp A B → Kp B C → Kp A C) (hKb : ∀ (W : World) (l : Nat) (o o' : Obj), w.heap.size ≤ l → W.heap[l]? = some o → o.isCells = false → Kp W (W.putObj l o')) (hKa : ∀ (W : World) (o : Obj), w.heap.size ≤ W.heap.size → Kp W (W.alloc o)) (hb0 : Below w0.heap.size w0 w) (hps : ∀ x, (encs x).size = ps.size)
    (I : List α × (Nat → Prop) → World → Prop) (Ix : Code → List α × (Nat → Prop) → World → Prop) (hI : OwnFrom w.heap.size I) (hIx : ∀ c, OwnFrom w.heap.size (Ix c)) (h0 : I ([], fun _ => False) w) (bo : α → Obj) (a₁ : α → Nat → Act)
    (hassign : ∀ (l : Nat) (x : α) (W : World) (K : Act → World → Prop), K (a₁ x W.heap.size) (W.alloc (bo x)) →
      assign.wpIn (F.inRound l) (n - 1 - 1) P (Exit.then K (fun _ _ _ => False)) { tmps := (ps.zip (encs x)).foldl (fun t (p, v) => t.setIfInBounds p v) a.tmps, defers := [] } W)
    (hbody : ∀ (l : Nat) (pre : List α) (O : Nat → Prop) (x : α) (b : Nat) (W : World), w.heap.size ≤ l → (∃ r, W.heap[l]? = some (.loop r)) → l < b → (∀ k, O k → l < k ∧ k < b) → W.heap[b]? = some (bo x) → W.heap.size = b + 1 → I (pre, O) W → pre.length < N → body.wpIn (F.inRound l) (n - 1 - 1) P (leftT w.heap.size Kp I Ix O (pre ++ [x]) W) (a₁ x b) W)
    (hdone : ∀ (D : Nat) (xs : List α) (O : Nat → Prop) (W : World), w.heap.size ≤ D → (∀ k, O k → D < k ∧ k < W.heap.size) → S xs → I (xs, O) W → W.heap[D]? = some (.deferred (some [])) → Q .normal { a with defers := { target := .collected D, args := #[] } :: a.defers } W)
    (hstop : ∀ (D : Nat) (c : Code) (pre : List α) (O : Nat → Prop) (W : World), w.heap.size ≤ D → Sp pre → Ix c (pre, O) W → W.heap[D]? = some (.deferred (some [])) → c.wpIn F n P Q { a with defers := { target := .collected D, args := #[] } :: a.defers } W) :
    (Code.rangeFunc g ps assign body).wpIn F n P Q a w := by
  obtain ⟨D, hD⟩ : ∃ D, D = w.heap.size := ⟨_, rfl⟩
  obtain ⟨l, hl⟩ : ∃ l, l = D + 1 := ⟨_, rfl⟩
  have hne : D ≠ l := by omega
  refine wpIn_rangeFunc fun fn hfn => ?_
  obtain ⟨r, hr⟩ : ∃ r : LoopState → Option Code → Loop, r = fun st pe => { state := st, pending := pe, fn, tmps := a.tmps, params := ps, assign, body, defers := D } := ⟨_, rfl⟩
  obtain ⟨V, hV⟩ : ∃ V, V = (w.alloc (.deferred (some []))).alloc (.loop (r .ready none)) := ⟨_, rfl⟩
  have hVs : V.heap.size = l + 1 := by rw [hV, hl, hD]; simp
  have hVb : BooksT l D (r .ready none) V := by
    rw [hV, hl, hD]
    refine ⟨?_, (Below.heap_alloc _ _ _ (by simp)).trans (World.alloc_heap_new w _)⟩
    have := World.alloc_heap_new (w.alloc (.deferred (some []))) (.loop (r .ready none))
    rwa [World.size_alloc] at this
  have hVI : I ([], fun _ => False) V := by rw [hV]; exact hI.alloc _ (hI.alloc _ h0)
  have hVw : Below w0.heap.size w0 V := by
    rw [hV]; exact (hb0.alloc hb0.size _).alloc (by have := hb0.size; simp; omega) _
  refine ⟨l, [{ target := .collected D, args := #[] }], V, { target := .fn (.func gf) lb, args := #[.func (.yield l) #[] #[]] }, V, gf, #[.func (.yield l) #[] #[]] ++ lb, V, ?_, ?_, ?_, ?_, fun _ => h1, ?_⟩
  · rw [hro, hV, hr, hl, hD]; exact run_enterLoop_outer _ _ _ _ _
  · simp only [resolve, hg]
    simp [go_sem]
  · intro f hf; simp [Target.leads] at hf; subst hf; exact hFg
  · simp [invoke, go_sem, eg]
  have far : ∀ {A : World} {row : Option Nat}, (∀ k, row = some k → V.heap.size ≤ k ∧ ∃ o : Obj, A.heap[k]? = some o ∧ o.isCells = false) → ∀ k, row = some k → w.heap.size ≤ k ∧ ∃ o : Obj, A.heap[k]? = some o ∧ o.isCells = false := fun h k e => by
    obtain ⟨h2, h3⟩ := h k e
    exact ⟨by omega, h3⟩
  refine (hseq l (fun s W => I s W ∧ BooksT l D (r .ready none) W ∧ ∀ k, s.2 k → l < k ∧ k < W.heap.size) (fun s W => (∃ c, Ix c s W ∧ BooksT l D (r .done (some c)) W)) V hVw ?_ ?_ ?_ ⟨hVI, hVb, fun _ h => h.elim⟩).mono ?_
  · exact fun s A B row h hg' hr' => ⟨hI s A B row h.1 hg' (far hr'), h.2.1.grown hg' (fun k e => (hr' k e).1) (by omega) (by omega), fun k hk => ⟨(h.2.2 k hk).1, Nat.lt_of_lt_of_le (h.2.2 k hk).2 hg'.size⟩⟩
  · exact fun s A B row ⟨c, h, hb⟩ hg' hr' => ⟨c, hIx c s A B row h hg' (far hr'), hb.grown hg' (fun k e => (hr' k e).1) (by omega) (by omega)⟩
  · rintro pre O x W ⟨hi, hb, hO⟩ hlen
    have hsz : l < W.heap.size := (Array.getElem?_eq_some_iff.1 hb.rec_).1
    have hy := run_yield (P := P) (args := encs x) hb.rec_ (by rw [hr]; exact hps x)
    rw [hr] at hy
    have hbA : BooksT l D (r .ready none) (W.alloc (bo x)) := ⟨(Below.heap_alloc _ _ _ hsz).trans hb.rec_, (Below.heap_alloc _ _ _ (Array.getElem?_eq_some_iff.1 hb.def_).1).trans hb.def_⟩
    refine ⟨fn, _, assign, body, hy, roundIn_of_wpIn hfn (hassign l x W _ ⟨_, run_beginRound hbA.rec_ (by rw [hr]), ?_⟩)⟩
    obtain ⟨W1, hW1⟩ : ∃ W1, W1 = (W.alloc (bo x)).putObj l (.loop { r .ready none with state := .busy }) := ⟨_, rfl⟩
    rw [← hW1]
    have hb1 : BooksT l D { r .ready none with state := .busy } W1 := by rw [hW1]; exact hbA.put hne
    have hi1 : I (pre, O) W1 := by rw [hW1]; exact hI.putObj _ (hI.alloc _ hi) (by omega) hbA.rec_ rfl
    have ho0 : OwnedT V.heap.size O O W (W.alloc (bo x)) := ⟨by simp, fun k _ hk _ => Below.heap_alloc _ _ _ hk, fun _ h => .inl h⟩
    have ho1 : OwnedT V.heap.size O O W W1 := by rw [hW1]; exact ho0.trans (put_ownedT _ (by omega))
    have hs1 : W1.heap.size = W.heap.size + 1 := by rw [hW1]; simp
    have hbx : W1.heap[W.heap.size]? = some (bo x) := by rw [hW1, World.putObj_heap_other (by omega)]; exact World.alloc_heap_new _ _
    have hk1 : Kp W W1 := by rw [hW1]; exact hKt (hKa W _ (by omega)) (hKb _ _ _ _ (by omega) hbA.rec_ rfl)
    have nl : ¬ O l := fun e => by have := (hO _ e).1; omega
    have nD : ¬ O D := fun e => by have := (hO _ e).1; omega
    have fin : ∀ (jump : Option Code) (O' : Nat → Prop) (W3 : World), OwnedT w.heap.size O O' W1 W3 → BooksT l D { r .ready none with state := .busy } W3 ∧ (Instr.endRound l jump).run P W3 = .ok (.bool jump.isNone) (W3.putObj l (.loop (r (if jump.isNone then .ready else .done) jump))) ∧
        BooksT l D (r (if jump.isNone then .ready else .done) jump) (W3.putObj l (.loop (r (if jump.isNone then .ready else .done) jump))) ∧ OwnedT V.heap.size O O' W (W3.putObj l (.loop (r (if jump.isNone then .ready else .done) jump))) ∧ ∀ k, O' k → l < k ∧ k < (W3.putObj l (.loop (r (if jump.isNone then .ready else .done) jump))).heap.size := fun jump O' W3 ho => by
      have hb3 := hb1.owned ho (by omega) (by omega) nl nD
      have he := run_endRound (P := P) jump hb3.rec_
      refine ⟨hb3, ?_, hb3.put hne, (ho1.trans (ho.mono (by omega))).trans (put_ownedT _ (by omega)), fun k hk => ?_⟩
      · rw [hr] at he ⊢; exact he
      · have h9 := ho.size
        rw [World.putObj_size]
        rcases ho.own k hk with y | y
        · have := hO k y; omega
        · omega
    refine wpIn_mono (hbody l pre O x W.heap.size W1 (by omega) ⟨_, hb1.rec_⟩ hsz hO hbx hs1 hi1 hlen) ?_
    rintro e a3 W3 hp
    cases e with
    | normal =>
      obtain ⟨O', ho, hk, hi3⟩ := hp
      obtain ⟨hb3, he, hb4, ho4, hO4⟩ := fin none O' W3 ho
      exact ⟨_, _, he, O', ho4, .inl ⟨rfl, ⟨hI.putObj _ hi3 (by omega) hb3.rec_ rfl, hb4, hO4⟩, hKt (hKt hk1 hk) (hKb _ _ _ _ (by omega) hb3.rec_ rfl)⟩⟩
    | ret =>
      obtain ⟨O', ho, hi3⟩ := hp
      obtain ⟨hb3, he, hb4, ho4, hO4⟩ := fin (some .ret) O' W3 ho
      exact ⟨_, _, he, O', ho4, .inr ⟨rfl, .ret, (hIx _).putObj _ hi3 (by omega) hb3.rec_ rfl, hb4⟩⟩
    | exit id =>
      obtain ⟨O', ho, hi3⟩ := hp
      obtain ⟨hb3, he, hb4, ho4, hO4⟩ := fin (some (.exit id)) O' W3 ho
      exact ⟨_, _, he, O', ho4, .inr ⟨rfl, .exit id, (hIx _).putObj _ hi3 (by omega) hb3.rec_ rfl, hb4⟩⟩
    | goto t => exact hp.elim
    | panic ch => exact hp.elim
    | outgrown => exact hp.elim
  · rintro e W2 ⟨⟨v, rfl⟩, (⟨xs, O, hS, hi, hb, hO⟩ | ⟨pre, O, hSp, c, hi, hb⟩)⟩
    · have he := run_endLoop (P := P) hb.rec_ (by rw [hr]; simp)
      rw [hr] at he
      exact ⟨none, _, he, hdone D xs O _ (by omega) (fun k hk => by have := hO k hk; rw [World.putObj_size]; omega) hS (hI.putObj _ hi (by omega) hb.rec_ rfl) ((World.putObj_heap_other hne).trans hb.def_)⟩
    · have he := run_endLoop (P := P) hb.rec_ (by rw [hr]; simp)
      rw [hr] at he
      exact ⟨some c, _, he, hstop D c pre O _ (by omega) hSp ((hIx c).putObj _ hi (by omega) hb.rec_ rfl) ((World.putObj_heap_other hne).trans hb.def_)⟩

end
end Go.Proofs.YtooddbhlanjfbaaGreatDoor
