/- Plain: a range over an iterator that changes something as it comes to an element (Arr), and whose rounds may change what depends on the element (Kp x). It speaks of no program's text. -/
import Derived.Test.YtfipflghnhfcjaaDoorRange
namespace Go.Proofs.YtfipflghnhfcjaaDoor
open Go Go.RowKit

/-- As SeqO; Arr: what the iterator does ahead of telling an element; Jm: what holds as it is told. -/
def SeqE {α : Type} (F : Fence) (n : Nat) (P : Program) (g : Nat) (lb : Array Value) (encs : α → Array Value) (Kp Arr : α → World → World → Prop) (S Sp : List α → Prop) (N : Nat) (w : World) : Prop :=
  ∀ (l : Nat) (J Jx : List α × (Nat → Prop) → World → Prop) (Jm : (List α × (Nat → Prop)) × α → World → Prop) (W : World), Below w.heap.size w W → OwnFrom W.heap.size J → OwnFrom W.heap.size Jm → OwnFrom W.heap.size Jx →
    (∀ pre O (x : α) A C, J (pre, O) A → Arr x A C → Jm ((pre, O), x) C) →
    (∀ pre O (x : α) W1, Jm ((pre, O), x) W1 → pre.length < N → YieldAt F (n - 1) P l (encs x) W1 fun e W' => ∃ O', Owned W.heap.size O O' W1 W' ∧
      ((e = .returned (.bool true) ∧ J (pre ++ [x], O') W' ∧ Kp x W1 W') ∨ (e = .returned (.bool false) ∧ Jx (pre ++ [x], O') W'))) →
    J ([], fun _ => False) W →
    CallsIn F n P g (#[.func (.yield l) #[] #[]] ++ lb) W fun e W' => (∃ v, e = .returned v) ∧ ((∃ xs O, S xs ∧ J (xs, O) W') ∨ (∃ pre O, Sp pre ∧ Jx (pre, O) W'))

section
variable {F : Fence} {n : Nat} {P : Program} {α : Type}

/-- A range over such an iterator. -/
theorem wpIn_rangeE {g : Operand} {ps : Array Tmp} {assign body : Code} {Q : Exit → Act → World → Prop} {a : Act} {w : World} (hro : F.round = none) (h1 : 1 ≤ n) {gf : Nat} {lb : Array Value} (hg : a.eval g = .func (.func gf) #[] lb) (hFg : F.fn gf)
    (eg : ∀ args w, (callFunc gf args).run P w = .ok (.enter gf args) w) {encs : α → Array Value} {Kp Arr : α → World → World → Prop} {S Sp : List α → Prop} {N : Nat} {w0 : World} (hseq : SeqE F (n - 1) P gf lb encs Kp Arr S Sp N w0)
    (hKt : ∀ {x : α} {A B C : World}, Kp x A B → Kp x B C → Kp x A C) (hKb : ∀ (x : α) (W : World) (l : Nat) (o : Obj), w.heap.size ≤ l → Kp x W (W.putObj l o))
    (hAo : ∀ (x : α) (A C : World), Arr x A C → A.heap.size ≤ C.heap.size ∧ ∀ k, w.heap.size ≤ k → k < A.heap.size → C.heap[k]? = A.heap[k]?) (hb0 : Below w0.heap.size w0 w) (hps : ∀ x, (encs x).size = ps.size)
    (I : List α × (Nat → Prop) → World → Prop) (Im : (List α × (Nat → Prop)) × α → World → Prop) (Ix : Code → List α × (Nat → Prop) → World → Prop) (hI : OwnFrom w.heap.size I) (hIm : OwnFrom w.heap.size Im) (hIx : ∀ c, OwnFrom w.heap.size (Ix c))
    (hArr : ∀ pre O (x : α) A C, I (pre, O) A → Arr x A C → Im ((pre, O), x) C) (h0 : I ([], fun _ => False) w) (a₁ : α → Act)
    (hassign : ∀ (l : Nat) (x : α) (W : World) (K : Act → World → Prop), K (a₁ x) W →
      assign.wpIn (F.inRound l) (n - 1 - 1) P (Exit.then K (fun _ _ _ => False)) { tmps := (ps.zip (encs x)).foldl (fun t (p, v) => t.setIfInBounds p v) a.tmps, defers := [] } W)
    (hbody : ∀ (l : Nat) (pre : List α) (O : Nat → Prop) (x : α) (W : World), Im ((pre, O), x) W → pre.length < N → body.wpIn (F.inRound l) (n - 1 - 1) P (leftO w.heap.size (Kp x) I Ix O (pre ++ [x]) W) (a₁ x) W)
    (hdone : ∀ (D : Nat) (xs : List α) (O : Nat → Prop) (W : World), w.heap.size ≤ D → S xs → I (xs, O) W → W.heap[D]? = some (.deferred (some [])) → Q .normal { a with defers := { target := .collected D, args := #[] } :: a.defers } W)
    (hstop : ∀ (D : Nat) (c : Code) (pre : List α) (O : Nat → Prop) (W : World), w.heap.size ≤ D → Sp pre → Ix c (pre, O) W → W.heap[D]? = some (.deferred (some [])) → c.wpIn F n P Q { a with defers := { target := .collected D, args := #[] } :: a.defers } W) :
    (Code.rangeFunc g ps assign body).wpIn F n P Q a w := by
  obtain ⟨D, hD⟩ : ∃ D, D = w.heap.size := ⟨_, rfl⟩
  obtain ⟨l, hl⟩ : ∃ l, l = D + 1 := ⟨_, rfl⟩
  have hne : D ≠ l := by omega
  refine wpIn_rangeFunc fun fn hfn => ?_
  obtain ⟨r, hr⟩ : ∃ r : LoopState → Option Code → Loop, r = fun st pe => { state := st, pending := pe, fn, tmps := a.tmps, params := ps, assign, body, defers := D } := ⟨_, rfl⟩
  obtain ⟨V, hV⟩ : ∃ V, V = (w.alloc (.deferred (some []))).alloc (.loop (r .ready none)) := ⟨_, rfl⟩
  have hVs : V.heap.size = l + 1 := by rw [hV, hl, hD]; simp
  have hVb : Books l D (r .ready none) V := by
    rw [hV, hl, hD]
    refine ⟨?_, (Below.heap_alloc _ _ _ (by simp)).trans (World.alloc_heap_new w _)⟩
    have := World.alloc_heap_new (w.alloc (.deferred (some []))) (.loop (r .ready none))
    rwa [World.size_alloc] at this
  have hVI : I ([], fun _ => False) V := by rw [hV]; exact hI.alloc _ (hI.alloc _ h0)
  have hVw : Below w0.heap.size w0 V := by
    rw [hV]; exact (hb0.alloc hb0.size _).alloc (by have := hb0.size; simp; omega) _
  refine ⟨l, [{ target := .collected D, args := #[] }], V, { target := .fn (.func gf) lb, args := #[.func (.yield l) #[] #[]] }, V, gf, #[.func (.yield l) #[] #[]] ++ lb, V, ?_, ?_, ?_, ?_, fun _ => h1, ?_⟩
  · rw [hro, hV, hr, hl, hD]; exact run_enterLoop_outer _ _ _ _ _
  · simp only [resolve, hg]
    simp [go_sem]
  · intro f hf; simp [Target.leads] at hf; subst hf; exact hFg
  · simp [invoke, go_sem, eg]
  have far : ∀ {A : World} {row : Option Nat}, (∀ k, row = some k → V.heap.size ≤ k ∧ ∃ o : Obj, A.heap[k]? = some o ∧ o.isCells = false) → ∀ k, row = some k → w.heap.size ≤ k ∧ ∃ o : Obj, A.heap[k]? = some o ∧ o.isCells = false := fun h k e => by
    obtain ⟨h2, h3⟩ := h k e
    exact ⟨by omega, h3⟩
  refine (hseq l (fun s W => I s W ∧ Books l D (r .ready none) W ∧ ∀ k, s.2 k → l < k) (fun s W => (∃ c, Ix c s W ∧ Books l D (r .done (some c)) W)) (fun s W => Im s W ∧ Books l D (r .ready none) W ∧ ∀ k, s.1.2 k → l < k) V hVw ?_ ?_ ?_ ?_ ?_ ⟨hVI, hVb, fun _ h => h.elim⟩).mono ?_
  · exact fun s A B row h hg' hr' => ⟨hI s A B row h.1 hg' (far hr'), h.2.1.grown hg' (fun k e => (hr' k e).1) (by omega) (by omega), h.2.2⟩
  · exact fun s A B row h hg' hr' => ⟨hIm s A B row h.1 hg' (far hr'), h.2.1.grown hg' (fun k e => (hr' k e).1) (by omega) (by omega), h.2.2⟩
  · exact fun s A B row ⟨c, h, hb⟩ hg' hr' => ⟨c, hIx c s A B row h hg' (far hr'), hb.grown hg' (fun k e => (hr' k e).1) (by omega) (by omega)⟩
  · rintro pre O x A C ⟨hi, hb, hO⟩ hA
    obtain ⟨hs, hk⟩ := hAo x A C hA
    have h1 : l < A.heap.size := (Array.getElem?_eq_some_iff.1 hb.rec_).1
    exact ⟨hArr pre O x A C hi hA, ⟨(hk l (by omega) h1).trans hb.rec_, (hk D (by omega) (by omega)).trans hb.def_⟩, hO⟩
  · rintro pre O x W ⟨hi, hb, hO⟩ hlen
    have hsz : l < W.heap.size := (Array.getElem?_eq_some_iff.1 hb.rec_).1
    have hy := run_yield (P := P) (args := encs x) hb.rec_ (by rw [hr]; exact hps x)
    rw [hr] at hy
    refine ⟨fn, _, assign, body, hy, roundIn_of_wpIn hfn (hassign l x W _ ⟨_, run_beginRound hb.rec_ (by rw [hr]), ?_⟩)⟩
    obtain ⟨W1, hW1⟩ : ∃ W1, W1 = W.putObj l (.loop { r .ready none with state := .busy }) := ⟨_, rfl⟩
    rw [← hW1]
    have hb1 : Books l D { r .ready none with state := .busy } W1 := by rw [hW1]; exact hb.put hne
    have hi1 : Im ((pre, O), x) W1 := by rw [hW1]; exact hIm.putObj _ hi (by omega) hb.rec_ rfl
    have ho1 : Owned V.heap.size O O W W1 := by rw [hW1]; exact put_owned _ (by omega)
    have hk1 : Kp x W W1 := by rw [hW1]; exact hKb _ _ _ _ (by omega)
    have nl : ¬ O l := fun e => by have := hO _ e; omega
    have nD : ¬ O D := fun e => by have := hO _ e; omega
    have fin : ∀ (jump : Option Code) (O' : Nat → Prop) (W3 : World), Owned w.heap.size O O' W1 W3 → Books l D { r .ready none with state := .busy } W3 ∧ (Instr.endRound l jump).run P W3 = .ok (.bool jump.isNone) (W3.putObj l (.loop (r (if jump.isNone then .ready else .done) jump))) ∧
        Books l D (r (if jump.isNone then .ready else .done) jump) (W3.putObj l (.loop (r (if jump.isNone then .ready else .done) jump))) ∧ Owned V.heap.size O O' W (W3.putObj l (.loop (r (if jump.isNone then .ready else .done) jump))) ∧ ∀ k, O' k → l < k := fun jump O' W3 ho => by
      have hb3 := hb1.owned ho (by omega) (by omega) nl nD
      have he := run_endRound (P := P) jump hb3.rec_
      refine ⟨hb3, ?_, hb3.put hne, (ho1.trans (ho.mono (by omega))).trans (put_owned _ (by omega)), fun k hk => ?_⟩
      · rw [hr] at he ⊢; exact he
      · rcases ho.own k hk with y | y
        · exact hO k y
        · have := ho1.size; omega
    refine wpIn_mono (hbody l pre O x W1 hi1 hlen) ?_
    rintro e a3 W3 hp
    cases e with
    | normal =>
      obtain ⟨O', ho, hk, hi3⟩ := hp
      obtain ⟨hb3, he, hb4, ho4, hO4⟩ := fin none O' W3 ho
      exact ⟨_, _, he, O', ho4, .inl ⟨rfl, ⟨hI.putObj _ hi3 (by omega) hb3.rec_ rfl, hb4, hO4⟩, hKt (hKt hk1 hk) (hKb _ _ _ _ (by omega))⟩⟩
    | ret =>
      obtain ⟨O', ho, hi3⟩ := hp
      obtain ⟨hb3, he, hb4, ho4, hO4⟩ := fin (some .ret) O' W3 ho
      exact ⟨_, _, he, O', ho4, .inr ⟨rfl, .ret, (hIx _).putObj _ hi3 (by omega) hb3.rec_ rfl, hb4⟩⟩
    | exit id =>
      obtain ⟨O', ho, hi3⟩ := hp
      obtain ⟨hb3, he, hb4, ho4, hO4⟩ := fin (some (.exit id)) O' W3 ho
      exact ⟨_, _, he, O', ho4, .inr ⟨rfl, .exit id, (hIx _).putObj _ hi3 (by omega) hb3.rec_ rfl, hb4⟩⟩
    | goto t => exact hp.elim
    | panic ch => exact hp.elim
    | outgrown => exact hp.elim
  · rintro e W2 ⟨⟨v, rfl⟩, (⟨xs, O, hS, hi, hb, _⟩ | ⟨pre, O, hSp, c, hi, hb⟩)⟩
    · have he := run_endLoop (P := P) hb.rec_ (by rw [hr]; simp)
      rw [hr] at he
      exact ⟨none, _, he, hdone D xs O _ (by omega) hS (hI.putObj _ hi (by omega) hb.rec_ rfl) ((World.putObj_heap_other hne).trans hb.def_)⟩
    · have he := run_endLoop (P := P) hb.rec_ (by rw [hr]; simp)
      rw [hr] at he
      exact ⟨some c, _, he, hstop D c pre O _ (by omega) hSp ((hIx c).putObj _ hi (by omega) hb.rec_ rfl) ((World.putObj_heap_other hne).trans hb.def_)⟩
end
end Go.Proofs.YtfipflghnhfcjaaDoor
