/- Plain: what each engine keeps while objects are traced, and fields written; at this seat's names alone. -/
import Derived.Test.YtooddbhlanjfbaaGreatDoorEnP
import Derived.Test.YtooddbhlanjfbaaGreatDoorUn
import Derived.Test.YtooddbhlanjfbaaGreatDoorUm
namespace Go.Proofs.YtooddbhlanjfbaaGreatDoor
open Go Go.RowKit Go.Shelf
set_option linter.unusedSimpArgs false
set_option linter.unusedVariables false
/-- How often an object points to y. -/
def pcnt (x : Ob) (y : Int) : Nat := (List.range x.k).countP fun j => decide (x.F j = y)
/-- How often black ones do. -/
def cntB (c : Col) (y : Int) : List Ob → Nat
  | [] => 0
  | x :: l => (if c.sc (x.r : Int) = true then pcnt x y else 0) + cntB c y l
theorem mem_pts {x : Ob} {y : Int} : y ∈ pts x ↔ ∃ j, j < x.k ∧ x.F j = y ∧ y ≠ 0 := by
  unfold pts elems nz
  constructor
  · intro h
    obtain ⟨j, hj, rfl⟩ := List.mem_map.1 h
    obtain ⟨h1, h2⟩ := List.mem_filter.1 hj
    exact ⟨j, List.mem_range.1 h1, rfl, by simpa using h2⟩
  · rintro ⟨j, h1, rfl, h2⟩
    exact List.mem_map.2 ⟨j, List.mem_filter.2 ⟨List.mem_range.2 h1, by simpa using h2⟩, rfl⟩
theorem pcnt_zero {x : Ob} {y : Int} (h : y ∉ pts x) (h0 : y ≠ 0) : pcnt x y = 0 := by
  unfold pcnt
  rw [List.countP_eq_zero]
  intro j hj e
  exact h (mem_pts.2 ⟨j, List.mem_range.1 hj, of_decide_eq_true e, h0⟩)
theorem pcnt_pos {x : Ob} {y : Int} (h : y ∈ pts x) : 0 < pcnt x y := by
  obtain ⟨j, h1, h2, _⟩ := mem_pts.1 h
  unfold pcnt
  rw [List.countP_pos_iff]
  exact ⟨j, List.mem_range.2 h1, decide_eq_true h2⟩
theorem cntB_pos {c : Col} {y : Int} {x : Ob} (hs : c.sc (x.r : Int) = true) (hy : y ∈ pts x) : ∀ l : List Ob, x ∈ l → 0 < cntB c y l
  | [], h => by cases h
  | z :: l, h => by
    unfold cntB
    rcases List.mem_cons.1 h with e | e
    · subst e; rw [if_pos hs]; have := pcnt_pos hy; omega
    · have := cntB_pos hs hy l e; omega
theorem cntB_white {c : Col} {y : Int} (h : ∀ x, c.sc x = false) : ∀ l : List Ob, cntB c y l = 0
  | [] => rfl
  | z :: l => by unfold cntB; rw [if_neg (by rw [h]; decide), cntB_white h l]
theorem cntB_same {c c' : Col} {y : Int} : ∀ l : List Ob, (∀ x ∈ l, c'.sc (x.r : Int) = c.sc (x.r : Int) ∨ pcnt x y = 0) → cntB c' y l = cntB c y l
  | [], _ => rfl
  | z :: l, h => by
    unfold cntB
    rw [cntB_same l fun x hx => h x (List.mem_cons_of_mem _ hx)]
    rcases h z List.mem_cons_self with e | e
    · rw [e]
    · rw [e]; simp
theorem cntB_set {c : Col} {y : Int} {x x' : Ob} (hr : x'.r = x.r) : ∀ (l : List Ob) (i : Nat), l[i]? = some x → cntB c y (l.set i x') + (if c.sc (x.r : Int) = true then pcnt x y else 0) = cntB c y l + (if c.sc (x.r : Int) = true then pcnt x' y else 0)
  | [], i, h => by simp at h
  | z :: l, 0, h => by
    obtain rfl : z = x := by simpa using h
    rw [List.set_cons_zero]
    unfold cntB
    rw [hr]; omega
  | z :: l, i + 1, h => by
    rw [List.set_cons_succ]
    have := cntB_set (c := c) (y := y) hr l i (by simpa using h)
    unfold cntB
    omega
theorem countP_upd {F : Nat → Int} {j : Nat} {v z : Int} : ∀ n, (j < n → (List.range n).countP (fun t => decide (Go.Proofs.YtooddbhlanjfbaaGreatDoor.upd F j v t = z)) + (if F j = z then 1 else 0) = (List.range n).countP (fun t => decide (F t = z)) + (if v = z then 1 else 0)) ∧
    (n ≤ j → (List.range n).countP (fun t => decide (Go.Proofs.YtooddbhlanjfbaaGreatDoor.upd F j v t = z)) = (List.range n).countP (fun t => decide (F t = z)))
  | 0 => ⟨fun h => absurd h (Nat.not_lt_zero _), fun _ => rfl⟩
  | n + 1 => by
    obtain ⟨h1, h2⟩ := countP_upd (F := F) (j := j) (v := v) (z := z) n
    rw [List.range_succ, List.countP_append, List.countP_append]
    simp only [List.countP_cons, List.countP_nil, Nat.zero_add]
    constructor
    · intro h
      by_cases e : n = j
      · subst e
        rw [h2 (Nat.le_refl _)]
        have : Go.Proofs.YtooddbhlanjfbaaGreatDoor.upd F n v n = v := by simp [Go.Proofs.YtooddbhlanjfbaaGreatDoor.upd]
        rw [this]
        simp only [decide_eq_true_eq]
        omega
      · have h3 := h1 (by omega)
        have : Go.Proofs.YtooddbhlanjfbaaGreatDoor.upd F j v n = F n := by simp [Go.Proofs.YtooddbhlanjfbaaGreatDoor.upd, e]
        rw [this]; omega
    · intro h
      have e : n ≠ j := by omega
      have : Go.Proofs.YtooddbhlanjfbaaGreatDoor.upd F j v n = F n := by simp [Go.Proofs.YtooddbhlanjfbaaGreatDoor.upd, e]
      rw [this, h2 (by omega)]
/-- What the unmarked ones owe. -/
def netV (c : Col) (obs : List Ob) : Int → Int := fun z => if c.ma z = true then 0 else ((cntB c z obs : Nat) : Int)
/-- What an engine keeps: A is all that roots led to when the cycle began. -/
structure Kp (e : Nat) (A : Int → Prop) (obs : List Ob) (c : Col) (σ : EnS) : Prop where
  up : ∀ z, c.ma z = true → A z
  cl : ∀ x, A x → ∀ y ∈ ptsAt obs x, A y
  sub : ∀ x, c.sc x = true → c.ma x = true
  st : e = 0 → ∀ x, c.sc x = true → (∀ y ∈ ptsAt obs x, c.ma y = true) ∨ remD σ.D x = true
  dj : e = 1 → Clo (ptsAt obs) c
  yu : e = 2 → ∀ z, A z → Safe (ptsAt obs) c z
  vy : 3 ≤ e → Enough σ.cnt (netV c obs) ∧ ∀ z, σ.cnt z ≤ 3
section
variable {e : Nat} {A : Int → Prop} {obs : List Ob} {c c' : Col} {σ : EnS} {own l : List Int}
/-- At the beginning: roots are shaded. -/
theorem Kp.start (hc : ∀ x, c.sc x = false) (hm : ∀ z, c.ma z = true ↔ z ∈ own) (h0 : ∀ x ∈ own, x ≠ 0) (hA : ∀ z, A z ↔ Rch own (ptsAt obs) z) : Kp e A obs c EnS.none := by
  refine ⟨fun z h => (hA z).2 (.root ((hm z).1 h) (h0 z ((hm z).1 h))), fun x hx y hy => (hA y).2 (.step ((hA x).1 hx) hy (ptsAt_zero x y hy)), fun x h => ?_, fun _ x h => ?_, fun _ => ⟨fun x h => ?_, fun x h => ?_⟩, fun _ z hz => ?_, fun _ => ⟨fun r hr => ?_, fun z => Nat.zero_le _⟩⟩
  · rw [hc] at h; cases h
  · rw [hc] at h; cases h
  · rw [hc] at h; cases h
  · rw [hc] at h; cases h
  · exact Safe.ofRch ((hA z).1 hz) (fun x hx _ => (hm x).2 hx) hc
  · right
    unfold netV
    split
    · simp [EnS.none]
    · rw [cntB_white hc]; simp [EnS.none]
/-- One is scanned. -/
theorem Kp.scan {s : ArS} (ho : Objs s obs) {x : Int} (h : Kp e A obs c σ) (hx : c.ma x = true) (hs : c.sc x = false) : Kp e A obs (c.scan (ptsAt obs) x) σ := by
  have cut : ∀ y, (c.scan (ptsAt obs) x).sc y = true → y = x ∨ c.sc y = true := fun y hy => by
    have hy2 : updI c.sc x true y = true := hy
    by_cases e : y = x
    · exact .inl e
    · rw [updI_ne e] at hy2; exact .inr hy2
  refine ⟨fun z hz => ?_, h.cl, fun y hy => ?_, fun he y hy => ?_, fun he => (h.dj he).scan hx, fun he z hz => (h.yu he z hz).scan, fun he => ⟨fun r hr => ?_, (h.vy he).2⟩⟩
  · have hz2 : (c.ma z || decide (z ∈ ptsAt obs x)) = true := hz
    rcases Bool.or_eq_true_iff.1 hz2 with e1 | e1
    · exact h.up z e1
    · exact h.cl x (h.up x hx) z (of_decide_eq_true e1)
  · rcases cut y hy with e1 | e1
    · rw [e1]; exact scan_ma hx
    · exact scan_ma (h.sub y e1)
  · rcases cut y hy with e1 | e1
    · rw [e1]; exact .inl fun u hu => scan_pt hu
    · rcases h.st he y e1 with e2 | e2
      · exact .inl fun u hu => scan_ma (e2 u hu)
      · exact .inr e2
  · rcases (h.vy he).1 r hr with e1 | e1
    · exact .inl e1
    · right
      unfold netV at e1 ⊢
      by_cases hm' : (c.scan (ptsAt obs) x).ma r = true
      · rw [if_pos hm']; exact Int.natCast_nonneg _
      · rw [if_neg hm']
        have hm : ¬ c.ma r = true := fun e => hm' (scan_ma e)
        rw [if_neg hm] at e1
        rw [cntB_same (c := c) obs fun u hu => ?_]
        · exact e1
        · by_cases e2 : (u.r : Int) = x
          · right
            refine pcnt_zero (fun hp => hm' ?_) hr
            rw [← ptsAt_mem ho hu, e2] at hp
            exact scan_pt hp
          · left; exact updI_ne e2
theorem Kp.scans {s : ArS} (ho : Objs s obs) (h : Kp e A obs c σ) (hs : Scans (ptsAt obs) c l c') : Kp e A obs c' σ := by
  induction hs with
  | nil c => exact h
  | cons h1 h2 _ ih => exact ih (h.scan ho h1 h2)
end
section
variable {e : Nat} {A : Int → Prop} {obs : List Ob} {c c' : Col} {σ : EnS} {own l : List Int}
/-- The end: what roots lead to is marked, and nothing that they didn't lead to at the beginning. -/
theorem Kp.done {s : ArS} (ho : Objs s obs) (he : e ≤ 3) (h : Kp e A obs c σ) (hown : ∀ x ∈ own, A x) (h0 : ∀ x ∈ own, x ≠ 0) (hin : ∀ x, c.sc x = true → ∃ u ∈ obs, (u.r : Int) = x) (hcA : ∀ z, 0 < σ.cnt z → A z)
    (hs : Scans (ptsAt obs) (remC e (if e = 2 then c else c.shades own) σ) l c') (hd : c'.dry) : (∀ z, Rch own (ptsAt obs) z → A z → c'.ma z = true) ∧ ∀ z, c'.ma z = true → A z := by
  have keepM : ∀ {c c' : Col} {l : List Int}, Scans (ptsAt obs) c l c' → ∀ z, c.ma z = true → c'.ma z = true := fun h z hz => h.once.2.2 z hz
  have upS : ∀ {c c' : Col} {l : List Int}, Scans (ptsAt obs) c l c' → (∀ z, c.ma z = true → A z) → ∀ z, c'.ma z = true → A z := fun hs => by
    induction hs with
    | nil c => exact fun h => h
    | @cons c0 c1 x0 l0 h1 h2 _ ih =>
      intro hu
      refine ih fun z hz => ?_
      have hz2 : (c0.ma z || decide (z ∈ ptsAt obs x0)) = true := hz
      rcases Bool.or_eq_true_iff.1 hz2 with e1 | e1
      · exact hu z e1
      · exact h.cl x0 (hu x0 h1) z (of_decide_eq_true e1)
  have shA : ∀ z, (c.shades own).ma z = true → A z := fun z hz => by
    have hz2 : (c.ma z || decide (z ∈ own)) = true := hz
    rcases Bool.or_eq_true_iff.1 hz2 with e1 | e1
    · exact h.up z e1
    · exact hown z (of_decide_eq_true e1)
  have shM : ∀ z, c.ma z = true → (c.shades own).ma z = true := fun z hz => by show (c.ma z || _) = true; rw [hz]; rfl
  have shO : ∀ z ∈ own, (c.shades own).ma z = true := fun z hz => by show (_ || decide (z ∈ own)) = true; rw [decide_eq_true hz]; simp
  have fin : ∀ {c2 : Col}, Clo (ptsAt obs) c2 → (∀ z ∈ own, c2.ma z = true) → Scans (ptsAt obs) c2 l c' → ∀ z, Rch own (ptsAt obs) z → c'.ma z = true := fun hC hO hS z hz => by
    have hC' := hC.scans hS
    induction hz with
    | root h1 _ => exact keepM hS _ (hO _ h1)
    | step _ h2 _ ih => exact hC'.clo _ (hd _ ih) _ h2
  rcases (show e = 0 ∨ e = 1 ∨ e = 2 ∨ e = 3 by omega) with rfl | rfl | rfl | rfl
  · rw [if_neg (by decide)] at hs
    have hs2 : Scans (ptsAt obs) ((c.shades own).rem σ.D) l c' := hs
    have hC : Clo (ptsAt obs) ((c.shades own).rem σ.D) := by
      have key : ∀ x, ((c.shades own).rem σ.D).sc x = true → c.sc x = true ∧ remD σ.D x = false := fun x hx => by
        have hx2 : (c.sc x && !remD σ.D x) = true := hx
        rw [Bool.and_eq_true] at hx2
        exact ⟨hx2.1, by simpa using hx2.2⟩
      refine ⟨fun x hx => shM x (h.sub x (key x hx).1), fun x hx y hy => ?_⟩
      rcases h.st rfl x (key x hx).1 with e1 | e1
      · exact shM y (e1 y hy)
      · rw [(key x hx).2] at e1; cases e1
    exact ⟨fun z hz _ => fin hC shO hs2 z hz, upS hs2 shA⟩
  · rw [if_neg (by decide)] at hs
    have hs2 : Scans (ptsAt obs) (c.shades own) l c' := hs
    have hC : Clo (ptsAt obs) (c.shades own) := ⟨fun x hx => shM x ((h.dj rfl).sub x hx), fun x hx y hy => shM y ((h.dj rfl).clo x hx y hy)⟩
    exact ⟨fun z hz _ => fin hC shO hs2 z hz, upS hs2 shA⟩
  · rw [if_pos rfl] at hs
    have hs2 : Scans (ptsAt obs) c l c' := hs
    exact ⟨fun z _ hA => (Safe.scans hs2 (h.yu rfl z hA)).dry hd, upS hs2 h.up⟩
  · rw [if_neg (by decide)] at hs
    have hs2 : Scans (ptsAt obs) (vyCol (c.shades own) σ.cnt) l c' := hs
    have vm : ∀ z, (c.shades own).ma z = true → (vyCol (c.shades own) σ.cnt).ma z = true := fun z hz => by show ((c.shades own).ma z || _) = true; rw [hz]; rfl
    have vA : ∀ z, (vyCol (c.shades own) σ.cnt).ma z = true → A z := fun z hz => by
      have hz2 : ((c.shades own).ma z || decide (0 < σ.cnt z)) = true := hz
      rcases Bool.or_eq_true_iff.1 hz2 with e1 | e1
      · exact shA z e1
      · exact hcA z (of_decide_eq_true e1)
    have hC : Clo (ptsAt obs) (vyCol (c.shades own) σ.cnt) := by
      refine ⟨fun x hx => vm x (shM x (h.sub x hx)), fun x hx y hy => ?_⟩
      have hx2 : c.sc x = true := hx
      have hy0 := ptsAt_zero x y hy
      by_cases hm : c.ma y = true
      · exact vm y (shM y hm)
      · have hpos : 0 < σ.cnt y := by
          obtain ⟨u, hu, rfl⟩ := hin x hx2
          rw [ptsAt_mem ho hu] at hy
          have h1 := cntB_pos hx2 hy obs hu
          rcases (h.vy (Nat.le_refl _)).1 y hy0 with e1 | e1
          · omega
          · unfold netV at e1; rw [if_neg hm] at e1; omega
        show (_ || decide (0 < σ.cnt y)) = true
        rw [decide_eq_true hpos]; simp
    exact ⟨fun z hz _ => fin hC (fun z hz => vm z (shO z hz)) hs2 z hz, upS hs2 vA⟩
end
section
variable {e : Nat} {A : Int → Prop} {obs : List Ob} {c c' : Col} {σ : EnS}
theorem updI_eq {α : Type} {f : Int → α} {a z : Int} {v : α} (h : z = a) : updI f a v z = v := by rw [h, updI_at]
theorem remD_dirty {P : Nat} {D : Nat → Bool} {x z : Int} (h1 : 1 ≤ x) (h2 : x ≤ 32 * P) : remD (dirtyS P D x) x = true ∧ (remD D z = true → remD (dirtyS P D x) z = true) := by
  unfold remD dirtyS pg
  rw [if_pos ⟨h1, h2⟩]
  constructor
  · simp [h1]
  · intro h
    rw [Bool.and_eq_true] at h ⊢
    exact ⟨h.1, by rw [h.2]; rfl⟩
/-- A field is written, and its barrier is told. -/
theorem Kp.write {s s' : ArS} {i j : Nat} {x : Ob} {y : Int} {P : Nat} (ho : Objs s obs) (ho' : Objs s' (obs.set i { x with F := Go.Proofs.YtooddbhlanjfbaaGreatDoor.upd x.F j y })) (hx : obs[i]? = some x) (hj : j < x.k) (he : e ≤ 3) (hxA : A (x.r : Int)) (hy : A y ∨ y = 0) (hxr : 1 ≤ (x.r : Int) ∧ (x.r : Int) ≤ 32 * P)
    (h : Kp e A obs c σ) : Kp e A (obs.set i { x with F := Go.Proofs.YtooddbhlanjfbaaGreatDoor.upd x.F j y }) (postC e (preC e c (x.F j)) (x.F j) y false) (postS e P σ (x.r : Int) (x.F j) y (c.sc (x.r : Int))) := by
  obtain ⟨hP, hN⟩ := ptsAt_set ho ho' hx
  have hL := ptsAt_lost ho ho' hx
  have hxm : x ∈ obs := List.mem_of_getElem? hx
  have hoA : A (x.F j) ∨ x.F j = 0 := by
    by_cases e0 : x.F j = 0
    · exact .inr e0
    · exact .inl (h.cl _ hxA _ (by rw [ptsAt_mem ho hxm]; exact mem_pts.2 ⟨j, hj, rfl, e0⟩))
  have hcl : ∀ z, A z → ∀ u ∈ ptsAt (obs.set i { x with F := Go.Proofs.YtooddbhlanjfbaaGreatDoor.upd x.F j y }) z, A u := fun z hz u hu => by
    by_cases e1 : z = (x.r : Int)
    · subst e1
      rcases hN u hu with e2 | e2
      · exact h.cl _ hz u e2
      · rcases hy with e3 | e3
        · rw [e2]; exact e3
        · exact absurd (e2.trans e3) (ptsAt_zero _ u hu)
    · rw [hP z e1] at hu; exact h.cl z hz u hu
  have shUp : ∀ {c : Col} (v : Int), (A v ∨ v = 0) → (∀ z, c.ma z = true → A z) → ∀ z, (c.shadeZ v).ma z = true → A z := fun v hv hu z hz => by
    rcases shadeZ_ma_iff.1 hz with e1 | ⟨e1, e2⟩
    · exact hu z e1
    · rw [e1]; exact hv.resolve_right e2
  rcases (show e = 0 ∨ e = 1 ∨ e = 2 ∨ e = 3 by omega) with rfl | rfl | rfl | rfl
  · refine ⟨h.up, hcl, h.sub, fun _ z hz => ?_, fun e => absurd e (by decide), fun e => absurd e (by decide), fun e => absurd e (by decide)⟩
    obtain ⟨d1, d2⟩ := remD_dirty (D := σ.D) (z := z) hxr.1 hxr.2
    by_cases e1 : z = (x.r : Int)
    · right; rw [e1]; exact d1
    · rcases h.st rfl z hz with e2 | e2
      · left; rw [hP z e1]; exact e2
      · right; exact d2 e2
  · refine ⟨shUp y hy h.up, hcl, fun z hz => ?_, fun e => absurd e (by decide), fun _ => ?_, fun e => absurd e (by decide), fun e => absurd e (by decide)⟩
    · have hz2 : (c.shadeZ y).sc z = true := hz
      rw [shadeZ_sc] at hz2; exact shadeZ_ma (h.sub z hz2)
    · exact (h.dj rfl).write hP hN (fun u hu => ptsAt_zero _ u hu)
  · have e9 : postC 2 (preC 2 c (x.F j)) (x.F j) y false = ((c.shadeZ (x.F j)).shadeZ (x.F j)) := by
      show ((c.shadeZ (x.F j)).shadeZ (x.F j)).shadeZ (if false = true then y else 0) = _
      rw [if_neg (by decide), Col.shadeZ_no]
    rw [e9]
    refine ⟨shUp _ hoA (shUp _ hoA h.up), hcl, fun z hz => ?_, fun e => absurd e (by decide), fun e => absurd e (by decide), fun _ z hz => ?_, fun e => absurd e (by decide)⟩
    · rw [shadeZ_sc, shadeZ_sc] at hz; exact shadeZ_ma (shadeZ_ma (h.sub z hz))
    · exact ((h.yu rfl z hz).write hP hL (fun u hu => ptsAt_zero _ u hu)).shadeZ _
  · refine ⟨h.up, hcl, h.sub, fun e => absurd e (by decide), fun e => absurd e (by decide), fun e => absurd e (by decide), fun _ => ?_⟩
    obtain ⟨hE, h3⟩ := h.vy (Nat.le_refl _)
    refine ⟨fun z hz => ?_, vyPost_most σ.cnt h3 _ y (x.F j)⟩
    show vyPost σ.cnt (c.sc (x.r : Int)) y (x.F j) z = 3 ∨ netV c (obs.set i { x with F := Go.Proofs.YtooddbhlanjfbaaGreatDoor.upd x.F j y }) z ≤ ((vyPost σ.cnt (c.sc (x.r : Int)) y (x.F j) z : Nat) : Int)
    by_cases hm : c.ma z = true
    · right; unfold netV; rw [if_pos hm]; exact Int.natCast_nonneg _
    · have hset := cntB_set (c := c) (y := z) (x := x) (x' := { x with F := Go.Proofs.YtooddbhlanjfbaaGreatDoor.upd x.F j y }) rfl obs i hx
      have hup := (countP_upd (F := x.F) (j := j) (v := y) (z := z) x.k).1 hj
      have hup2 : pcnt { x with F := Go.Proofs.YtooddbhlanjfbaaGreatDoor.upd x.F j y } z + (if x.F j = z then 1 else 0) = pcnt x z + (if y = z then 1 else 0) := hup
      have hnz : netV c obs z = ((cntB c z obs : Nat) : Int) := by unfold netV; rw [if_neg hm]
      have hnz' : netV c (obs.set i { x with F := Go.Proofs.YtooddbhlanjfbaaGreatDoor.upd x.F j y }) z = ((cntB c z (obs.set i { x with F := Go.Proofs.YtooddbhlanjfbaaGreatDoor.upd x.F j y }) : Nat) : Int) := by unfold netV; rw [if_neg hm]
      rw [hnz']
      cases hb : c.sc (x.r : Int) with
      | false =>
        rw [hb] at hset
        rw [vyPost_white]
        have := hE z hz
        rw [hnz] at this
        simp at hset
        rw [hset]; exact this
      | true =>
        rw [hb] at hset
        simp only [if_true] at hset
        have hq := hE.post h3 y (x.F j) z hz
        have hv : vyPost σ.cnt true y (x.F j) = vyDown (vyUp σ.cnt y) (x.F j) := if_pos rfl
        rw [hv]
        refine hq.imp id fun h9 => Int.le_trans (Int.le_of_eq ?_) h9
        by_cases e1 : z = x.F j
        · rw [updI_eq e1, ← e1]
          rw [if_pos e1.symm] at hup2
          by_cases e2 : z = y
          · rw [if_pos e2.symm] at hup2
            have hny : netV c obs y = ((cntB c z obs : Nat) : Int) := by rw [← e2]; exact hnz
            rw [updI_eq e2, hny]; omega
          · rw [if_neg (fun e => e2 e.symm)] at hup2
            rw [updI_ne e2, hnz]; omega
        · rw [updI_ne e1]
          rw [if_neg (fun e => e1 e.symm)] at hup2
          by_cases e2 : z = y
          · rw [if_pos e2.symm] at hup2
            have hny : netV c obs y = ((cntB c z obs : Nat) : Int) := by rw [← e2]; exact hnz
            rw [updI_eq e2, hny]; omega
          · rw [if_neg (fun e => e2 e.symm)] at hup2
            rw [updI_ne e2, hnz]; omega
end
end Go.Proofs.YtooddbhlanjfbaaGreatDoor
