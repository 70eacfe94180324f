/- Words that are said, in a map by cell and place; plain, and the model beside it; at this seat's numbers. -/
import Derived.Test.YtlloanoohphgcaaDoorPair
import Derived.Test.YtlloanoohphgcaaDoorWdM
import Derived.Test.YtlloanoohphgcaaDoorMdG
import Derived.OpenShut
namespace Go.Proofs.YtlloanoohphgcaaDoor
open Go Go.RowKit Go.Maps
set_option linter.unusedSimpArgs false
set_option linter.unusedVariables false

theorem wf_xor (a b : Int) : (Lit.int .i64 (bits .xor .i64 a b)).wf = true := by
  unfold bits
  first | exact Go.WideShapes.wf_wrap _ _ | exact Go.ChangeShapes.wf_wrap _ _ | exact Go.wf_wrap _ _ | exact Go.RowKit.wf_wrap _ _

/-- The map says the words of the taken cells; those of x from place k on are not said yet, and are 0. -/
structure Said (D : DataW Unit) (s : ArS) (x k : Nat) : Prop where
  at_ : ∀ r j : Nat, s.S r = true → j < wN (s.cls (pg r)) → (r = x → j < k) → ∀ z, D.atKey (pairLit (r : Int) (j : Int)) z = .lit (.int .i64 (s.ws (r + j)))
  zero : s.S x = true → ∀ j, k ≤ j → j < wN (s.cls (pg x)) → s.ws (x + j) = 0
theorem ref_wf {s : ArS} (hF : Fits s) {r : Nat} (h : s.S r = true) : 1 ≤ r ∧ (Lit.int .i64 (r : Int)).wf = true := by
  obtain ⟨a1, a2, _, _⟩ := hF.at_ r h
  have := hF.p64
  exact ⟨a1, wf_of (by omega) (by omega)⟩
theorem place_wf {c : Int} (hc : okC c = true) {j : Nat} (h : j < wN c) : (Lit.int .i64 (j : Int)).wf = true := by
  rcases wN_cases hc with e | e | e <;> exact wf_of (by omega) (by omega)
theorem Said.new (P : Nat) : Said (.map []) (.new P) 0 0 := ⟨fun r j hr => (by cases hr), fun h => (by cases h)⟩
/-- Behind the last place all is said. -/
theorem Said.all {D : DataW Unit} {s : ArS} {x k : Nat} (h : Said D s x k) (hk : s.S x = true → wN (s.cls (pg x)) ≤ k) (y : Nat) (hy : s.S y = false) : Said D s y 0 :=
  ⟨fun r j hr hj hx => h.at_ r j hr hj (fun e => by subst e; have := hk hr; omega), fun e => (by rw [hy] at e; cases e)⟩
/-- A cell is given. -/
theorem Said.give {D : DataW Unit} {s : ArS} {y : Nat} (hF : Fits s) (h : Said D s y 0) (hy : s.S y = false) (r : Int) : Said D (s.giveI r) y 0 := by
  cases hr : inS s.S r with
  | false => rw [giveI_no hr]; exact h
  | true =>
    have h0 : 0 ≤ r ∧ s.S r.toNat = true := by simpa [inS] using hr
    obtain ⟨n, rfl⟩ : ∃ n : Nat, r = n := ⟨r.toNat, by omega⟩
    rw [Int.toNat_natCast] at h0
    rw [giveI_nat h0.2]
    refine ⟨fun q j hq hj hx z => ?_, fun e => ?_⟩
    · have hq2 : s.S q = true ∧ ¬ q = n := by simpa [dropN] using hq
      have hcl : giveCls s n (pg q) = s.cls (pg q) := by
        unfold giveCls
        split
        · rfl
        · rename_i hu
          unfold upd
          rw [if_neg]
          intro e
          exact hu (e ▸ usedIn_pg (hF.at_ q hq2.1).1 hq)
      exact h.at_ q j hq2.1 (by rw [← hcl]; exact hj) (fun e => by subst e; rw [hy] at hq2; cases hq2.1) z
    · have : dropN s.S n y = true := e
      simp [dropN, hy] at this
/-- A cell is taken. -/
theorem Said.take {D : DataW Unit} {s : ArS} {y : Nat} (hF : Fits s) (h : Said D s y 0) (hy : s.S y = false) {c : Int} (h0 : seekF s c ≠ 0) : Said D (s.take c) (seekF s c) 0 := by
  have hS := (seekF_is hF h0).2.2.2.2.1
  have hx : (s.take c).S (seekF s c) = true := by rw [take_some h0]; simp [putN]
  have hcx : (s.take c).cls (pg (seekF s c)) = c := by rw [take_some h0]; show upd s.cls _ c _ = c; simp [upd]
  refine ⟨fun r j hr hj hx2 z => ?_, fun _ j h1 h2 => ?_⟩
  · have hne : r ≠ seekF s c := fun e => by have := hx2 e; omega
    have hr2 : s.S r = true := by
      rw [take_some h0] at hr
      have : putN s.S (seekF s c) r = true := hr
      simpa [putN, hne] using this
    have ha := cells_apart (hF.take c) hr hx hne
    have hcl : (s.take c).cls (pg r) = s.cls (pg r) := by
      obtain ⟨_, _, _, _, _, _, h7⟩ := seekF_is hF h0
      rw [take_some h0]
      show upd s.cls _ c _ = _
      unfold upd
      by_cases e : pg r = pg (seekF s c)
      · rw [if_pos e, e]
        rcases h7 with h7 | ⟨_, h7⟩
        · exact h7.symm
        · have h8 := h7 ((r - 1) % 32) (by omega)
          have h9 := (hF.at_ r hr2).1
          rw [show 32 * pg (seekF s c) + (r - 1) % 32 + 1 = r by rw [← e]; unfold pg; omega, hr2] at h8
          cases h8
      · rw [if_neg e]
    rw [hcl] at hj ha
    rw [hcx] at ha
    have hws : (s.take c).ws (r + j) = s.ws (r + j) := by
      rw [take_some h0]
      show clr s.ws _ _ _ = _
      unfold clr
      rw [if_neg (by omega)]
    rw [hws]
    exact h.at_ r j hr2 hj (fun e => by subst e; rw [hy] at hr2; cases hr2) z
  · rw [hcx] at h2
    rw [take_some h0]
    show clr s.ws _ _ _ = 0
    unfold clr
    rw [if_pos ⟨by omega, by omega⟩]
/-- A word is set, and said. -/
theorem Said.set {D : DataW Unit} {s : ArS} {x k : Nat} (hM : IsMap D) (hF : Fits s) (h : Said D s x k) (hx : s.S x = true) (hk : k < wN (s.cls (pg x))) (v : Int) :
    Said (D.put (pairLit (x : Int) (k : Int)) (.lit (.int .i64 v))) { s with ws := upd s.ws (x + k) v } x (k + 1) := by
  have wx := ref_wf hF hx
  have wk := place_wf (hF.at_ x hx).2.2.1 hk
  have hkl : WideAt.IsKeyLit (pairLit (x : Int) (k : Int)) := by unfold pairLit; simp [WideAt.IsKeyLit]
  refine ⟨fun r j hr hj hx2 z => ?_, fun _ j h1 h2 => ?_⟩
  · show _ = DataW.lit (.int .i64 (upd s.ws (x + k) v (r + j)))
    have hr' : s.S r = true := hr
    have hj' : j < wN (s.cls (pg r)) := hj
    by_cases e : r = x ∧ j = k
    · obtain ⟨rfl, rfl⟩ := e
      rw [Maps.atKey_put_same hM hkl]
      unfold upd; rw [if_pos rfl]
    · have wr := ref_wf hF hr'
      have wj := place_wf (hF.at_ r hr').2.2.1 hj'
      rw [Maps.atKey_put_other (pair_ne wr.2 wj wx.2 wk (fun x => e (by omega))), h.at_ r j hr' hj' (fun e2 => by have := hx2 e2; omega)]
      have hne : r + j ≠ x + k := fun e3 => by
        by_cases e2 : r = x
        · subst e2; omega
        · rcases cells_apart hF hr' hx e2 with h1 | h1 <;> omega
      unfold upd; rw [if_neg hne]
  · show upd s.ws (x + k) v (x + j) = 0
    unfold upd; rw [if_neg (by omega)]
    exact h.zero hx j (by omega) h2
/-- What is said of no cell says nothing. -/
theorem Said.nil {D : DataW Unit} {s : ArS} {y : Nat} (hF : Fits s) (h : Said D s y 0) {j : Int} (hj : (Lit.int .i64 j).wf = true) (d : DataW Unit) : Said (D.put (pairLit 0 j) d) s y 0 :=
  ⟨fun r i hr hi hx z => by
    have wr := ref_wf hF hr
    have wi := place_wf (hF.at_ r hr).2.2.1 hi
    rw [Maps.atKey_put_other (pair_ne wr.2 wi (wf_of (by omega) (by omega)) hj (fun x => by omega))]
    exact h.at_ r i hr hi hx z, h.zero⟩

/-- The model knows of no words. -/
theorem MdAt.same {w : World} {Y : MdB} {s s' : ArS} (h : MdAt w Y s) (hF : Fits s') (hP : s'.P = s.P) (hc : s'.cls = s.cls) (hS : s'.S = s.S) : MdAt w Y s' := by
  obtain ⟨P, c, S, ws⟩ := s
  obtain ⟨P', c', S', ws'⟩ := s'
  simp only at hP hc hS
  subst hP hc hS
  obtain ⟨D, hD, hm⟩ := h.map
  exact ⟨h.head, h.pages, ⟨D, hD, hm.has_, hm.at_, hm.size_⟩, hF⟩
theorem TwoAt.same {B : Nat} {X : ArB} {Y : MdB} {s t t' : ArS} {wb wr : World} (h : TwoAt B X Y s t wb wr) (hF : Fits t') (hP : t'.P = t.P) (hc : t'.cls = t.cls) (hS : t'.S = t.S) : TwoAt B X Y s t' wb wr :=
  ⟨h.ar, h.md.same hF hP hc hS, h.own, h.sep⟩
end Go.Proofs.YtlloanoohphgcaaDoor
