/- engine.Finish: roots are shaded, the barrier remarks, what is grey is scanned; at this seat's numbers. -/
import Derived.Test.YtooddbhlanjfbaaGreatDoorEnS
namespace Go.Proofs.YtooddbhlanjfbaaGreatDoor
open Go Go.RowKit Go.Shelf Go.MuLone Go.RwLone
set_option linter.unusedSimpArgs false
set_option linter.unusedVariables false
attribute [local go_sem] Oper.semAt_some

/-- What Finish leaves. -/
def FinEnd (e : Nat) (B mb n : Nat) (X : ArB) (s : ArS) (obs : List Ob) (vl : Value) (f : Int → Value) (adj : Int → List Int) (E : Nat → Prop) (c : Col) (bt tm room : Nat) (σ : EnS) (R : List Int) (wb wr : World) (en : Ending) (w' : World) : Prop :=
  ∃ (T' : MkB) (H' : Nat → Prop) (l : List Int) (c3 : Col), en = .returned (.int .i64 (l.length : Int)) ∧ Scans (ptsAt obs) (remC e (if e = 2 then c else c.shades R) σ) l c3 ∧ c3.dry ∧
    EnIn e B mb n X s obs vl f adj E T' c3 H' bt tm room (remS e σ) wb w' ∧ ∀ k, E k → w'.heap[k]? = wr.heap[k]?
section
variable {e B mb n bt tm room : Nat} {X : ArB} {s : ArS} {obs : List Ob} {vl : Value} {f : Int → Value} {adj : Int → List Int} {E E' H : Nat → Prop} {T T' : MkB} {c c' : Col} {σ σ' : EnS} {wb wr u0 w' : World}
set_option maxRecDepth 100000 in
set_option maxHeartbeats 8000000 in
theorem en_finish (h : EnIn e B mb n X s obs vl f adj E T c H bt tm room σ wb u0) (he : e ≤ 3) (hcl : Closed obs) (hol : obs.length ≤ 4096) {v : Value} {bx : Nat} (R : List Int) (hR : RefRow u0 v R) (hB0 : u0.cell? ⟨bx, 0, none⟩ = some v) (hbx : E bx) (hv : ∀ k, v.ownBlock = some k → E k ∨ GoHas X mb vl f k) (hin : ∀ x ∈ R, x ∈ refsI obs) :
    Calls Tryz.prog 20 #[enV e bt, .pointer (some ⟨tm, 0, none⟩), .func (.func 53) #[] #[.pointer (some ⟨bx, 0, none⟩)]] u0 (FinEnd e B mb n X s obs vl f adj E c bt tm room σ R wb u0) := by
  have hM1 := enM_rescans e he ⟨bt, 0, none⟩
  have hc1 := callE_rescans e he
  have hM2 := enM_remark e he ⟨bt, 0, none⟩
  have hc2 := callE_remark e he
  obtain ⟨q, hq⟩ : ∃ q, decide (e ≠ 2) = q := ⟨_, rfl⟩
  have cR := h.rescans he q hq
  have cS := en_shade h R hR hB0 hbx hv hin
  have HZ1 := Lib.hid (And.intro h hq)
  unfold enV
  obtain ⟨tk, hT⟩ : ∃ tk, enT e = tk := ⟨_, rfl⟩
  rw [hT] at hM1 hM2 ⊢
  obtain ⟨f1, hf1⟩ : ∃ f1, enRescans e = f1 := ⟨_, rfl⟩
  rw [hf1] at hM1 hc1 cR
  obtain ⟨f2, hf2⟩ : ∃ f2, enRemark e = f2 := ⟨_, rfl⟩
  rw [hf2] at hM2 hc2
  have HF := Lib.hid (And.intro hf1 hf2)
  clear hT hf1 hf2 h hR hB0 hbx hv hin hq
  go_enter Tryz.func20, Tryz.ntmps20
  go_wp2_with fail
  refine cR.mono ?_
  rintro en w' ⟨rfl, rfl⟩
  clear cR
  obtain ⟨h, hq⟩ := HZ1.out
  clear HZ1
  cases q with
  | false =>
    have he2 : e = 2 := by simpa using hq
    have cM := h.remark he
    rw [HF.out.2] at cM
    clear hq cS h
    go_wp2_with fail
    refine cM.mono ?_
    rintro en W3 ⟨rfl, T3, H3, h3, hk3⟩
    have cT := h3.gm.trace hcl 9223372036854775807
    rw [h3.tm] at cT
    have H3' := Lib.hid (And.intro h3 hk3)
    clear cM h3 hk3
    go_wp2_with fail
    refine cT.mono ?_
    rintro en V2 ⟨kk, T7, c7, l7, rfl, hlk, hm7, hG7, hk7, hsc7, _, hkd⟩
    obtain ⟨h6, hk6⟩ := H3'.out.1.went hm7 hG7 hk7
    have hl7 : l7.length ≤ obs.length := hsc7.len h6.gm.inn
    have hd := hkd (by omega)
    have HH := Lib.hid (And.intro h6 (And.intro hk6 (And.intro hsc7 (And.intro hd hlk))))
    clear h6 hk6 hsc7 hd hlk hl7 hkd hm7 hG7 hk7 cT
    go_wp2_with fail
    go_ret
    exact ⟨T7, H3, l7, c7, by simp [results, Tryz.f20, go_sem, HH.out.2.2.2.2], by rw [if_pos he2]; exact HH.out.2.2.1, HH.out.2.2.2.1, HH.out.1, fun k e => (HH.out.2.1 k e).trans (H3'.out.2 k e)⟩
  | true =>
    have he2 : ¬ e = 2 := by simpa using hq
    clear hq h
    go_wp2_with fail
    refine cS.mono ?_
    rintro en W2 ⟨rfl, T2, h2, hk2⟩
    have cM := h2.remark he
    rw [HF.out.2] at cM
    have H2 := Lib.hid (And.intro h2 hk2)
    clear cS h2 hk2
    go_wp2_with fail
    refine cM.mono ?_
    rintro en W3 ⟨rfl, T3, H3, h3, hk3⟩
    have cT := h3.gm.trace hcl 9223372036854775807
    rw [h3.tm] at cT
    have H3' := Lib.hid (And.intro h3 hk3)
    clear cM h3 hk3
    go_wp2_with fail
    refine cT.mono ?_
    rintro en V2 ⟨kk, T7, c7, l7, rfl, hlk, hm7, hG7, hk7, hsc7, _, hkd⟩
    obtain ⟨h6, hk6⟩ := H3'.out.1.went hm7 hG7 hk7
    have hl7 : l7.length ≤ obs.length := hsc7.len h6.gm.inn
    have hd := hkd (by omega)
    have HH := Lib.hid (And.intro h6 (And.intro hk6 (And.intro hsc7 (And.intro hd hlk))))
    clear h6 hk6 hsc7 hd hlk hl7 hkd hm7 hG7 hk7 cT
    go_wp2_with fail
    go_ret
    exact ⟨T7, H3, l7, c7, by simp [results, Tryz.f20, go_sem, HH.out.2.2.2.2], by rw [if_neg he2]; exact HH.out.2.2.1, HH.out.2.2.2.1, HH.out.1, fun k e => ((HH.out.2.1 k e).trans (H3'.out.2 k e)).trans (H2.out.2 k e)⟩
end
end Go.Proofs.YtooddbhlanjfbaaGreatDoor
