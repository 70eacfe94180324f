/- law 16's write: a field is written, and its barrier is told; a barrier's methods behind the interface; at this seat's numbers. -/
import Derived.Test.YtooddbhlanjfbaaGreatDoorEnA
import Derived.Deep.RegionHeld3
namespace Go.Proofs.YtooddbhlanjfbaaGreatDoor
open Go Go.RowKit Go.Shelf Go.MuLone Go.RwLone
set_option linter.unusedSimpArgs false
set_option linter.unusedVariables false
attribute [local go_sem] Oper.semAt_some

set_option maxRecDepth 100000 in
theorem enM_pre (e : Nat) (he : e ≤ 3) (a : Addr) : ∀ (F : Nat) (w : World), (method (F + 1) (enT e) (.pointer (some a)) "Pre").run Tryz.prog w = .ok (enPre e, .pointer (some a)) w := by
  rcases (show e = 0 ∨ e = 1 ∨ e = 2 ∨ e = 3 by omega) with rfl | rfl | rfl | rfl <;> exact fun F w => by kernel_rfl
set_option maxRecDepth 100000 in
theorem callE_pre (e : Nat) (he : e ≤ 3) : ∀ (args : Array Value) (w : World), (callFunc (enPre e) args).run Tryz.prog w = .ok (.enter (enPre e) args) w := by
  rcases (show e = 0 ∨ e = 1 ∨ e = 2 ∨ e = 3 by omega) with rfl | rfl | rfl | rfl <;> exact fun _ _ => by kernel_rfl
set_option maxRecDepth 100000 in
theorem enM_post (e : Nat) (he : e ≤ 3) (a : Addr) : ∀ (F : Nat) (w : World), (method (F + 1) (enT e) (.pointer (some a)) "Post").run Tryz.prog w = .ok (enPost e, .pointer (some a)) w := by
  rcases (show e = 0 ∨ e = 1 ∨ e = 2 ∨ e = 3 by omega) with rfl | rfl | rfl | rfl <;> exact fun F w => by kernel_rfl
set_option maxRecDepth 100000 in
theorem callE_post (e : Nat) (he : e ≤ 3) : ∀ (args : Array Value) (w : World), (callFunc (enPost e) args).run Tryz.prog w = .ok (.enter (enPost e) args) w := by
  rcases (show e = 0 ∨ e = 1 ∨ e = 2 ∨ e = 3 by omega) with rfl | rfl | rfl | rfl <;> exact fun _ _ => by kernel_rfl
set_option maxRecDepth 100000 in
theorem enM_remark (e : Nat) (he : e ≤ 3) (a : Addr) : ∀ (F : Nat) (w : World), (method (F + 1) (enT e) (.pointer (some a)) "Remark").run Tryz.prog w = .ok (enRemark e, .pointer (some a)) w := by
  rcases (show e = 0 ∨ e = 1 ∨ e = 2 ∨ e = 3 by omega) with rfl | rfl | rfl | rfl <;> exact fun F w => by kernel_rfl
set_option maxRecDepth 100000 in
theorem callE_remark (e : Nat) (he : e ≤ 3) : ∀ (args : Array Value) (w : World), (callFunc (enRemark e) args).run Tryz.prog w = .ok (.enter (enRemark e) args) w := by
  rcases (show e = 0 ∨ e = 1 ∨ e = 2 ∨ e = 3 by omega) with rfl | rfl | rfl | rfl <;> exact fun _ _ => by kernel_rfl
set_option maxRecDepth 100000 in
theorem enM_reset (e : Nat) (he : e ≤ 3) (a : Addr) : ∀ (F : Nat) (w : World), (method (F + 1) (enT e) (.pointer (some a)) "Reset").run Tryz.prog w = .ok (enReset e, .pointer (some a)) w := by
  rcases (show e = 0 ∨ e = 1 ∨ e = 2 ∨ e = 3 by omega) with rfl | rfl | rfl | rfl <;> exact fun F w => by kernel_rfl
set_option maxRecDepth 100000 in
theorem callE_reset (e : Nat) (he : e ≤ 3) : ∀ (args : Array Value) (w : World), (callFunc (enReset e) args).run Tryz.prog w = .ok (.enter (enReset e) args) w := by
  rcases (show e = 0 ∨ e = 1 ∨ e = 2 ∨ e = 3 by omega) with rfl | rfl | rfl | rfl <;> exact fun _ _ => by kernel_rfl
set_option maxRecDepth 100000 in
theorem enM_rescans (e : Nat) (he : e ≤ 3) (a : Addr) : ∀ (F : Nat) (w : World), (method (F + 1) (enT e) (.pointer (some a)) "Rescans").run Tryz.prog w = .ok (enRescans e, .pointer (some a)) w := by
  rcases (show e = 0 ∨ e = 1 ∨ e = 2 ∨ e = 3 by omega) with rfl | rfl | rfl | rfl <;> exact fun F w => by kernel_rfl
set_option maxRecDepth 100000 in
theorem callE_rescans (e : Nat) (he : e ≤ 3) : ∀ (args : Array Value) (w : World), (callFunc (enRescans e) args).run Tryz.prog w = .ok (.enter (enRescans e) args) w := by
  rcases (show e = 0 ∨ e = 1 ∨ e = 2 ∨ e = 3 by omega) with rfl | rfl | rfl | rfl <;> exact fun _ _ => by kernel_rfl
theorem preC_sc (e : Nat) (c : Col) (o : Int) : (preC e c o).sc = c.sc := by
  unfold preC; split
  · unfold Col.shadeZ; split <;> rfl
  · rfl
section
variable {e B mb n bt tm room : Nat} {X : ArB} {s : ArS} {obs : List Ob} {vl : Value} {f : Int → Value} {adj : Int → List Int} {E E' H : Nat → Prop} {T T' : MkB} {c c' : Col} {σ σ' : EnS} {wb wr w' : World}
/-- A box beside, among what calls keep. -/
theorem EnIn.box (h : EnIn e B mb n X s obs vl f adj E T c H bt tm room σ wb wr) (o : Obj) : EnIn e B mb n X s obs vl f adj (fun k => E k ∨ k = wr.heap.size) T c H bt tm room σ wb (wr.alloc o) :=
  h.watch ((Below.refl _ wr).alloc (Nat.le_refl _) _) fun k e => by
    rcases e with e | e
    · exact .inl e
    · exact .inr ⟨by omega, by simp; omega⟩
/-- A barrier's blocks are none of the arena's. -/
theorem EnIn.farX (h : EnIn e B mb n X s obs vl f adj E T c H bt tm room σ wb wr) : ∀ k, H k → ¬ X.has k := fun k e e2 => (h.own k e).2.1 (.inl e2)
set_option maxRecDepth 100000 in
set_option maxHeartbeats 4000000 in
theorem enWrite (h : EnIn e B mb n X s obs vl f adj E T c H bt tm room σ wb wr) (he : e ≤ 3) {i j : Nat} {x : Ob} (hx : obs[i]? = some x) (hj : j < x.k) (y : Int) (hy : y ∈ refsI obs ∨ y = 0) (ho : x.F j ∈ refsI obs ∨ x.F j = 0) (hb : ∀ y ∈ refsI obs, 1 ≤ y ∧ y ≤ 2048) (hl : σ.lg ≤ 4096) (hE : ∀ k, E k → ¬ X.has k) :
    Calls Tryz.prog 19 #[.pointer (some ⟨X.a, 0, none⟩), .pointer (some ⟨tm, 0, none⟩), enV e bt, .int .i64 (x.r : Int), .int .i64 (j : Int), .int .i64 y] wr fun en w' =>
      en = .returned (.tuple #[]) ∧ ∃ T' H' lo, EnIn e B mb n (X.with lo) (s.setW (x.r : Int) (2 + (j : Int)) y) (obs.set i { x with F := Go.Proofs.YtooddbhlanjfbaaGreatDoor.upd x.F j y }) vl f adj E T' (postC e (preC e c (x.F j)) (x.F j) y false) H' bt tm room (postS e s.P σ (x.r : Int) (x.F j) y (c.sc (x.r : Int))) wb w' ∧ (∀ k, E k → w'.heap[k]? = wr.heap[k]?) ∧ ∀ k, E k → ¬ (X.with lo).has k := by
  obtain ⟨o, hoE⟩ : ∃ o, x.F j = o := ⟨_, rfl⟩
  rw [hoE] at ho ⊢
  obtain ⟨bl, hbl⟩ : ∃ bl, c.sc (x.r : Int) = bl := ⟨_, rfl⟩
  rw [hbl]
  have HBL := Lib.hid hbl
  have cF := ceFieldOk h.gm.go.ar (h.gm.go.ob.at_ i x hx) j hj o hoE
  have hM1 := enM_pre e he ⟨bt, 0, none⟩
  have hc1 := callE_pre e he
  have hM2 := enM_post e he ⟨bt, 0, none⟩
  have hc2 := callE_post e he
  have HO := Lib.hid (And.intro h (And.intro hx (And.intro hj (And.intro ho (And.intro hy (And.intro hb (And.intro hl hE)))))))
  clear hoE hbl h hx hj ho hy hb hl hE
  unfold enV
  obtain ⟨tk, hT⟩ : ∃ tk, enT e = tk := ⟨_, rfl⟩
  rw [hT] at hM1 hM2 ⊢
  obtain ⟨f1, hf1⟩ : ∃ f1, enPre e = f1 := ⟨_, rfl⟩
  rw [hf1] at hM1 hc1
  obtain ⟨f2, hf2⟩ : ∃ f2, enPost e = f2 := ⟨_, rfl⟩
  rw [hf2] at hM2 hc2
  have HF := Lib.hid (And.intro hf1 hf2)
  clear hT hf1 hf2
  go_enter Tryz.func19, Tryz.ntmps19
  go_wp2_with fail
  refine cF.mono ?_
  rintro en w1 ⟨rfl, hB1⟩
  have h1 := HO.out.1.ask hB1
  have cP := h1.pre he (x.r : Int) o HO.out.2.2.2.1 HO.out.2.2.2.2.2.1
  rw [HF.out.1] at cP
  have hk1 : ∀ k, E k → w1.heap[k]? = wr.heap[k]? := fun k e => hB1.block k (HO.out.1.gm.ext k (.inl e))
  have HK := Lib.hid hk1
  clear cF h1 hB1 hk1
  go_wp2_with fail
  refine cP.mono ?_
  rintro en w2 ⟨rfl, T2, H2, h2, hk2⟩
  have hk2' : ∀ k, E k → w2.heap[k]? = wr.heap[k]? := fun k e => (hk2 k e).trans (HK.out k e)
  have cM := h2.mkr.at_.scanned (x.r : Int)
  rw [h2.tm, preC_sc, HBL.out] at cM
  have H2' := Lib.hid (And.intro h2 hk2')
  clear cP h2 hk2 hk2'
  go_wp2_with fail
  refine cM.mono ?_
  rintro en w3 ⟨rfl, hB3⟩
  have h3 := H2'.out.1.ask hB3
  have h4 := h3.box (.cells #[.int .i64 (x.r : Int), .int .i64 o, .int .i64 y, .bool bl, .bool false] 67)
  have hW4 := Blk.new w3 #[.int .i64 (x.r : Int), .int .i64 o, .int .i64 y, .bool bl, .bool false] 67
  have hE4 : ∀ k, ((E k ∨ k = w3.heap.size) ∨ H2 k) → ¬ X.has k := fun k e => by
    rcases e with (e | e) | e
    · exact HO.out.2.2.2.2.2.2.2 k e
    · intro e2
      have := h3.gm.go.ar.at_.lt k e2
      omega
    · exact h3.farX k e
  have cS := h4.setField HO.out.2.1 HO.out.2.2.1 y hE4
  have hk4 : ∀ k, E k → (w3.alloc (.cells #[.int .i64 (x.r : Int), .int .i64 o, .int .i64 y, .bool bl, .bool false] 67)).heap[k]? = wr.heap[k]? := fun k e =>
    (((Below.refl _ w3).alloc (Nat.le_refl _) _).block k (h3.gm.ext k (.inl e))).trans ((hB3.block k (H2'.out.1.gm.ext k (.inl e))).trans (H2'.out.2 k e))
  have H4 := Lib.hid (And.intro hW4 hk4)
  clear cM h3 h4 hB3 hW4 hE4 hk4
  go_wp2_with fail
  refine cS.mono ?_
  rintro en w5 ⟨rfl, lo, h5, hk5, hf5⟩
  have hW5 : Blk w5 w3.heap.size #[.int .i64 (x.r : Int), .int .i64 o, .int .i64 y, .bool bl, .bool false] 67 := by
    have h9 := H4.out.1; unfold Blk at *; rw [hk5 _ (.inr rfl)]; exact h9
  have hR5 : refsI (obs.set i { x with F := Go.Proofs.YtooddbhlanjfbaaGreatDoor.upd x.F j y }) = refsI obs := refsI_set (x := { x with F := Go.Proofs.YtooddbhlanjfbaaGreatDoor.upd x.F j y }) HO.out.2.1 rfl
  have cQ := h5.post he (x.r : Int) o y bl false (by rw [hR5]; exact HO.out.2.2.2.1) (by rw [hR5]; exact HO.out.2.2.2.2.1) (by rw [hR5]; exact HO.out.2.2.2.2.2.1) HO.out.2.2.2.2.2.2.1
  rw [HF.out.2, setW_P] at cQ
  have hk5' : ∀ k, E k → w5.heap[k]? = wr.heap[k]? := fun k e => (hk5 k (.inl e)).trans (H4.out.2 k e)
  have a0 := hW5.cell 0
  have a1 := hW5.cell 1
  have a2 := hW5.cell 2
  have a3 := hW5.cell 3
  have a4 := hW5.cell 4
  simp only [List.getElem?_toArray, List.getElem?_cons_zero, List.getElem?_cons_succ] at a0 a1 a2 a3 a4
  have H5 := Lib.hid (And.intro hk5' hf5)
  clear cS h5 hk5 hf5 hR5 hk5'
  go_wp2_with fail
  refine cQ.mono ?_
  rintro en w6 ⟨rfl, T6, H6, h6, hk6⟩
  have HR := Lib.hid (And.intro (h6.less (E' := E) fun k e => .inl e) hk6)
  clear cQ h6 hk6 hW5 a0 a1 a2 a3 a4
  go_wp2_with fail
  refine bodyPost_end (results_none rfl _ _ _) rfl ?_
  exact ⟨rfl, T6, H6, lo, HR.out.1, fun k e => (HR.out.2 k (.inl e)).trans (H5.out.1 k e), fun k e => H5.out.2 k (.inl (.inl e))⟩
end
end Go.Proofs.YtooddbhlanjfbaaGreatDoor
