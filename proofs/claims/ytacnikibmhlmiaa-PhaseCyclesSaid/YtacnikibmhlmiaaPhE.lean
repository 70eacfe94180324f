/- A phases' machine that a call made since; law 17's done and fit; at this seat's numbers. -/
import Derived.Test.YtacnikibmhlmiaaPhD
namespace Go.Proofs.Ytacnikibmhlmiaa
open Go Go.RowKit
set_option linter.unusedSimpArgs false
set_option linter.unusedVariables false
attribute [local go_sem] Oper.semAt_some

/-- A machine that a call made since. -/
structure PhIn (B p : Nat) (S : Phs) (wb wr : World) : Prop where
  at_ : PhAt wr p S
  lo : B ≤ p
  below : Below B wb wr
  base : B ≤ wb.heap.size
section
variable {B p : Nat} {S S' : Phs} {wb wr w' : World} {v : Value} {e : Ending}
theorem PhIn.size (h : PhIn B p S wb wr) : B ≤ wr.heap.size := Nat.le_trans h.base h.below.size
theorem PhIn.step (h : PhIn B p S wb wr) (k : PhAt w' p S') (T : Turn (fun k => k = p) wr w') : PhIn B p S' wb w' :=
  ⟨k, h.lo, h.below.trans (T.below B h.size fun i hi e => by have := h.lo; omega), h.base⟩
theorem PhIn.is (h : PhIn B p S wb wr) (e : S = S') : PhIn B p S' wb wr := e ▸ h
theorem PhIn.ask (h : PhIn B p S wb wr) (hB : Below wr.heap.size wr w') : PhIn B p S wb w' :=
  ⟨h.at_.turn (Turn.ofBelow hB) (fun e => by have := h.at_.lt; omega), h.lo, h.below.trans (hB.mono h.size), h.base⟩
theorem PhIn.alloc (h : PhIn B p S wb wr) (o : Obj) : PhIn B p S wb (wr.alloc o) := h.ask ((Below.refl _ wr).alloc (Nat.le_refl _) o)
theorem PhIn.drew (h : PhIn B p S wb wr) : PhIn B p S wb wr.drew := h.ask (Below.refl _ wr).drew
theorem PhIn.turned {M : Nat → Prop} (h : PhIn B p S wb wr) (T : Turn M wr w') (hM : ∀ k, M k → B ≤ k ∧ k ≠ p) : PhIn B p S wb w' :=
  ⟨h.at_.turn T (fun e => (hM p e).2 rfl), h.lo, h.below.trans (T.below B h.size fun i hi e => by have := (hM i e).1; omega), h.base⟩
theorem PhIn.drewN (h : PhIn B p S wb wr) (n : Nat) : PhIn B p S wb (wr.drewN n) := h.turned ((Turn.refl (fun _ => False) wr).drewN n) (fun _ e => e.elim)
theorem phIn_new (hB : Below B wb wr) (hb : B ≤ wb.heap.size) : Calls Try.prog 10 #[] wr fun e w' =>
    ∃ p, e = .returned (.pointer (some ⟨p, 0, none⟩)) ∧ PhIn B p Phs.init wb w' ∧ Below wr.heap.size wr w' := by
  refine (phNew wr).mono ?_
  rintro e w1 ⟨rfl, hA, hB1⟩
  have := hB.size
  exact ⟨_, rfl, ⟨hA, by omega, hB.trans (hB1.mono (by omega)), hb⟩, hB1⟩

set_option maxHeartbeats 2000000 in
theorem phfit_true (w : World) : Calls Try.prog 9 #[] w fun e w' => e = .returned (.bool true) ∧ Below w.heap.size w w' := by
  go_enter Try.func9, Try.ntmps9
  go_wp2_with fail
  refine (phIn_new (B := w.heap.size) (wb := w) (wr := w) (Below.refl _ _) (Nat.le_refl _)).mono ?_
  rintro e w1 ⟨p, rfl, h1, _⟩
  go_wp2_with fail
  refine (show Calls Try.prog 13 #[.pointer (some ⟨p, 0, none⟩)] w1 (fun e w' => e = .returned (.int .i64 0) ∧ w1 = w') from h1.at_.nowC).mono ?_
  rintro e w2 ⟨rfl, rfl⟩
  go_wp2_with fail
  refine (show Calls Try.prog 19 #[.pointer (some ⟨p, 0, none⟩)] w1 (PhPost p ⟨1, 0, noB, noB, noB⟩ w1 (.bool true)) from h1.at_.beginC).mono ?_
  rintro e w2 ⟨rfl, k, T⟩
  have h2 := h1.step k T
  clear h1 k T
  go_wp2_with fail
  refine (show Calls Try.prog 19 #[.pointer (some ⟨p, 0, none⟩)] w2 (PhPost p ⟨1, 0, noB, noB, noB⟩ w2 (.bool false)) from h2.at_.beginC).mono ?_
  rintro e w3 ⟨rfl, k, T⟩
  have h3 := h2.step k T
  clear h2 k T
  go_wp2_with fail
  refine (show Calls Try.prog 20 #[.pointer (some ⟨p, 0, none⟩)] w3 (PhPost p ⟨2, 1, noB, noB, noB⟩ w3 (.bool true)) from h3.at_.advanceC (by decide)).mono ?_
  rintro e w4 ⟨rfl, k, T⟩
  have h4 := h3.step k T
  clear h3 k T
  go_wp2_with fail
  refine (show Calls Try.prog 20 #[.pointer (some ⟨p, 0, none⟩)] w4 (PhPost p ⟨3, 2, noB, noB, noB⟩ w4 (.bool true)) from h4.at_.advanceC (by decide)).mono ?_
  rintro e w5 ⟨rfl, k, T⟩
  have h5 := h4.step k T
  clear h4 k T
  go_wp2_with fail
  refine (show Calls Try.prog 20 #[.pointer (some ⟨p, 0, none⟩)] w5 (PhPost p ⟨3, 2, noB, noB, noB⟩ w5 (.bool false)) from h5.at_.advanceC (by decide)).mono ?_
  rintro e w6 ⟨rfl, k, T⟩
  have h6 := h5.step k T
  clear h5 k T
  go_wp2_with fail
  refine (show Calls Try.prog 13 #[.pointer (some ⟨p, 0, none⟩)] w6 (fun e w' => e = .returned (.int .i64 3) ∧ w6 = w') from h6.at_.nowC).mono ?_
  rintro e w7 ⟨rfl, rfl⟩
  go_wp2_with fail
  refine (show Calls Try.prog 14 #[.pointer (some ⟨p, 0, none⟩)] w6 (fun e w' => e = .returned (.int .i64 2) ∧ w6 = w') from h6.at_.roundsC).mono ?_
  rintro e w7 ⟨rfl, rfl⟩
  have hbl := h6.below
  clear h6
  go_wp2_with fail
  go_ret
  exact ⟨rfl, hbl⟩

/-- law 17's done: a call by its number. -/
theorem PhAt.doneC {w : World} (h : PhAt w p S) (hr : S.rounds ≤ 1000000) {kind t : Nat} (hk : kind < 7) (ht : t < 4) : Calls Try.prog 11 #[.pointer (some ⟨p, 0, none⟩), .int .i64 (kind : Int), .int .i64 (t : Int)] w (PhPost p (S.doS kind t) w (.bool (S.doB kind t))) := by
  obtain rfl | rfl | rfl | rfl | rfl | rfl | rfl : kind = 0 ∨ kind = 1 ∨ kind = 2 ∨ kind = 3 ∨ kind = 4 ∨ kind = 5 ∨ kind = 6 := by omega
  · show Calls _ _ _ w (PhPost p (S.begin_) w (.bool (S.beginB)))
    have cX := h.beginC
    have HX := Lib.hid cX
    clear cX
    go_enter Try.func11, Try.ntmps11
    go_wp2_with fail
    refine HX.out.mono ?_
    rintro e w1 ⟨rfl, k, T⟩
    go_wp2_with fail
    go_ret
    exact ⟨rfl, k, T⟩
  · show Calls _ _ _ w (PhPost p (S.ack t) w (.bool (S.wants t)))
    have cX := h.ackC ht
    have HX := Lib.hid cX
    clear cX
    go_enter Try.func11, Try.ntmps11
    go_wp2_with fail
    refine HX.out.mono ?_
    rintro e w1 ⟨rfl, k, T⟩
    go_wp2_with fail
    go_ret
    exact ⟨rfl, k, T⟩
  · show Calls _ _ _ w (PhPost p (S.join t) w (.bool (false)))
    have cX := h.joinC ht
    have HX := Lib.hid cX
    clear cX
    go_enter Try.func11, Try.ntmps11
    go_wp2_with fail
    refine HX.out.mono ?_
    rintro e w1 ⟨rfl, k, T⟩
    go_wp2_with fail
    go_ret
    exact ⟨rfl, k, T⟩
  · show Calls _ _ _ w (PhPost p (S.leave t) w (.bool (false)))
    have cX := h.leaveC ht
    have HX := Lib.hid cX
    clear cX
    go_enter Try.func11, Try.ntmps11
    go_wp2_with fail
    refine HX.out.mono ?_
    rintro e w1 ⟨rfl, k, T⟩
    go_wp2_with fail
    go_ret
    exact ⟨rfl, k, T⟩
  · show Calls _ _ _ w (PhPost p (S.adv) w (.bool (S.advB)))
    have cX := h.advanceC hr
    have HX := Lib.hid cX
    clear cX
    go_enter Try.func11, Try.ntmps11
    go_wp2_with fail
    refine HX.out.mono ?_
    rintro e w1 ⟨rfl, k, T⟩
    go_wp2_with fail
    go_ret
    exact ⟨rfl, k, T⟩
  · show Calls _ _ _ w (PhPost p (S.marked) w (.bool (S.markedB)))
    have cX := h.markedC
    have HX := Lib.hid cX
    clear cX
    go_enter Try.func11, Try.ntmps11
    go_wp2_with fail
    refine HX.out.mono ?_
    rintro e w1 ⟨rfl, k, T⟩
    go_wp2_with fail
    go_ret
    exact ⟨rfl, k, T⟩
  · show Calls _ _ _ w (PhPost p (S.swept) w (.bool (S.sweptB)))
    have cX := h.sweptC
    have HX := Lib.hid cX
    clear cX
    go_enter Try.func11, Try.ntmps11
    go_wp2_with fail
    refine HX.out.mono ?_
    rintro e w1 ⟨rfl, k, T⟩
    go_wp2_with fail
    go_ret
    exact ⟨rfl, k, T⟩
end
end Go.Proofs.Ytacnikibmhlmiaa
