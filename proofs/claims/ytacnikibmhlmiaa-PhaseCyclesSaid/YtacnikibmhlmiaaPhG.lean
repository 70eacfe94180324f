/- Plain: what phases keep, call by call; a machine and a model. -/
import Derived.Test.YtacnikibmhlmiaaPhF
namespace Go.Proofs.Ytacnikibmhlmiaa
open Go Go.RowKit
set_option linter.unusedSimpArgs false
set_option linter.unusedVariables false
namespace Phs
theorem doS0 (S : Phs) (t : Nat) : S.doS 0 t = S.begin_ := rfl
theorem kinds {kind : Nat} (h : kind < 7) : kind = 0 ∨ kind = 1 ∨ kind = 2 ∨ kind = 3 ∨ kind = 4 ∨ kind = 5 ∨ kind = 6 := by omega
/-- How far a call leads. -/
theorem doS_now {S : Phs} (h : S.now ≤ 4) {kind : Nat} (hk : kind < 7) (t : Nat) : (S.doS kind t).now ≤ 4 ∧ ((S.doS kind t).now = S.now ∨ (S.doS kind t).now = (S.now + 1) % 5) := by
  obtain rfl | rfl | rfl | rfl | rfl | rfl | rfl := kinds hk
  · show (S.begin_).now ≤ 4 ∧ _
    show (S.begin_).now ≤ 4 ∧ ((S.begin_).now = S.now ∨ (S.begin_).now = (S.now + 1) % 5)
    unfold begin_; split
    · next e => simp [enter, e]
    · exact ⟨h, .inl rfl⟩
  · show (S.ack t).now ≤ 4 ∧ ((S.ack t).now = S.now ∨ (S.ack t).now = (S.now + 1) % 5)
    unfold ack; split <;> exact ⟨h, .inl rfl⟩
  · show (S.join t).now ≤ 4 ∧ ((S.join t).now = S.now ∨ (S.join t).now = (S.now + 1) % 5)
    unfold join; split <;> exact ⟨h, .inl rfl⟩
  · exact ⟨h, .inl rfl⟩
  · show (S.adv).now ≤ 4 ∧ ((S.adv).now = S.now ∨ (S.adv).now = (S.now + 1) % 5)
    unfold adv; split
    · next e =>
      have hq : S.asks = true := by unfold advB at e; simp at e; exact e.1
      have := asks_iff.1 hq
      simp only [enter]
      omega
    · exact ⟨h, .inl rfl⟩
  · show (S.marked).now ≤ 4 ∧ ((S.marked).now = S.now ∨ (S.marked).now = (S.now + 1) % 5)
    unfold marked; split
    · next e => simp [enter, e]
    · exact ⟨h, .inl rfl⟩
  · show (S.swept).now ≤ 4 ∧ ((S.swept).now = S.now ∨ (S.swept).now = (S.now + 1) % 5)
    unfold swept; split
    · next e => simp [enter, e]
    · exact ⟨h, .inl rfl⟩
theorem doS_rounds (S : Phs) {kind : Nat} (hk : kind < 7) (t : Nat) : (S.doS kind t).rounds ≤ S.rounds + 1 := by
  obtain rfl | rfl | rfl | rfl | rfl | rfl | rfl := kinds hk
  · show (S.begin_).rounds ≤ _
    unfold begin_; split <;> simp [enter]
  · show (S.ack t).rounds ≤ _
    unfold ack; split <;> simp
  · show (S.join t).rounds ≤ _
    unfold join; split <;> simp
  · show (S.leave t).rounds ≤ _
    simp [leave]
  · show (S.adv).rounds ≤ _
    unfold adv; split <;> simp
  · show (S.marked).rounds ≤ _
    unfold marked; split <;> simp [enter]
  · show (S.swept).rounds ≤ _
    unfold swept; split <;> simp [enter]
/-- A machine and law 17's model say the same. -/
structure Rel (S M : Phs) : Prop where
  now : S.now = M.now
  rounds : S.rounds = M.rounds
  l : S.l = M.l
  a : S.a = M.a
  k : S.asks = true → S.k = M.k
theorem Rel.asks {S M : Phs} (h : Rel S M) : S.asks = M.asks := by unfold Phs.asks; rw [h.now]
theorem Rel.wants {S M : Phs} (h : Rel S M) (t : Nat) : S.wants t = M.wants t := by
  unfold Phs.wants
  rw [← h.asks, ← h.l]
  cases hq : S.asks
  · rfl
  · rw [h.k hq]
theorem Rel.wantsAny {S M : Phs} (h : Rel S M) : S.wantsAny = M.wantsAny := by unfold Phs.wantsAny; rw [h.wants, h.wants, h.wants, h.wants]
theorem Rel.late {S M : Phs} (h : Rel S M) : S.late = M.late := by unfold Phs.late; rw [h.asks, h.now]
theorem Rel.advB {S M : Phs} (h : Rel S M) : S.advB = M.advB := by unfold Phs.advB; rw [h.asks, h.wantsAny]
theorem Rel.doB {S M : Phs} (h : Rel S M) {kind : Nat} (hk : kind < 7) (t : Nat) : S.doB kind t = M.doB kind t := by
  obtain rfl | rfl | rfl | rfl | rfl | rfl | rfl := kinds hk
  · show S.beginB = M.beginB
    unfold beginB; rw [h.now]
  · exact h.wants t
  · rfl
  · rfl
  · exact h.advB
  · show S.markedB = M.markedB
    unfold markedB; rw [h.now]
  · show S.sweptB = M.sweptB
    unfold sweptB; rw [h.now]
theorem Rel.doS {S M : Phs} (h : Rel S M) {kind : Nat} (hk : kind < 7) (t : Nat) : Rel (S.doS kind t) (M.moS kind t) := by
  obtain rfl | rfl | rfl | rfl | rfl | rfl | rfl := kinds hk
  · show Rel S.begin_ M.begin_
    unfold begin_
    by_cases e : S.now = 0
    · rw [if_pos e, if_pos (h.now ▸ e)]
      exact ⟨rfl, h.rounds, h.l, h.a, fun _ => rfl⟩
    · rw [if_neg e, if_neg (h.now ▸ e)]; exact h
  · show Rel (S.ack t) (M.ack t)
    unfold ack
    by_cases e : S.wants t = true
    · have e2 : M.wants t = true := h.wants t ▸ e
      rw [if_pos e, if_pos e2]
      have hq : S.asks = true := by unfold Phs.wants at e; simp at e; exact e.1
      refine ⟨h.now, h.rounds, h.l, ?_, fun _ => ?_⟩
      · show (if S.now = 1 then setB S.a t true else S.a) = (if M.now = 1 then setB M.a t true else M.a)
        rw [h.now, h.a]
      · show setB S.k t true = setB M.k t true
        rw [h.k hq]
    · rw [if_neg e, if_neg (h.wants t ▸ e)]; exact h
  · show Rel (S.join t) (M.join t)
    unfold join
    by_cases e : S.l t = true
    · rw [if_pos e, if_pos (h.l ▸ e)]; exact h
    · rw [if_neg e, if_neg (h.l ▸ e)]
      refine ⟨h.now, h.rounds, ?_, ?_, fun hq => ?_⟩
      · show setB S.l t true = setB M.l t true
        rw [h.l]
      · show setB S.a t S.late = setB M.a t M.late
        rw [h.a, h.late]
      · show setB S.k t S.late = setB M.k t M.late
        rw [h.k hq, h.late]
  · show Rel (S.leave t) (M.leave t)
    refine ⟨h.now, h.rounds, ?_, ?_, fun hq => ?_⟩
    · show setB S.l t false = setB M.l t false
      rw [h.l]
    · show setB S.a t false = setB M.a t false
      rw [h.a]
    · show setB S.k t false = setB M.k t false
      rw [h.k hq]
  · show Rel S.adv M.adv
    unfold adv
    rw [h.advB]
    split
    · refine ⟨?_, ?_, h.l, h.a, fun _ => rfl⟩
      · show S.now + 1 = M.now + 1
        rw [h.now]
      · show S.rounds + 1 = M.rounds + 1
        rw [h.rounds]
    · exact h
  · show Rel S.marked (if M.now = 3 then { M with now := 4, a := noB } else M)
    unfold marked
    by_cases e : S.now = 3
    · rw [if_pos e, if_pos (h.now ▸ e)]
      exact ⟨rfl, h.rounds, h.l, rfl, fun hq => by simp [Phs.asks, enter] at hq⟩
    · rw [if_neg e, if_neg (h.now ▸ e)]; exact h
  · show Rel S.swept (if M.now = 4 then { M with now := 0 } else M)
    unfold swept
    by_cases e : S.now = 4
    · rw [if_pos e, if_pos (h.now ▸ e)]
      exact ⟨rfl, h.rounds, h.l, h.a, fun hq => by simp [Phs.asks, enter] at hq⟩
    · rw [if_neg e, if_neg (h.now ▸ e)]; exact h
/-- Who is armed, phase by phase. -/
structure Arm (S : Phs) : Prop where
  far : S.now ≤ 4
  dead : ∀ t, S.l t = false → S.a t = false
  on : S.now = 2 ∨ S.now = 3 → ∀ t, S.a t = S.l t
  off : S.now = 0 ∨ S.now = 4 → ∀ t, S.a t = false
  /-- In Arming those that have acknowledged are armed. -/
  told : S.now = 1 → ∀ t, S.k t = true → S.a t = true
  four : ∀ t, 4 ≤ t → S.l t = false
theorem Arm.init : Arm Phs.init := ⟨by decide, fun _ _ => rfl, fun h => by simp [Phs.init] at h, fun _ _ => rfl, fun h => by simp [Phs.init] at h, fun _ _ => rfl⟩
theorem Arm.want {S : Phs} (h : Arm S) {t : Nat} (hl : S.l t = false) : S.wants t = false := by unfold Phs.wants; rw [hl]; simp
/-- Who lives behind a call. -/
def liveOf (l : Nat → Bool) (kind t : Nat) : Nat → Bool := if kind = 2 then setB l t true else if kind = 3 then setB l t false else l
theorem setB_same (f : Nat → Bool) (t : Nat) : setB f t (f t) = f := by
  funext i; unfold setB; split
  · next e => rw [e]
  · rfl
theorem doS_l (S : Phs) {kind : Nat} (hk : kind < 7) (t : Nat) : (S.doS kind t).l = liveOf S.l kind t := by
  obtain rfl | rfl | rfl | rfl | rfl | rfl | rfl := kinds hk
  · show (S.begin_).l = S.l
    unfold begin_; split <;> rfl
  · show (S.ack t).l = S.l
    unfold ack; split <;> rfl
  · show (S.join t).l = setB S.l t true
    unfold join; split
    · next e => rw [← e, setB_same]
    · rfl
  · rfl
  · show (S.adv).l = S.l
    unfold adv; split <;> rfl
  · show (S.marked).l = S.l
    unfold marked; split <;> rfl
  · show (S.swept).l = S.l
    unfold swept; split <;> rfl
theorem Arm.doS {S : Phs} (h : Arm S) {kind t : Nat} (hk : kind < 7) (ht : t < 4) : Arm (S.doS kind t) := by
  obtain rfl | rfl | rfl | rfl | rfl | rfl | rfl := kinds hk
  · show Arm S.begin_
    unfold begin_; split
    · next e => exact ⟨by simp [enter], h.dead, fun x => by simp [enter] at x, fun x => by simp [enter] at x, fun _ t hx => by simp [enter, noB] at hx, h.four⟩
    · exact h
  · show Arm (S.ack t)
    unfold ack; split
    · next e =>
      have hl : S.l t = true := by unfold Phs.wants at e; simp at e; exact e.2.1
      refine ⟨h.far, fun i hi => ?_, fun x i => ?_, fun x i => ?_, fun x i hx => ?_, h.four⟩
      · have hne : i ≠ t := fun e2 => by subst e2; rw [show S.l i = true from hl] at hi; cases hi
        show (if S.now = 1 then setB S.a t true else S.a) i = false
        split
        · rw [setB_ne _ _ hne]; exact h.dead i hi
        · exact h.dead i hi
      · have hx : S.now = 2 ∨ S.now = 3 := x
        show (if S.now = 1 then setB S.a t true else S.a) i = S.l i
        rw [if_neg (by omega)]; exact h.on hx i
      · have hx : S.now = 0 ∨ S.now = 4 := x
        show (if S.now = 1 then setB S.a t true else S.a) i = false
        rw [if_neg (by omega)]; exact h.off hx i
      · have hn : S.now = 1 := x
        show (if S.now = 1 then setB S.a t true else S.a) i = true
        rw [if_pos hn]
        by_cases e2 : i = t
        · rw [e2, setB_self]
        · rw [setB_ne _ _ e2]
          have : setB S.k t true i = true := hx
          rw [setB_ne _ _ e2] at this
          exact h.told hn i this
    · exact h
  · show Arm (S.join t)
    unfold join; split
    · exact h
    · refine ⟨h.far, fun i hi => ?_, fun x i => ?_, fun x i => ?_, fun x i hx => ?_, fun i hi => ?_⟩
      · have hi2 : setB S.l t true i = false := hi
        by_cases e2 : i = t
        · rw [e2, setB_self] at hi2; cases hi2
        · rw [setB_ne _ _ e2] at hi2
          show setB S.a t S.late i = false
          rw [setB_ne _ _ e2]; exact h.dead i hi2
      · have hx : S.now = 2 ∨ S.now = 3 := x
        have hL : S.late = true := by unfold late Phs.asks; rcases hx with e | e <;> rw [e] <;> decide
        show setB S.a t S.late i = setB S.l t true i
        rw [hL]
        by_cases e2 : i = t
        · rw [e2, setB_self, setB_self]
        · rw [setB_ne _ _ e2, setB_ne _ _ e2]; exact h.on hx i
      · have hx : S.now = 0 ∨ S.now = 4 := x
        have hL : S.late = false := by unfold late Phs.asks; rcases hx with e | e <;> rw [e] <;> decide
        show setB S.a t S.late i = false
        rw [hL]
        by_cases e2 : i = t
        · rw [e2, setB_self]
        · rw [setB_ne _ _ e2]; exact h.off hx i
      · have hn : S.now = 1 := x
        have hL : S.late = true := by unfold late Phs.asks; rw [hn]; decide
        show setB S.a t S.late i = true
        rw [hL]
        by_cases e2 : i = t
        · rw [e2, setB_self]
        · rw [setB_ne _ _ e2]
          have : setB S.k t S.late i = true := hx
          rw [setB_ne _ _ e2] at this
          exact h.told hn i this
      · show setB S.l t true i = false
        rw [setB_ne _ _ (by omega)]; exact h.four i hi
  · show Arm (S.leave t)
    refine ⟨h.far, fun i hi => ?_, fun x i => ?_, fun x i => ?_, fun x i hx => ?_, fun i hi => ?_⟩
    · show setB S.a t false i = false
      by_cases e2 : i = t
      · rw [e2, setB_self]
      · have hi2 : setB S.l t false i = false := hi
        rw [setB_ne _ _ e2] at hi2 ⊢
        exact h.dead i hi2
    · show setB S.a t false i = setB S.l t false i
      by_cases e2 : i = t
      · rw [e2, setB_self, setB_self]
      · rw [setB_ne _ _ e2, setB_ne _ _ e2]; exact h.on x i
    · show setB S.a t false i = false
      by_cases e2 : i = t
      · rw [e2, setB_self]
      · rw [setB_ne _ _ e2]; exact h.off x i
    · have : setB S.k t false i = true := hx
      by_cases e2 : i = t
      · rw [e2, setB_self] at this; cases this
      · rw [setB_ne _ _ e2] at this
        show setB S.a t false i = true
        rw [setB_ne _ _ e2]; exact h.told x i this
    · show setB S.l t false i = false
      rw [setB_ne _ _ (by omega)]; exact h.four i hi
  · show Arm S.adv
    unfold adv; split
    · next e =>
      have hq : S.asks = true := by unfold Phs.advB at e; simp at e; exact e.1
      have hno : S.wantsAny = false := by unfold Phs.advB at e; simp at e; exact e.2
      have hq2 := asks_iff.1 hq
      have hon : ∀ i, S.a i = S.l i := by
        intro i
        rcases hq2 with hn | hn
        · cases hl : S.l i
          · exact h.dead i hl
          · by_cases hi : i < 4
            · have hw := wantsAny_no.1 hno i hi
              have hk : S.k i = true := by unfold Phs.wants at hw; rw [hq, hl] at hw; simpa using hw
              exact h.told hn i hk
            · rw [h.four i (by omega)] at hl; cases hl
        · exact h.on (.inl hn) i
      refine ⟨?_, h.dead, fun _ => hon, fun x => ?_, fun x i hx => ?_, h.four⟩
      · show S.now + 1 ≤ 4
        omega
      · have : S.now + 1 = 0 ∨ S.now + 1 = 4 := x
        omega
      · have : S.now + 1 = 1 := x
        omega
    · exact h
  · show Arm S.marked
    unfold marked; split
    · exact ⟨by simp [enter], fun _ _ => rfl, fun x => by simp [enter] at x, fun _ _ => rfl, fun x => by simp [enter] at x, h.four⟩
    · exact h
  · show Arm S.swept
    unfold swept; split
    · next e => exact ⟨by simp [enter], h.dead, fun x => by simp [enter] at x, fun _ i => h.off (.inr e) i, fun x => by simp [enter] at x, h.four⟩
    · exact h
end Phs
end Go.Proofs.Ytacnikibmhlmiaa
