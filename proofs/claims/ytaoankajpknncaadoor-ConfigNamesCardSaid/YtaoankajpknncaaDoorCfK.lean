/- Alike; ConfigAlike, walked; at this seat's numbers. -/
import Derived.Test.YtaoankajpknncaaDoorCfH
namespace Go.Proofs.YtaoankajpknncaaDoor
open Go Go.RowKit
set_option linter.unusedSimpArgs false
set_option linter.unusedVariables false
attribute [local go_sem] Oper.semAt_some

def alikeB (a b : Cfg) : Bool := (a.t == b.t) && ((a.r == b.r) && ((a.s == b.s) && ((a.g == b.g) && (a.f == b.f))))
theorem alikeB_comm (a b : Cfg) : alikeB b a = alikeB a b := by
  unfold alikeB
  rw [Bool.beq_comm (a := b.t), Bool.beq_comm (a := b.r), Bool.beq_comm (a := b.s), Bool.beq_comm (a := b.g), Bool.beq_comm (a := b.f)]
theorem alikeB_at (a : Cfg) (e : Int) (k : Bool) : alikeB (a.at e k) a = true := by simp [alikeB, Cfg.at]
def Cfg.like (a b : Cfg) : Cfg := ⟨b.e, b.k, b.p, a.t, a.r, a.s, a.g, a.f, b.m, b.l, b.b⟩
theorem like_like (a b : Cfg) : alikeB a (a.like b) = true := by simp [alikeB, Cfg.like]
set_option maxRecDepth 100000 in
set_option maxHeartbeats 4000000 in
theorem alike_any (a b : Cfg) (w : World) : Calls Tryd.prog 15 #[a.val, b.val] w fun e w' => e = .returned (.bool (alikeB a b)) ∧ Below w.heap.size w w' := by
  have hB := ((Below.refl w.heap.size w).alloc (Nat.le_refl _) (.cells a.arr 23)).alloc (by simp) (.cells b.arr 23)
  have HB := Lib.hid hB
  clear hB
  unfold alikeB
  cases e0 : (a.t == b.t)
  · go_enter Tryd.func15, Tryd.ntmps15
    go_wp2_with fail
    go_ret
    exact ⟨by simp, HB.out⟩
  cases e1 : (a.r == b.r)
  · go_enter Tryd.func15, Tryd.ntmps15
    go_wp2_with fail
    go_ret
    exact ⟨by simp, HB.out⟩
  cases e2 : (a.s == b.s)
  · go_enter Tryd.func15, Tryd.ntmps15
    go_wp2_with fail
    go_ret
    exact ⟨by simp, HB.out⟩
  cases e3 : (a.g == b.g)
  · go_enter Tryd.func15, Tryd.ntmps15
    go_wp2_with fail
    go_ret
    exact ⟨by simp, HB.out⟩
  cases e4 : (a.f == b.f)
  · go_enter Tryd.func15, Tryd.ntmps15
    go_wp2_with fail
    go_ret
    exact ⟨by simp, HB.out⟩
  · go_enter Tryd.func15, Tryd.ntmps15
    go_wp2_with fail
    go_ret
    exact ⟨by simp, HB.out⟩
end Go.Proofs.YtaoankajpknncaaDoor
