/- some, Reach, Small: what the law asks of a graph; at this seat's numbers. -/
import Derived.Test.YtkjpeacnponcfaaGreatDoorGoW
import Derived.Test.YtkjpeacnponcfaaGreatDoorGoR
import Derived.Deep.LoopGhost
namespace Go.Proofs.YtkjpeacnponcfaaGreatDoor
open Go Go.RowKit Go.Shelf Go.MuLone Go.RwLone
set_option linter.unusedSimpArgs false
set_option linter.unusedVariables false
attribute [local go_sem] Oper.semAt_some

/-- The ones of raw numbers. -/
def someL (L : List Int) (zs : List Int) : List Int := if L.length = 0 then [] else zs.map fun z => L.getD (z.toNat % L.length) 0
theorem take_nextS {zs : List Int} {i : Nat} (h : i < zs.length) : zs.take (i + 1) = zs.take i ++ [zs.getD i 0] := by
  rw [List.take_add_one, List.getElem?_eq_getElem h]
  simp [List.getD, h]
theorem someL_next {L zs : List Int} {i : Nat} (h : i < zs.length) (hL : L.length ≠ 0) : someL L (zs.take (i + 1)) = someL L (zs.take i) ++ [L.getD ((zs.getD i 0).toNat % L.length) 0] := by
  unfold someL
  rw [if_neg hL, if_neg hL, take_nextS h, List.map_append]
  rfl
theorem someL_mem {L zs : List Int} {x : Int} (h : x ∈ someL L zs) : x ∈ L := by
  unfold someL at h
  by_cases e : L.length = 0
  · rw [if_pos e] at h; cases h
  · rw [if_neg e] at h
    obtain ⟨z, _, rfl⟩ := List.mem_map.1 h
    have hl : z.toNat % L.length < L.length := Nat.mod_lt _ (by omega)
    have e2 : L.getD (z.toNat % L.length) 0 = L[z.toNat % L.length] := by simp [List.getD, hl]
    rw [e2]; exact List.getElem_mem hl
theorem someL_length (L zs : List Int) : (someL L zs).length ≤ zs.length := by
  unfold someL
  split
  · simp
  · simp
def SomeA (B : Nat) (L zs : List Int) (w : World) (v5 v10 : Value) (wr : World) : Prop :=
  ∃ i : Nat, i ≤ zs.length ∧ v10 = .int .i64 (i : Int) ∧ RefRow wr v5 (someL L (zs.take i)) ∧ Below B w wr ∧ ∀ k, v5.ownBlock = some k → B ≤ k

end Go.Proofs.YtkjpeacnponcfaaGreatDoor
