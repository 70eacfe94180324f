/- Plain: lists of numbers that are gone through turned round. It speaks of no program. -/
namespace Go.Proofs.YtbahichdoafliaaDoor

/-- The numbers at the first k of the turned places. -/
def goneL (zs : List Int) (t k : Nat) : List Int := (List.range k).map fun i => zs.getD ((i + t) % zs.length) 0
theorem goneL_zero (zs : List Int) (t : Nat) : goneL zs t 0 = [] := rfl
theorem goneL_succ (zs : List Int) (t k : Nat) : goneL zs t (k + 1) = goneL zs t k ++ [zs.getD ((k + t) % zs.length) 0] := by
  simp [goneL, List.range_succ]
theorem goneL_all (zs : List Int) (t : Nat) (x : Int) (h : x ∈ zs) : x ∈ goneL zs t zs.length := by
  obtain ⟨p, hp, rfl⟩ := List.getElem_of_mem h
  have hl : 0 < zs.length := by omega
  have ht : t % zs.length < zs.length := Nat.mod_lt _ hl
  refine List.mem_map.2 ⟨(p + (zs.length - t % zs.length)) % zs.length, List.mem_range.2 (Nat.mod_lt _ hl), ?_⟩
  have e : ((p + (zs.length - t % zs.length)) % zs.length + t) % zs.length = p := by
    rw [Nat.mod_add_mod]
    have h1 : t = zs.length * (t / zs.length) + t % zs.length := (Nat.div_add_mod t zs.length).symm
    generalize t % zs.length = r at *
    generalize t / zs.length = d at *
    subst h1
    have h2 : p + (zs.length - r) + (zs.length * d + r) = p + zs.length * (d + 1) := by
      rw [Nat.mul_add]; omega
    rw [h2, Nat.add_mul_mod_self_left, Nat.mod_eq_of_lt hp]
  rw [e]
  simp [List.getD, hp]
theorem goneL_mem (zs : List Int) (t k : Nat) (hk : k < zs.length) : zs.getD ((k + t) % zs.length) 0 ∈ zs := by
  have h : (k + t) % zs.length < zs.length := Nat.mod_lt _ (by omega)
  have : zs.getD ((k + t) % zs.length) 0 = zs[(k + t) % zs.length] := by simp [List.getD, h]
  rw [this]; exact List.getElem_mem h

/-- What is left of the set, and what the map says. -/
def leftS (zs : List Int) (g : List Int) : Nat → Bool := fun j => decide ((j : Int) ∈ zs) && !decide ((j : Int) ∈ g)
def leftF (zs : List Int) (g : List Int) : Int → Int := fun y => if y ∈ g then 2 else if y ∈ zs then 1 else 0
theorem leftF_same (zs g : List Int) (x : Int) (hx : x ∈ zs) (h0 : 0 ≤ x) : leftS zs g x.toNat = (leftF zs g x == 1) := by
  have e : ((x.toNat : Nat) : Int) = x := by omega
  unfold leftS leftF
  rw [e]
  by_cases h : x ∈ g <;> simp [h, hx]
theorem leftF_next (zs g : List Int) (x : Int) : (fun y => if y = x then 2 else leftF zs g y) = leftF zs (g ++ [x]) := by
  funext y
  unfold leftF
  by_cases h : y = x <;> simp [h]
theorem leftS_next (zs g : List Int) (x : Int) : (fun j => leftS zs g j && !decide ((j : Int) = x)) = leftS zs (g ++ [x]) := by
  funext j
  unfold leftS
  rw [Bool.and_assoc, ← Bool.not_or]
  congr 2
  rw [Bool.eq_iff_iff]
  simp
theorem leftS_end (zs : List Int) (t : Nat) : leftS zs (goneL zs t zs.length) = fun _ => false := by
  funext j
  unfold leftS
  by_cases h : (j : Int) ∈ zs
  · simp [h, goneL_all zs t _ h]
  · simp [h]
end Go.Proofs.YtbahichdoafliaaDoor
