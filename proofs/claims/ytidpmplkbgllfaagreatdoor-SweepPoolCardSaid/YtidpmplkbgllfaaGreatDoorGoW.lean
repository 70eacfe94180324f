/- Graph.Made: an arena, objects that point to each other, and where each points; at this seat's numbers. -/
import Derived.Test.YtidpmplkbgllfaaGreatDoorGoB
import Derived.Shelf.RegionOpen
namespace Go.Proofs.YtidpmplkbgllfaaGreatDoor
open Go Go.RowKit Go.Shelf Go.MuLone Go.RwLone
set_option linter.unusedSimpArgs false
set_option linter.unusedVariables false
attribute [local go_sem] Oper.semAt_some

/-- Each cell that is taken is one of these objects'. -/
def Full (s : ArS) (obs : List Ob) : Prop := ∀ q : Nat, s.S q = true → ∃ x ∈ obs, x.r = q
theorem Full.set {s : ArS} {obs : List Ob} {i j : Nat} {x : Ob} {r o y : Int} (h : Full s obs) (hx : obs[i]? = some x) : Full (s.setW r o y) (obs.set i { x with F := Go.Proofs.YtidpmplkbgllfaaGreatDoor.upd x.F j y }) := fun q hq => by
  have hq2 : s.S q = true := by
    unfold ArS.setW at hq
    split at hq
    · exact hq
    · exact hq
  obtain ⟨z, hz, e⟩ := h q hq2
  obtain ⟨k, hk⟩ := List.mem_iff_getElem?.1 hz
  have hi : i < obs.length := (List.getElem?_eq_some_iff.1 hx).1
  by_cases e2 : k = i
  · subst e2
    rw [hx] at hk
    cases hk
    exact ⟨{ x with F := Go.Proofs.YtidpmplkbgllfaaGreatDoor.upd x.F j y }, List.mem_of_getElem? (i := k) (by simp [hi]), e⟩
  · exact ⟨z, List.mem_of_getElem? (i := k) (by rw [List.getElem?_set_ne (fun e3 => e2 e3.symm)]; exact hk), e⟩
/-- Two arenas that differ in no more than their words. -/
def SameSC (s t : ArS) : Prop := s.P = t.P ∧ s.cls = t.cls ∧ s.S = t.S
theorem SameSC.seek {s t : ArS} (h : SameSC s t) (c : Int) : seekF s c = seekF t c := by
  obtain ⟨P, cl, S, ws⟩ := s
  obtain ⟨P', cl', S', ws'⟩ := t
  obtain ⟨h1, h2, h3⟩ := h
  dsimp only at h1 h2 h3
  subst h1; subst h2; subst h3
  rfl
theorem SameSC.setW {s t : ArS} (h : SameSC s t) (r o y : Int) : SameSC (s.setW r o y) t := by
  unfold ArS.setW
  split
  · exact ⟨h.1, h.2.1, h.2.2⟩
  · exact h
theorem SameSC.symm {s t : ArS} (h : SameSC s t) : SameSC t s := ⟨h.1.symm, h.2.1.symm, h.2.2.symm⟩
theorem SameSC.take {s t : ArS} (h : SameSC s t) (c : Int) : SameSC (s.take c) (t.take c) := by
  unfold ArS.take
  rw [h.seek c]
  split
  · exact h
  · exact ⟨h.1, by rw [h.2.1], by rw [h.2.2]⟩
theorem SameSC.newR {s t : ArS} (h : SameSC s t) (k : Int) : Go.Proofs.YtidpmplkbgllfaaGreatDoor.newR s k = Go.Proofs.YtidpmplkbgllfaaGreatDoor.newR t k := by
  unfold Go.Proofs.YtidpmplkbgllfaaGreatDoor.newR
  rw [h.seek]
theorem SameSC.newS {s t : ArS} (h : SameSC s t) (k : Int) : SameSC (s.newS k) (t.newS k) := by
  unfold ArS.newS
  split
  · exact h
  · exact ((h.take _).setW _ _ _).symm.setW _ _ _ |>.symm
/-- The arena that so many fields, one object behind the other, lead to. -/
def layS (ks : List Nat) : ArS := ks.foldl (fun (t : ArS) (k : Nat) => t.newS (k : Int)) (ArS.new 64)
/-- The objects were made one behind the other in a new arena. -/
def Grown (s : ArS) (obs : List Ob) : Prop := SameSC s (layS (obs.map fun x => x.k)) ∧ ∀ i x, obs[i]? = some x → x.r = newR (layS ((obs.take i).map fun x => x.k)) (x.k : Int)
theorem Grown.nil : Grown (ArS.new 64) [] := ⟨⟨rfl, rfl, rfl⟩, fun i x h => by simp at h⟩
theorem Grown.push {s : ArS} {obs : List Ob} (h : Grown s obs) (k : Nat) : Grown (s.newS (k : Int)) (obs ++ [⟨newR s (k : Int), k, 0, fun _ => 0⟩]) := by
  refine ⟨?_, fun i x hx => ?_⟩
  · have e : layS ((obs ++ [(⟨newR s (k : Int), k, 0, fun _ => 0⟩ : Ob)]).map fun x => x.k) = (layS (obs.map fun x => x.k)).newS (k : Int) := by
      unfold layS; simp
    rw [e]; exact h.1.newS _
  · by_cases hi : i < obs.length
    · rw [List.getElem?_append_left hi] at hx
      rw [List.take_append_of_le_length (by omega)]
      exact h.2 i x hx
    · have hi2 : i = obs.length := by
        have := (List.getElem?_eq_some_iff.1 hx).1
        simp at this
        omega
      subst hi2
      simp at hx
      subst hx
      rw [List.take_append_of_le_length (Nat.le_refl _), List.take_length]
      exact h.1.newR _
theorem map_k_set {obs : List Ob} {i j : Nat} {x : Ob} {y : Int} (hx : obs[i]? = some x) : (obs.set i { x with F := Go.Proofs.YtidpmplkbgllfaaGreatDoor.upd x.F j y }).map (fun x => x.k) = obs.map fun x => x.k := by
  apply List.ext_getElem?
  intro n
  by_cases e : n = i
  · subst e
    have hn : n < obs.length := (List.getElem?_eq_some_iff.1 hx).1
    have h2 := (List.getElem?_eq_some_iff.1 hx).2
    simp [hn, h2]
  · simp [List.getElem?_set_ne (fun e2 => e e2.symm)]
theorem Grown.set {s : ArS} {obs : List Ob} {i j : Nat} {x : Ob} {r o y : Int} (h : Grown s obs) (hx : obs[i]? = some x) : Grown (s.setW r o y) (obs.set i { x with F := Go.Proofs.YtidpmplkbgllfaaGreatDoor.upd x.F j y }) := by
  refine ⟨by rw [map_k_set hx]; exact h.1.setW _ _ _, fun n z hz => ?_⟩
  have e1 : ((obs.set i { x with F := Go.Proofs.YtidpmplkbgllfaaGreatDoor.upd x.F j y }).take n).map (fun x => x.k) = (obs.take n).map fun x => x.k := by
    rw [List.map_take, map_k_set hx, ← List.map_take]
  rw [e1]
  by_cases e : n = i
  · subst e
    have hn : n < obs.length := (List.getElem?_eq_some_iff.1 hx).1
    simp [hn] at hz
    subst hz
    exact h.2 n x hx
  · rw [List.getElem?_set_ne (fun e2 => e e2.symm)] at hz
    exact h.2 n z hz
/-- The objects have as many fields as the bytes say. -/
def KsOf (w : World) (a0 : Option Addr) (obs : List Ob) : Prop := ∀ i x, obs[i]? = some x → ∃ bk off z, a0 = some ⟨bk, off, none⟩ ∧ w.cell? ⟨bk, off + i, none⟩ = some (.int .u8 z) ∧ x.k = z.toNat % 7
/-- All objects that there are, and how they came. -/
def Full2 (w : World) (a0 : Option Addr) (s : ArS) (obs : List Ob) : Prop := Full s obs ∧ Grown s obs ∧ KsOf w a0 obs
theorem Full2.nil {w : World} {a0 : Option Addr} : Full2 w a0 (ArS.new 64) [] := ⟨fun q hq => (by cases hq), Grown.nil, fun i x h => by simp at h⟩
theorem Full2.set {w : World} {a0 : Option Addr} {s : ArS} {obs : List Ob} {i j : Nat} {x : Ob} {r o y : Int} (h : Full2 w a0 s obs) (hx : obs[i]? = some x) : Full2 w a0 (s.setW r o y) (obs.set i { x with F := Go.Proofs.YtidpmplkbgllfaaGreatDoor.upd x.F j y }) :=
  ⟨h.1.set hx, h.2.1.set hx, fun n z hz => by
    by_cases e : n = i
    · subst e
      have hn : n < obs.length := (List.getElem?_eq_some_iff.1 hx).1
      simp [hn] at hz
      subst hz
      exact h.2.2 n x hx
    · rw [List.getElem?_set_ne (fun e2 => e e2.symm)] at hz
      exact h.2.2 n z hz⟩
/-- Objects that point to each other, all that there are; as long as no edge was set, to nothing. -/
def CloN (w : World) (a0 : Option Addr) (s : ArS) (m : Nat) (obs : List Ob) : Prop := Closed obs ∧ (m = 0 → ∀ x ∈ obs, ∀ j, x.F j = 0) ∧ Full2 w a0 s obs
theorem CloN.nil {w : World} {a0 : Option Addr} {s : ArS} (m : Nat) (h : Full2 w a0 s []) : CloN w a0 s m [] := ⟨fun x hx => (by cases hx), fun _ x hx => (by cases hx), h⟩
theorem CloN.push {w : World} {a0 : Option Addr} {s : ArS} {k bk off i : Nat} {z : Int} {obs : List Ob} (h : CloN w a0 s 0 obs) (he : newE s (k : Int) = 0) (ha : a0 = some ⟨bk, off, none⟩) (hi : obs.length = i) (hz : w.cell? ⟨bk, off + i, none⟩ = some (.int .u8 z)) (hk : k = z.toNat % 7) : CloN w a0 (s.newS (k : Int)) 0 (obs ++ [⟨newR s (k : Int), k, 0, fun _ => 0⟩]) := ⟨h.1.push fun _ => rfl, fun _ y hy => by
  rcases List.mem_append.1 hy with e | e
  · exact h.2.1 rfl y e
  · have e2 : y = ⟨newR s (k : Int), k, 0, fun _ => 0⟩ := by simpa using e
    rw [e2]; exact fun _ => rfl, fun q hq => by
  rw [newS_S he, Bool.or_eq_true] at hq
  rcases hq with e | e
  · obtain ⟨z, hz, e2⟩ := h.2.2.1 q e
    exact ⟨z, List.mem_append_left _ hz, e2⟩
  · exact ⟨_, List.mem_append_right _ (List.mem_singleton.2 rfl), (of_decide_eq_true e).symm⟩, h.2.2.2.1.push k, fun n x hx => by
  by_cases hn : n < obs.length
  · rw [List.getElem?_append_left hn] at hx
    exact h.2.2.2.2 n x hx
  · have hi2 : n = obs.length := by
      have := (List.getElem?_eq_some_iff.1 hx).1
      simp at this
      omega
    subst hi2
    simp at hx
    subst hx
    exact ⟨bk, off, z, ha, by rw [hi]; exact hz, hk⟩⟩
/-- A slice of bytes that came in. -/
def BytesW (w : World) (a : Option Addr) (zs : List Int) : Prop :=
  ∀ k, k < zs.length → ∃ b off, a = some ⟨b, off, none⟩ ∧ b < w.heap.size ∧ w.cell? ⟨b, off + k, none⟩ = some (.int .u8 (zs.getD k 0)) ∧ (Lit.int .u8 (zs.getD k 0)).wf = true
/-- A slice of edges that came in: each of its three numbers. -/
def EdgesW (w : World) (a : Option Addr) (n : Nat) (Q : Nat → Nat → Int) : Prop :=
  ∀ k, k < n → ∃ b off, a = some ⟨b, off, none⟩ ∧ b < w.heap.size ∧ ∀ j, j < 3 → w.cell? ⟨b, off + k * 3 + j, none⟩ = some (.int .u16 (Q k j)) ∧ (Lit.int .u16 (Q k j)).wf = true
theorem u8_natW {a : Int} (h : (Lit.int .u8 a).wf = true) : ∃ n : Nat, a = (n : Int) ∧ n < 256 := by
  have h2 : 0 ≤ a ∧ a ≤ 255 := by
    simp [Lit.wf, IntKind.min, IntKind.max, IntKind.signed, IntKind.bits] at h
    omega
  exact ⟨a.toNat, by omega, by omega⟩
theorem u16_natW {a : Int} (h : (Lit.int .u16 a).wf = true) : ∃ n : Nat, a = (n : Int) ∧ n < 65536 := by
  have h2 : 0 ≤ a ∧ a ≤ 65535 := by
    simp [Lit.wf, IntKind.min, IntKind.max, IntKind.signed, IntKind.bits] at h
    omega
  exact ⟨a.toNat, by omega, by omega⟩
theorem below_drewG (w : World) (n : Nat) : Below w.heap.size w (w.drewN n) := ⟨rfl, rfl, rfl, Nat.le_refl _, fun _ _ => rfl⟩
def nilF : Int → Value := fun _ => .slice none 0 0
def nilA : Int → List Int := fun _ => []
/-- The boxes of the graph that came in, and of the map. -/
structure GoBox (gb bx mb : Nat) (a0 : Option Addr) (nf cf : Nat) (e0 : Option Addr) (ne ce : Nat) (wr : World) : Prop where
  g : Blk wr gb #[.slice a0 nf cf, .slice e0 ne ce] 25
  m : Blk wr bx #[.map (some mb)] 29
theorem GoBox.turn {gb bx mb nf cf ne ce : Nat} {a0 e0 : Option Addr} {wr w' : World} {M : Nat → Prop} (h : GoBox gb bx mb a0 nf cf e0 ne ce wr) (hT : Turn M wr w') (h1 : ¬ M gb) (h2 : ¬ M bx) : GoBox gb bx mb a0 nf cf e0 ne ce w' :=
  ⟨h.g.turn hT h1, h.m.turn hT h2⟩
theorem GoBox.ask {gb bx mb nf cf ne ce : Nat} {a0 e0 : Option Addr} {wr w' : World} (h : GoBox gb bx mb a0 nf cf e0 ne ce wr) (hB : Below wr.heap.size wr w') : GoBox gb bx mb a0 nf cf e0 ne ce w' :=
  h.turn (Turn.ofBelow hB) (by have := h.g.lt; omega) (by have := h.m.lt; omega)
theorem GoBox.ar {gb bx mb nf cf ne ce B n : Nat} {a0 e0 : Option Addr} {X X' : ArB} {s : ArS} {obs : List Ob} {vl : Value} {f : Int → Value} {adj : Int → List Int} {wb wr w' : World} (h : GoBox gb bx mb a0 nf cf e0 ne ce wr) (hG : GoIn B mb n X s obs vl f adj wb wr) (hS : ArStep X wr X' w') : GoBox gb bx mb a0 nf cf e0 ne ce w' :=
  h.turn hS.turn (hG.ar.at_.far h.g (by decide) (by decide) (by decide) (by decide)) (hG.ar.at_.far h.m (by decide) (by decide) (by decide) (by decide))
theorem GoBox.row {gb bx mb nf cf ne ce : Nat} {a0 e0 : Option Addr} {v : Value} {l : List Int} {wr w' : World} (h : GoBox gb bx mb a0 nf cf e0 ne ce wr) (hR : RefRow wr v l) (hT : Turn (fun k => v.ownBlock = some k) wr w') : GoBox gb bx mb a0 nf cf e0 ne ce w' :=
  h.turn hT (fun e => by obtain ⟨_, hb⟩ := hR.own e; exact blkT hb h.g (by decide)) (fun e => by obtain ⟨_, hb⟩ := hR.own e; exact blkT hb h.m (by decide))

def GoA1 (B mb gb bx xa : Nat) (a0 : Option Addr) (nf cf : Nat) (e0 : Option Addr) (ne ce : Nat) (w : World) (v6 v25 : Value) (wr : World) : Prop :=
  ∃ (i : Nat) (X : ArB) (s : ArS) (obs : List Ob), i ≤ nf ∧ v25 = .int .i64 (i : Int) ∧ X.a = xa ∧ GoIn B mb 0 X s obs v6 nilF nilA w wr ∧ obs.length = i ∧ CloN w a0 s 0 obs ∧ s.P = 64 ∧ 64 ≤ freeTo s s.P + i ∧ GoBox gb bx mb a0 nf cf e0 ne ce wr
def GoA2 (B mb gb bx xa nf : Nat) (vl : Value) (a0 : Option Addr) (cf : Nat) (e0 : Option Addr) (ne ce : Nat) (w : World) (v53 : Value) (wr : World) : Prop :=
  ∃ (i : Nat) (X : ArB) (s : ArS) (obs : List Ob), i ≤ ne ∧ v53 = .int .i64 (i : Int) ∧ X.a = xa ∧ GoIn B mb 0 X s obs vl nilF nilA w wr ∧ obs.length = nf ∧ CloN w a0 s i obs ∧ s.P = 64 ∧ GoBox gb bx mb a0 nf cf e0 ne ce wr
/-- Between two objects: where those ahead point is told. -/
structure Go3 (B mb gb bx H0 nf : Nat) (X : ArB) (s : ArS) (obs : List Ob) (vl : Value) (a0 : Option Addr) (cf : Nat) (e0 : Option Addr) (ne ce : Nat) (w : World) (k hi n : Nat) (f : Int → Value) (adj : Int → List Int) (ds : List Deferred) (W : World) : Prop where
  go : GoIn B mb n X s obs vl f adj w W
  box : GoBox gb bx mb a0 nf cf e0 ne ce W
  few : n ≤ 6 * k
  marks : Marks H0 hi ds W
  size : hi ≤ W.heap.size
  low : H0 ≤ W.heap.size
  done : ∀ j x, j < k → obs[j]? = some x → adj (x.r : Int) = pts x
  rest : ∀ r : Int, (∀ j x, j < k → obs[j]? = some x → (x.r : Int) ≠ r) → adj r = []
/-- Between two fields of an object. -/
structure Go4 (B mb gb bx H0 nf x1 : Nat) (X : ArB) (s : ArS) (obs : List Ob) (vl : Value) (a0 : Option Addr) (cf : Nat) (e0 : Option Addr) (ne ce : Nat) (w : World) (hi n : Nat) (adj0 : Int → List Int) (ds : List Deferred) (r : Nat) (ys : List Int) (f : Int → Value) (adj : Int → List Int) (W : World) : Prop where
  go : GoIn B mb (n + ys.length) X s obs vl f adj w W
  box : GoBox gb bx mb a0 nf cf e0 ne ce W
  marks : Marks H0 hi ds W
  own : Blk W x1 #[.int .i64 (r : Int)] 41
  far : ∀ q, x1 ≤ q → q < x1 + 3 → ¬ GoHas X mb vl f q
  size : x1 + 3 ≤ W.heap.size
  here : adj (r : Int) = ys
  others : ∀ r' : Int, r' ≠ (r : Int) → adj r' = adj0 r'
theorem new_free : freeTo (ArS.new 64) (ArS.new 64).P = 64 := by decide +kernel
/-- What Made answers. -/
def MadePost (a0 : Option Addr) (nf ne : Nat) (w : World) (e : Ending) (w' : World) : Prop :=
  ∃ (X : ArB) (s : ArS) (obs : List Ob) (vl : Value) (mb n : Nat) (f : Int → Value) (adj : Int → List Int), e = .returned (.tuple #[.pointer (some ⟨X.a, 0, none⟩), vl, .map (some mb)]) ∧ GoIn w.heap.size mb n X s obs vl f adj w w' ∧
    obs.length = nf ∧ CloN w a0 s ne obs ∧ s.P = 64 ∧ n ≤ 6 * nf ∧ (∀ x ∈ obs, adj (x.r : Int) = pts x) ∧ ∀ r : Int, (∀ x ∈ obs, (x.r : Int) ≠ r) → adj r = []

set_option maxRecDepth 100000 in
set_option maxHeartbeats 16000000 in
theorem made_any (a0 : Option Addr) (zs : List Int) (cf : Nat) (e0 : Option Addr) (ne ce : Nat) (Q : Nat → Nat → Int) (w : World) (hf40 : zs.length ≤ 40) (he : ne ≤ 120) (hF : BytesW w a0 zs) (hE : EdgesW w e0 ne Q) (hT : TableAt w) :
    Calls Tryz.prog 8 #[.agg #[.slice a0 zs.length cf, .slice e0 ne ce]] w (MadePost a0 zs.length ne w) := by
  have hg := hT.lt
  have HF := Lib.hid hF
  have HE := Lib.hid hE
  clear hF hE
  obtain ⟨nf, hnf⟩ : ∃ nf, nf = zs.length := ⟨_, rfl⟩
  rw [← hnf] at hf40 ⊢
  have HNF := Lib.hid hnf
  clear hnf
  obtain ⟨M, hM6⟩ : ∃ M : Nat, 8 ≤ M := ⟨8, Nat.le_refl _⟩
  refine calls_of_wp_marks Tryz.func8 rfl M ?_
  simp only [Tryz.ntmps8, List.size_toArray, List.length_cons, List.length_nil, Nat.reduceAdd, Nat.reduceSub, Array.replicate_succ, Array.replicate_zero, List.push_toArray, List.append_toArray, List.nil_append, List.cons_append]
  gi_wp2_with fail
  refine ⟨trivial, fun h => (by cases h), ?_⟩
  have hG0 := Blk.new w #[.slice a0 nf cf, .slice e0 ne ce] 25
  have hBb := (Below.refl w.heap.size w).alloc (Nat.le_refl _) (.cells #[.slice a0 nf cf, .slice e0 ne ce] 25)
  have hs1 : (w.alloc (.cells #[.slice a0 nf cf, .slice e0 ne ce] 25)).heap.size = w.heap.size + 1 := by simp
  generalize w.alloc (.cells #[.slice a0 nf cf, .slice e0 ne ce] 25) = w1 at *
  refine (callsIn_wide.2 (new_in 64 64 (by decide) w.heap.size w w1 hBb (Nat.le_refl _) hT hg)).mono ?_
  rintro e w2 ⟨X0, rfl, hA, _, hB2⟩
  have hG2 : Blk w2 w.heap.size #[.slice a0 nf cf, .slice e0 ne ce] 25 := hG0.turn (Turn.ofBelow hB2) (by have := hG0.lt; omega)
  have hs2 : w.heap.size < w2.heap.size := by have := hB2.size; omega
  have hM0 := GrpAt.made w2
  have hA3 := (hA.alloc (.map #[] 0)).alloc (.cells #[.map (some w2.heap.size)] 29)
  have hM3 := hM0.below ((Below.refl _ _).alloc (Nat.le_refl _) (.cells #[.map (some w2.heap.size)] 29))
  have hX3 := Blk.new (w2.alloc (.map #[] 0)) #[.map (some w2.heap.size)] 29
  have hG3 := (hG2.alloc (.map #[] 0)).alloc (.cells #[.map (some w2.heap.size)] 29)
  have hs3 : (w2.alloc (.map #[] 0)).heap.size = w2.heap.size + 1 := by simp
  rw [hs3] at hX3
  have hbx : GoBox w.heap.size (w2.heap.size + 1) w2.heap.size a0 nf cf e0 ne ce ((w2.alloc (.map #[] 0)).alloc (.cells #[.map (some w2.heap.size)] 29)) := ⟨hG3, hX3⟩
  have h3 : GoIn w.heap.size w2.heap.size 0 X0 (ArS.new 64) [] (.slice none 0 0) nilF nilA w ((w2.alloc (.map #[] 0)).alloc (.cells #[.map (some w2.heap.size)] 29)) :=
    ⟨hA3, Objs.nil _, World.ownsRow_nil _ _ _ _, hM3, (fun k e => by
      rcases e with e | e | ⟨x, e⟩
      · cases e
      · omega
      · cases e), (fun k e => by cases e)⟩
  have c0 := hG3.cell 0
  have z0 := hX3.free 0
  simp only [List.getElem?_toArray, List.getElem?_cons_zero] at c0
  have hmm := @run_makeMap Tryz.prog
  clear hA hA3 hM0 hM3 hX3 hG3 hG0 hBb hB2
  gi_wp2_with fail
  clear hmm
  generalize (w2.alloc (.map #[] 0)).alloc (.cells #[.map (some w2.heap.size)] 29) = w3 at *
  generalize w2.heap.size = mb at *
  obtain ⟨gb, hgb⟩ : ∃ gb, gb = w.heap.size := ⟨_, rfl⟩
  gi_loopw [6, 25] (fun v6 v25 wr => GoA1 w.heap.size mb w.heap.size (mb + 1) X0.a a0 nf cf e0 ne ce w v6 v25 wr) (fun _ v25 _ => nf - (intOf v25).toNat)
  case atStart => exact ⟨0, X0, _, [], Nat.zero_le _, rfl, rfl, h3, rfl, CloN.nil 0 Full2.nil, rfl, by rw [new_free]; omega, hbx⟩
  case round =>
    clear h3 hbx hgb gb c0 z0
    obtain ⟨i, X, s, obs, hi, rfl, hXa, h1, hol, hcl, hsP, hfr, hbx⟩ := hrel
    have hi0 : (0 : Int) ≤ (i : Int) := by omega
    have HR := Lib.hid (And.intro hol (And.intro hcl (And.intro hsP hfr)))
    have HXA := Lib.hid hXa
    by_cases hlt : i < nf
    · have hi1 : (i : Int) < (nf : Int) := by omega
      obtain ⟨bk, off, rfl, hbk, hq0, hwf⟩ := HF.out i (by have := HNF.out; omega)
      have hc0 := (h1.ar.below.cell (p := ⟨bk, off + i, none⟩) hbk).trans hq0
      obtain ⟨z, hz, hz256⟩ := u8_natW hwf
      rw [hz] at hc0
      obtain ⟨k, hk⟩ : ∃ k, k = z % 7 := ⟨_, rfl⟩
      have hkt : (z : Int).tmod 7 = (k : Int) := by rw [Int.tmod_eq_emod_of_nonneg (by omega)]; omega
      have hk7 : k ≤ 6 := by omega
      have hku : IntKind.u8.wrap (k : Int) = (k : Int) := by simp [IntKind.wrap, IntKind.bits, IntKind.signed]; omega
      have hen : newE s (k : Int) = 0 := new_room (by omega) (by omega) (by omega)
      obtain ⟨r, hr⟩ : ∃ r, newR s (k : Int) = r := ⟨_, rfl⟩
      have cN := ceNewOk h1.ar (k : Int) r hr hen
      rw [hXa] at cN
      have ho := h1.ob.new h1.ar.at_.fits hen
      rw [hr] at ho
      have hpu := hcl.push hen rfl hol (hz ▸ hq0) (by rw [hk]; rfl)
      rw [hr] at hpu
      have HPU := Lib.hid hpu
      clear hpu
      have hr0 : 1 ≤ r := ((ho.at_ obs.length ⟨r, k, 0, fun _ => 0⟩ (by simp)).pos (h1.ar.at_.fits.newS _)).1
      have hrI : ¬ (r : Int) = 0 := by omega
      have hrb : ((r : Int) == 0) = false := by simp; omega
      have HC := Lib.hid (And.intro (And.intro hen ho) (And.intro h1 hbx))
      clear hq0 hwf hz hk hen hr ho h1 hbx hol hcl hsP hfr hXa
      gi_wp2_with fail
      refine ⟨trivial, fun h => (by cases h), ?_⟩
      refine (callsIn_wide.2 cN).mono ?_
      rintro e w5 ⟨rfl, lo', hA5, hS5⟩
      have h5 := HC.out.2.1.step hA5 hS5 (HC.out.2.1.ob.keep HC.out.2.1.ar.at_.fits _) rfl
      have hbx5 := HC.out.2.2.ar HC.out.2.1 hS5
      have h5a := h5.alloc (.cells #[.int .i64 (r : Int)] 41)
      have HB5 := Lib.hid (And.intro h5a (hbx5.ask ((Below.refl _ w5).alloc (Nat.le_refl _) (.cells #[.int .i64 (r : Int)] 41))))
      have hl5 : (refsI obs).length ≤ 100000 := by rw [refsI_length]; have := HR.out.1; omega
      clear cN hc0 hA5 hS5 h5 hbx5
      gi_wp2_with (gi_at_builtin; refine wpListIn_pushT rfl _ _ rfl h5a.row hl5 w5.heap.size 1 (r : Int) ((Blk.new w5 _ _).cell 0) rfl rfl ?_; intro g6 n6 c6 w6 hR6 hT6 hN6; have H6 := Lib.hid (And.intro hR6 (And.intro hT6 hN6)); clear hR6 hT6 hN6 h5a hl5)
      go_roundw
      case rel =>
        have h5a := HB5.out.1
        obtain ⟨hR6, hT6, hN6⟩ := H6.out
        have ho := HC.out.1.2
        have h6 := h5a.push (x := ⟨r, k, 0, fun _ => 0⟩) ho hR6 hT6 hN6
        obtain ⟨hol, hcl, hsP, hfr⟩ := HR.out
        exact ⟨i + 1, X.with lo', s.newS (k : Int), _, hlt, by go_num, HXA.out, h6, by simp; omega, HPU.out, by rw [newS_P]; exact hsP, by have := free_new (s := s) (k : Int); omega, HB5.out.2.row h5a.row hT6⟩
      case measure => simp [intOf]; omega
    · have hi1 : ¬ (i : Int) < (nf : Int) := by omega
      obtain rfl : i = nf := by omega
      have c1 := hbx.g.cell 1
      simp only [List.getElem?_toArray, List.getElem?_cons_zero, List.getElem?_cons_succ] at c1
      have hl6 := h1.row.lenRun 3 wr
      rw [refsI_length, hol] at hl6
      clear hlt hi hfr HR hi0
      gi_wp2_with fail
      generalize u6 = vl at *
      gi_loopw [53] (fun v53 wr => GoA2 w.heap.size mb w.heap.size (mb + 1) X0.a i vl a0 cf e0 ne ce w v53 wr) (fun v53 _ => ne - (intOf v53).toNat)
      case atStart => exact ⟨0, X, s, obs, Nat.zero_le _, rfl, hXa, h1, hol, hcl, hsP, hbx⟩
      case round =>
        clear h1 hbx c1 hl6 hXa hol hcl hsP
        obtain ⟨j, X, s, obs, hj, rfl, hXa, h1, hol, hcl, hsP, hbx⟩ := hrel
        have hj0 : (0 : Int) ≤ (j : Int) := by omega
        have HR := Lib.hid (And.intro hol (And.intro hcl hsP))
        have HXA := Lib.hid hXa
        by_cases hlt : j < ne
        · have hj1 : (j : Int) < (ne : Int) := by omega
          obtain ⟨bk, off, rfl, hbk, hcs⟩ := HE.out j hlt
          have hd0 := (h1.ar.below.cell (p := ⟨bk, off + j * 3, none⟩) hbk).trans (hcs 0 (by decide)).1
          have hd1 := (h1.ar.below.cell (p := ⟨bk, off + j * 3 + 1, none⟩) hbk).trans (hcs 1 (by decide)).1
          have hd2 := (h1.ar.below.cell (p := ⟨bk, off + j * 3 + 2, none⟩) hbk).trans (hcs 2 (by decide)).1
          obtain ⟨qa, hqa, hqa6⟩ := u16_natW (hcs 0 (by decide)).2
          obtain ⟨qb, hqb, hqb6⟩ := u16_natW (hcs 1 (by decide)).2
          obtain ⟨qc, hqc, hqc6⟩ := u16_natW (hcs 2 (by decide)).2
          rw [hqa] at hd0
          rw [hqb] at hd1
          rw [hqc] at hd2
          have h1a := h1.alloc (.cells #[.int .u16 (qa : Int), .int .u16 (qb : Int), .int .u16 (qc : Int)] 59)
          have hbxa := hbx.ask ((Below.refl _ wr).alloc (Nat.le_refl _) (.cells #[.int .u16 (qa : Int), .int .u16 (qb : Int), .int .u16 (qc : Int)] 59))
          have hE0 := Blk.new wr #[.int .u16 (qa : Int), .int .u16 (qb : Int), .int .u16 (qc : Int)] 59
          have hl6 := h1a.row.lenRun 3
          rw [refsI_length, hol] at hl6
          have hx0 := hE0.cell 0
          have hx1 := hE0.cell 1
          have hx2 := hE0.cell 2
          simp only [List.getElem?_toArray, List.getElem?_cons_zero, List.getElem?_cons_succ] at hx0 hx1 hx2
          have H1 := Lib.hid (And.intro h1a (And.intro hbxa hE0))
          clear hqa hqb hqc hcs h1 hbx hol hcl hsP hXa hbk
          by_cases hn0 : i = 0
          · subst hn0
            have hi00 : ¬ (0 : Int) < ((0 : Nat) : Int) := by omega
            clear h1a hbxa hE0 hx0 hx1 hx2
            gi_wp2_with fail
            generalize wr.alloc (.cells #[.int .u16 (qa : Int), .int .u16 (qb : Int), .int .u16 (qc : Int)] 59) = W0 at *
            gi_loopw [95] (fun v95 V => v95 = .int .i64 0 ∧ GoIn w.heap.size mb 0 X s obs vl nilF nilA w V ∧ GoBox w.heap.size (mb + 1) mb a0 0 cf (some ⟨bk, off, none⟩) ne ce V) (fun v95 _ => 0)
            case atStart => exact ⟨rfl, H1.out.1, H1.out.2.1⟩
            case round =>
              obtain ⟨rfl, hG, hX⟩ := hrel
              have hc7 := hX.m.cell 0
              simp only [List.getElem?_toArray, List.getElem?_cons_zero] at hc7
              have HG := Lib.hid hG
              clear H1 hG hX
              gi_wp2_with fail
              refine wpIn_wide.2 ?_
              go_quiet (fail)
              gi_wp2_with fail
              have hG := HG.out.ask (below_drewG _ nq)
              have hobs := List.length_eq_zero_iff.1 HR.out.1
              subst hobs
              refine ⟨.tuple #[.pointer (some ⟨X0.a, 0, none⟩), vl, .map (some mb)], by simp [results, Tryz.f8, go_sem], ?_⟩
              exact ⟨X, s, [], vl, mb, 0, nilF, nilA, by rw [HXA.out], hG, rfl, CloN.nil ne HR.out.2.1.2.2, HR.out.2.2, by omega, fun x hx => (by cases hx), fun r _ => rfl⟩
          · obtain ⟨ia, hia⟩ : ∃ ia, ia = qa % i := ⟨_, rfl⟩
            obtain ⟨ib, hib⟩ : ∃ ib, ib = qb % i := ⟨_, rfl⟩
            have hip : 0 < i := by omega
            have hta : (qa : Int).tmod (i : Int) = (ia : Int) := by rw [Int.tmod_eq_emod_of_nonneg (by omega), hia]; omega
            have htb : (qb : Int).tmod (i : Int) = (ib : Int) := by rw [Int.tmod_eq_emod_of_nonneg (by omega), hib]; omega
            have hla : ia < i := by rw [hia]; exact Nat.mod_lt _ hip
            have hlb : ib < i := by rw [hib]; exact Nat.mod_lt _ hip
            have hin : ¬ (i : Int) = 0 := by omega
            have hinb : ((i : Int) == 0) = false := by simp; omega
            have hlaI : (ia : Int) < (i : Int) := by omega
            have hlbI : (ib : Int) < (i : Int) := by omega
            have hla0 : (0 : Int) ≤ (ia : Int) := by omega
            have hlb0 : (0 : Int) ≤ (ib : Int) := by omega
            have hwa : IntKind.i64.wrap (qa : Int) = (qa : Int) := by simp [IntKind.wrap, IntKind.bits, IntKind.signed]; omega
            have hwb : IntKind.i64.wrap (qb : Int) = (qb : Int) := by simp [IntKind.wrap, IntKind.bits, IntKind.signed]; omega
            obtain ⟨x, hx⟩ : ∃ x, obs[ia]? = some x := ⟨_, List.getElem?_eq_getElem (by have := HR.out.1; omega)⟩
            obtain ⟨y, hy⟩ : ∃ y, obs[ib]? = some y := ⟨_, List.getElem?_eq_getElem (by have := HR.out.1; omega)⟩
            rcases h1a.row.is with ⟨_, e⟩ | ⟨g, cap, cur, hv, hg, hlc, hcm, hcs, hcell⟩
            · have := congrArg List.length e; rw [refsI_length, HR.out.1] at this; simp at this; omega
            · rw [refsI_length, HR.out.1] at hv
              have hca := hcell ia (by rw [refsI_length, HR.out.1]; exact hla)
              have hcb := hcell ib (by rw [refsI_length, HR.out.1]; exact hlb)
              rw [(List.getElem?_eq_some_iff.1 (refsI_at hx)).2] at hca
              rw [(List.getElem?_eq_some_iff.1 (refsI_at hy)).2] at hcb
              subst hv
              have cF := ceFieldsOk h1a.ar.drew (h1a.ob.at_ ia x hx)
              have HY := Lib.hid (And.intro hx hy)
              have hXa := HXA.out
              rw [hXa] at cF
              have hx0d : (wr.alloc (.cells #[.int .u16 (qa : Int), .int .u16 (qb : Int), .int .u16 (qc : Int)] 59)).drew.cell? ⟨wr.heap.size, 2, none⟩ = some (.int .u16 (qc : Int)) := hx2
              clear hn0 hia hib hx hy hg hlc hcm hcs hcell h1a hbxa hE0 hl6 hXa
              gi_wp2_with fail
              refine wpIn_wide.2 ?_
              go_quiet (fail)
              have h2 := H1.out.1.ask (below_drewG _ nq)
              have hbx2 := H1.out.2.1.ask (below_drewG _ nq)
              have hE2 : Blk ((wr.alloc (.cells #[.int .u16 (qa : Int), .int .u16 (qb : Int), .int .u16 (qc : Int)] 59)).drewN nq) wr.heap.size #[.int .u16 (qa : Int), .int .u16 (qb : Int), .int .u16 (qc : Int)] 59 := H1.out.2.2.drewN nq
              generalize (wr.alloc (.cells #[.int .u16 (qa : Int), .int .u16 (qb : Int), .int .u16 (qc : Int)] 59)).drewN nq = V1 at *
              have cF := ceFieldsOk h2.ar (h2.ob.at_ ia x HY.out.1)
              rw [HXA.out] at cF
              have H2 := Lib.hid (And.intro h2 (And.intro hbx2 hE2))
              clear h2 hbx2 hE2 H1 hx0 hx1 hx2 hd0 hd1 hd2 hca hcb hta htb hwa hwb hla0 hlb0 hlaI hlbI hin hinb
              gi_wp2_with fail
              refine ⟨trivial, fun h => (by cases h), ?_⟩
              refine (callsIn_wide.2 cF).mono ?_
              rintro e V2 ⟨rfl, hB2⟩
              have h3 := H2.out.1.ask hB2
              have hbx3 := H2.out.2.1.ask hB2
              have hE3 := H2.out.2.2.turn (Turn.ofBelow hB2) (by have := H2.out.2.2.lt; omega)
              have hx2 := hE3.cell 2
              simp only [List.getElem?_toArray, List.getElem?_cons_zero, List.getElem?_cons_succ] at hx2
              clear cF hB2
              by_cases hk0 : 0 < x.k
              · obtain ⟨jf, hjf⟩ : ∃ jf, jf = qc % x.k := ⟨_, rfl⟩
                have htc : (qc : Int).tmod (x.k : Int) = (jf : Int) := by rw [Int.tmod_eq_emod_of_nonneg (by omega), hjf]; omega
                have hljf : jf < x.k := by rw [hjf]; exact Nat.mod_lt _ hk0
                have hk0I : 0 < (x.k : Int) := by omega
                have hkn : ¬ (x.k : Int) = 0 := by omega
                have hwc : IntKind.i64.wrap (qc : Int) = (qc : Int) := by simp [IntKind.wrap, IntKind.bits, IntKind.signed]; omega
                have cS := ceSetFieldOk h3.ar (h3.ob.at_ ia x HY.out.1) jf hljf (y.r : Int)
                rw [HXA.out] at cS
                have H3 := Lib.hid (And.intro h3 (And.intro hbx3 hljf))
                clear hjf hljf h3 hbx3 hE3 H2
                gi_wp2_with fail
                refine ⟨trivial, fun h => (by cases h), ?_⟩
                refine (callsIn_wide.2 cS).mono ?_
                rintro e V3 ⟨rfl, lo', hA5, hS5⟩
                have h5 := H3.out.1.step hA5 hS5 (H3.out.1.ob.setF H3.out.1.ar.at_.fits HY.out.1 H3.out.2.2 (y.r : Int)) (refsI_set HY.out.1 rfl)
                have hbx5 := H3.out.2.1.ar H3.out.1 hS5
                have H5 := Lib.hid (And.intro h5 hbx5)
                clear cS hx2 hA5 hS5 h5 hbx5 htc hkn hwc hk0I hk0
                gi_wp2_with fail
                go_roundw
                case rel =>
                  obtain ⟨hol, hcl, hsP⟩ := HR.out
                  exact ⟨j + 1, X.with lo', _, _, hlt, by go_num, HXA.out, H5.out.1, by simp; exact hol, ⟨hcl.1.set HY.out.1 (List.mem_of_getElem? HY.out.2) rfl, fun h => absurd h (Nat.succ_ne_zero j), hcl.2.2.set HY.out.1⟩, by rw [setW_P]; exact hsP, H5.out.2⟩
                case measure => simp [intOf]; omega
              · have hk0I : ¬ 0 < (x.k : Int) := by omega
                have H3 := Lib.hid (And.intro h3 hbx3)
                clear h3 hbx3 hE3 H2 hx2 hk0
                gi_wp2_with fail
                go_roundw
                case rel =>
                  obtain ⟨hol, hcl, hsP⟩ := HR.out
                  exact ⟨j + 1, X, s, obs, hlt, by go_num, HXA.out, H3.out.1, hol, ⟨hcl.1, fun h => absurd h (Nat.succ_ne_zero j), hcl.2.2⟩, hsP, H3.out.2⟩
                case measure => simp [intOf]; omega
        · have hj1 : ¬ (j : Int) < (ne : Int) := by omega
          have hl6 := h1.row.lenRun 3
          rw [refsI_length, hol] at hl6
          have hwm : mb + 1 < wr.heap.size := hbx.m.lt
          have h3 : Go3 w.heap.size mb w.heap.size (mb + 1) wr.heap.size i X s obs vl a0 cf e0 ne ce w 0 0 0 nilF nilA [] wr :=
            ⟨h1, hbx, Nat.le_refl _, trivial, Nat.zero_le _, Nat.le_refl _, fun j x hj => absurd hj (Nat.not_lt_zero j), fun r _ => rfl⟩
          have hr64 : ∀ (j : Nat) (x : Ob), obs[j]? = some x → 1 ≤ x.r ∧ x.r ≤ 2048 := fun j x hx => ⟨((h1.ob.at_ j x hx).pos h1.ar.at_.fits).1, ((h1.ob.at_ j x hx).pos h1.ar.at_.fits).2.2⟩
          have HR64 := Lib.hid hr64
          have HXL := Lib.hid h1.ar.at_.lt
          have htabB := h1.ar.tabB
          have hrow := h1.row
          generalize hH0 : wr.heap.size = H0 at h3 hwm
          have HH0 := Lib.hid hH0
          have HJN := Lib.hid (show j = ne by omega)
          clear hlt hj hj0 hr64 h1 hbx hol hcl hsP hXa hH0
          gi_wp2_with fail
          clear hl6
          have hXa := HXA.out
          clear HXA
          generalize X0.a = xa at *
          subst hXa
          refine wpIn_loop_grow (fun T u => spl (spl T u 18 2) u 95 17) (fun u ds W => ∃ (k hi n : Nat) (f : Int → Value) (adj : Int → List Int), k ≤ i ∧ u 95 = .int .i64 (k : Int) ∧ Go3 w.heap.size mb w.heap.size (mb + 1) H0 i X s obs vl a0 cf e0 ne ce w k hi n f adj ds W) (fun u => i - (intOf (u 95)).toNat) rfl ⟨0, 0, 0, _, _, Nat.zero_le _, rfl, h3⟩ ?_
          rintro u ds W ⟨k, hi, n, f, adj, hk, hu, h3⟩
          simp only [spl, List.take_succ_cons, List.take_zero, List.drop_succ_cons, List.drop_zero, List.cons_append, List.nil_append, List.range'_succ, List.range'_zero, List.map_cons, List.map_nil, Nat.reduceAdd, hu]
          have hk0 : (0 : Int) ≤ (k : Int) := by omega
          have H3 := Lib.hid h3
          by_cases hki : k < i
          · have hkiI : (k : Int) < (i : Int) := by omega
            obtain ⟨x, hx⟩ : ∃ x, obs[k]? = some x := ⟨_, List.getElem?_eq_getElem (by have := HR.out.1; omega)⟩
            rcases h3.go.row.is with ⟨_, e⟩ | ⟨g, cap, cur, hv, hg, hlc, hcm, hcs, hcell⟩
            · have := congrArg List.length e; rw [refsI_length, HR.out.1] at this; simp at this; omega
            rw [refsI_length, HR.out.1] at hv
            have hca := hcell k (by rw [refsI_length, HR.out.1]; exact hki)
            rw [(List.getElem?_eq_some_iff.1 (refsI_at hx)).2] at hca
            subst hv
            have hO := h3.go.ob.at_ k x hx
            have hk6 := hO.k6 h3.go.ar.at_.fits
            have hrd : Reads s (x.r : Int) x.k x.F := hO.reads h3.go.ar.at_.fits
            have g6 := ((h3.go.alloc (.cells #[.int .i64 (x.r : Int)] 41)).alloc (.cells #[.pointer (some ⟨X.a, 0, none⟩)] 27)).alloc (.cells #[.int .i64 (x.r : Int)] 41)
            have b6 : Below W.heap.size W (((W.alloc (.cells #[.int .i64 (x.r : Int)] 41)).alloc (.cells #[.pointer (some ⟨X.a, 0, none⟩)] 27)).alloc (.cells #[.int .i64 (x.r : Int)] 41)) :=
              (((Below.refl _ W).alloc (Nat.le_refl _) _).alloc (by simp) _).alloc (by simp; omega) _
            have x6 := h3.box.ask b6
            have m6 : Marks H0 hi ds (((W.alloc (.cells #[.int .i64 (x.r : Int)] 41)).alloc (.cells #[.pointer (some ⟨X.a, 0, none⟩)] 27)).alloc (.cells #[.int .i64 (x.r : Int)] 41)) := h3.marks.keep fun q _ q2 q3 => (b6.block q (by have := h3.size; omega)).trans q3
            have o6 := ((Blk.new W #[.int .i64 (x.r : Int)] 41).alloc (.cells #[.pointer (some ⟨X.a, 0, none⟩)] 27)).alloc (.cells #[.int .i64 (x.r : Int)] 41)
            have f6 : ∀ q, W.heap.size ≤ q → q < W.heap.size + 3 → ¬ GoHas X mb (.slice (some ⟨g, 0, none⟩) i cap) f q := fun q q1 _ e => by have := h3.go.lt _ e; omega
            have n6 : adj (x.r : Int) = [] := h3.rest _ fun j y hj hy e => h3.go.ob.apart j k y x (by omega) hy hx (by omega)
            have b0 : (((W.alloc (.cells #[.int .i64 (x.r : Int)] 41)).alloc (.cells #[.pointer (some ⟨X.a, 0, none⟩)] 27)).alloc (.cells #[.int .i64 (x.r : Int)] 41)).cell? ⟨W.heap.size + 1, 0, none⟩ = some (.pointer (some ⟨X.a, 0, none⟩)) := by
              have := ((Blk.new (W.alloc (.cells #[.int .i64 (x.r : Int)] 41)) #[.pointer (some ⟨X.a, 0, none⟩)] 27).alloc (.cells #[.int .i64 (x.r : Int)] 41)).cell 0
              simpa using this
            have b1 : (((W.alloc (.cells #[.int .i64 (x.r : Int)] 41)).alloc (.cells #[.pointer (some ⟨X.a, 0, none⟩)] 27)).alloc (.cells #[.int .i64 (x.r : Int)] 41)).cell? ⟨W.heap.size + 1 + 1, 0, none⟩ = some (.int .i64 (x.r : Int)) := by
              have := (Blk.new ((W.alloc (.cells #[.int .i64 (x.r : Int)] 41)).alloc (.cells #[.pointer (some ⟨X.a, 0, none⟩)] 27)) #[.int .i64 (x.r : Int)] 41).cell 0
              simpa using this
            have s6 : (((W.alloc (.cells #[.int .i64 (x.r : Int)] 41)).alloc (.cells #[.pointer (some ⟨X.a, 0, none⟩)] 27)).alloc (.cells #[.int .i64 (x.r : Int)] 41)).heap.size = W.heap.size + 3 := by simp
            have h4 : Go4 w.heap.size mb w.heap.size (mb + 1) H0 i W.heap.size X s obs (.slice (some ⟨g, 0, none⟩) i cap) a0 cf e0 ne ce w hi n adj ds x.r [] f adj (((W.alloc (.cells #[.int .i64 (x.r : Int)] 41)).alloc (.cells #[.pointer (some ⟨X.a, 0, none⟩)] 27)).alloc (.cells #[.int .i64 (x.r : Int)] 41)) :=
              ⟨g6, x6, m6, o6, f6, Nat.le_of_eq s6.symm, n6, fun _ _ => rfl⟩
            have hbxW := h3.box.m.cell 0
            simp only [List.getElem?_toArray, List.getElem?_cons_zero] at hbxW
            have o0 := (Blk.new W #[.int .i64 (x.r : Int)] 41).cell 0
            simp only [List.getElem?_toArray, List.getElem?_cons_zero] at o0
            have HX := Lib.hid (And.intro hx hO)
            have HA6 := Lib.hid (And.intro g6.ar.at_ g6.ar.tabAt)
            have hlowW := h3.low
            have hi6 := h3.size
            have hn6 := h3.few
            have HFW := Lib.hid (And.intro h3.done h3.rest)
            have hsB := h3.go.ar.size
            have cPt := ptsfn_any X.a (x.r : Int) (W.alloc (.cells #[.int .i64 (x.r : Int)] 41))
            clear h3 hx hg hlc hcm hcs hcell hO g6 b6 x6 m6 o6 f6 n6 hbxW
            gi_wp2_with fail
            refine ⟨trivial, fun h => (by cases h), ?_⟩
            refine (callsIn_wide.2 cPt).mono ?_
            rintro e w' ⟨rfl, rfl⟩
            clear cPt o0 hca
            gi_wp2_with fail
            generalize (((W.alloc (.cells #[.int .i64 (x.r : Int)] 41)).alloc (.cells #[.pointer (some ⟨X.a, 0, none⟩)] 27)).alloc (.cells #[.int .i64 (x.r : Int)] 41)) = W6 at *
            generalize W.heap.size = x1 at *
            refine wpIn_rangeFunc_ownG rfl (by omega) (gf := 51) (lb := #[.pointer (some ⟨x1 + 1, 0, none⟩), .pointer (some ⟨x1 + 1 + 1, 0, none⟩)]) rfl trivial (enters_of Tryz.func51 (by kernel_rfl) rfl)
              (pts_stops (X := X) (M - 1) (x1 + 1) x.k (x.r : Int) x.F hrd W6 HA6.out.1 HA6.out.2 b0 b1) KpPt.trans (fun W l o o' hl _ _ _ => KpPt.putObj (n0 := W6.heap.size) (fun k hk => HA6.out.1.lt k hk) (by omega) (by omega) W l o' hl) (Below.refl _ _) (fun _ => rfl)
              (fun pre V => ∃ f adj', Go4 w.heap.size mb w.heap.size (mb + 1) H0 i x1 X s obs (.slice (some ⟨g, 0, none⟩) i cap) a0 cf e0 ne ce w hi n adj ds x.r (pre.map fun z : Fin 6 => x.F z.val) f adj' V) (fun _ _ _ => False)
              ?own (fun _ _ _ _ _ hs _ _ => hs) ⟨f, adj, by simpa using h4⟩ ?a1 ?assign ?body ?done ?stop
            case own =>
              rintro pre V V' row ⟨f', adj', h⟩ hg hr
              refine ⟨f', adj', ⟨h.go.grown (m := W6.heap.size) (by omega) (by omega) hg hr, ⟨h.box.g.kept hg (fun r e => (hr r e).2), h.box.m.kept hg (fun r e => (hr r e).2)⟩, h.marks.keep (fun q q1 q2 q3 => (hg.block q (Array.getElem?_eq_some_iff.1 q3).1 (fun e => by have := (hr q e.symm).1; omega)).trans q3), h.own.kept hg (fun r e => (hr r e).2), h.far, Nat.le_trans h.size hg.size, h.here, h.others⟩⟩
            case assign =>
              intro l0 z W K hK
              unfold ptArgs
              gi_wp2
              exact hK
            case body =>
              rintro l0 pre z V ⟨f', adj', h⟩ hpl
              have hc7 := h.box.m.cell 0
              have hc18 := h.own.cell 0
              simp only [List.getElem?_toArray, List.getElem?_cons_zero] at hc7 hc18
              have hwf : (Lit.int .i64 (x.r : Int)).wf = true := by
                have := (HR64.out k x HX.out.1).2
                simp [Lit.wf, IntKind.min, IntKind.max, IntKind.signed, IntKind.bits]; omega
              have hlk := h.go.drew.grp.map.look (x.r : Int) hwf
              have hlk2 := (h.go.alloc (.cells #[.int .i64 (x.F z.val)] 41)).drew.grp.map.look (x.r : Int) hwf
              have hpn : pre.length ≤ 6 := by omega
              have gA := (h.go.alloc (.cells #[.int .i64 (x.F z.val)] 41)).drew
              have hTA : Turn (fun q => (f' (x.r : Int)).ownBlock = some q ∨ q = mb) V (V.alloc (.cells #[.int .i64 (x.F z.val)] 41)).drew := ((Turn.refl _ V).alloc _).drew
              obtain ⟨v6, w6, hrun6, hR6, hT6, hN6⟩ := (gA.grp.row (x.r : Int)).append1 (by rw [h.here, List.length_map]; omega) V.heap.size 1 (x.F z.val) ((Blk.new V #[.int .i64 (x.F z.val)] 41).drew.cell 0) 28
              obtain ⟨w7, hrun7, g7, hT7⟩ := gA.told (by have := h.go; simp; omega) hwf hR6 hT6 hN6
              have hTV : Turn (fun q => (f' (x.r : Int)).ownBlock = some q ∨ q = mb) V w7 := hTA.trans hT7 (fun _ _ e => e)
              have hGM : ∀ q, ((f' (x.r : Int)).ownBlock = some q ∨ q = mb) → GrpHas mb f' q := fun q e => by
                rcases e with e | e
                · exact .inr ⟨_, e⟩
                · exact .inl e
              have hnx : ∀ q, x1 ≤ q → q < x1 + 3 → ¬ ((f' (x.r : Int)).ownBlock = some q ∨ q = mb) := fun q q1 q2 e => h.far q q1 q2 (.inr (.inr (hGM q e)))
              have hnb : ¬ ((f' (x.r : Int)).ownBlock = some (mb + 1) ∨ mb + 1 = mb) := fun e => h.go.grp.far h.box.m (by decide) (hGM _ e)
              have hnb6 : ¬ (f' (x.r : Int)).ownBlock = some (mb + 1) := fun e => hnb (.inl e)
              have hnx6 : ¬ (f' (x.r : Int)).ownBlock = some x1 := fun e => hnx x1 (by omega) (by omega) (.inl e)
              have hcA7 : (V.alloc (.cells #[.int .i64 (x.F z.val)] 41)).drew.cell? ⟨mb + 1, 0, none⟩ = some (.map (some mb)) := cell_allocKeep hc7 _
              have hcA18 : (V.alloc (.cells #[.int .i64 (x.F z.val)] 41)).drew.cell? ⟨x1, 0, none⟩ = some (.int .i64 (x.r : Int)) := cell_allocKeep hc18 _
              have hc67 : w6.cell? ⟨mb + 1, 0, none⟩ = some (.map (some mb)) := (hT6.cell (a := ⟨mb + 1, 0, none⟩) (World.block_lt_of_cell? _ _ hcA7) hnb6).trans hcA7
              have hc618 : w6.cell? ⟨x1, 0, none⟩ = some (.int .i64 (x.r : Int)) := (hT6.cell (a := ⟨x1, 0, none⟩) (World.block_lt_of_cell? _ _ hcA18) hnx6).trans hcA18
              have hc77 : w7.cell? ⟨mb + 1, 0, none⟩ = some (.map (some mb)) := (hTV.cell (a := ⟨mb + 1, 0, none⟩) (World.block_lt_of_cell? _ _ hc7) hnb).trans hc7
              have hc718 : w7.cell? ⟨x1, 0, none⟩ = some (.int .i64 (x.r : Int)) := (hTV.cell (a := ⟨x1, 0, none⟩) (World.block_lt_of_cell? _ _ hc18) (hnx x1 (by omega) (by omega))).trans hc18
              have hfin : KeepsFrom W6.heap.size V w7 ∧ KpPt X (x1 + 1) V w7 ∧ ∃ f adj', Go4 w.heap.size mb w.heap.size (mb + 1) H0 i x1 X s obs (.slice (some ⟨g, 0, none⟩) i cap) a0 cf e0 ne ce w hi n adj ds x.r ((pre ++ [z]).map fun z : Fin 6 => x.F z.val) f adj' w7 := by
                refine ⟨KeepsFrom.ofTurn hTV (fun q o e hq ho => ?_), ⟨⟨fun q hq => hTV.block q (h.go.ar.at_.lt q hq) (fun e => h.go.grpFar (hGM q e) hq), hTV.block _ (by have := h.size; omega) (hnx _ (by omega) (by omega)), hTV.block _ (by have := h.size; omega) (hnx _ (by omega) (by omega))⟩, hTV.block _ (by have := h.go.ar.size; omega) (fun e => by have := h.go.new _ (.inr (hGM _ e)); omega)⟩, updI f' (x.r : Int) v6, updI adj' (x.r : Int) (adj' (x.r : Int) ++ [x.F z.val]), ⟨?_, h.box.turn hTV (fun e => h.go.grp.far h.box.g (by decide) (hGM _ e)) hnb, h.marks.keep (fun q _ _ hd => (hTV.block q (Array.getElem?_eq_some_iff.1 hd).1 (fun e => h.go.notDef (.inr (.inr (hGM q e))) ⟨_, hd⟩)).trans hd), h.own.turn hTV (hnx x1 (by omega) (by omega)), fun q q1 q2 e => ?_, Nat.le_trans h.size hTV.size, ?_, fun r' hr' => ?_⟩⟩
                · rcases h.go.cells (.inr (.inr (hGM q e))) ho with e2 | e2
                  · omega
                  · exact e2
                · have e9 : n + ((pre ++ [z]).map fun z : Fin 6 => x.F z.val).length = n + (pre.map fun z : Fin 6 => x.F z.val).length + 1 := by simp; omega
                  rw [e9]; exact g7
                · rcases goHas_upd e with e2 | e2
                  · exact h.far q q1 q2 e2
                  · rcases hN6 q e2 with e3 | e3
                    · exact hnx q q1 q2 (.inl e3)
                    · have := h.size; simp at e3; omega
                · rw [updI_at, h.here]; simp
                · rw [updI_ne hr']; exact h.others r' hr'
              have HFIN := Lib.hid hfin
              clear h hfin gA hTA hR6 hT6 hN6 g7 hT7 hTV hGM hnx hnb hnb6 hnx6 hpn
              gi_wp2_with fail
              refine wpIn_region_heldC (S := fun w' => w'.cell? ⟨mb + 1, 0, none⟩ = some (.map (some mb)) ∧ w'.cell? ⟨x1, 0, none⟩ = some (.int .i64 (x.r : Int))) (by kernel_rfl) (by kernel_rfl) (by rintro ⟨a, w, h⟩; exact h) ⟨hc7, hc18⟩ (fun hHeld => ?_)
              refine wpAnyH_take (i := 0) (v := ?v0) rfl (by kernel_rfl) (by kernel_rfl) (by kernel_rfl) (fun _ _ _ h => h) (Or.inl ⟨by rfl, ?hy0⟩) (by assumption) ?rest0
              case hy0 => (intro w hSw; obtain ⟨hS1, hS2⟩ := hSw; go_simp; try with_reducible rfl)
              try simp only [Act.put, List.getElem_toArray, List.getElem_cons_succ, List.getElem_cons_zero, List.setIfInBounds_toArray, List.set_cons_zero, List.set_cons_succ]
              refine wpAnyH_take (i := 1) (v := ?v1) rfl (by kernel_rfl) (by kernel_rfl) (by kernel_rfl) (fun _ _ _ h => h) (Or.inl ⟨by rfl, ?hy1⟩) (by assumption) ?rest1
              case hy1 => (intro w hSw; obtain ⟨hS1, hS2⟩ := hSw; go_simp; try with_reducible rfl)
              try simp only [Act.put, List.getElem_toArray, List.getElem_cons_succ, List.getElem_cons_zero, List.setIfInBounds_toArray, List.set_cons_zero, List.set_cons_succ]
              refine wpAnyH_take (i := 2) (v := ?v2) rfl (by kernel_rfl) (by kernel_rfl) (by kernel_rfl) (fun _ _ _ h => h) (Or.inl ⟨by rfl, ?hy2⟩) (by assumption) ?rest2
              case hy2 => (intro w hSw; obtain ⟨hS1, hS2⟩ := hSw; go_simp; try with_reducible rfl)
              try simp only [Act.put, List.getElem_toArray, List.getElem_cons_succ, List.getElem_cons_zero, List.setIfInBounds_toArray, List.set_cons_zero, List.set_cons_succ]
              refine wpAnyH_take (i := 3) (v := ?v3) rfl (by kernel_rfl) (by kernel_rfl) (by kernel_rfl) (fun _ _ _ h => h) (Or.inl ⟨by rfl, ?hy3⟩) (by assumption) ?rest3
              case hy3 => (intro w hSw; obtain ⟨hS1, hS2⟩ := hSw; go_simp; try with_reducible rfl)
              try simp only [Act.put, List.getElem_toArray, List.getElem_cons_succ, List.getElem_cons_zero, List.setIfInBounds_toArray, List.set_cons_zero, List.set_cons_succ]
              refine wpAnyH_take (i := 5) (v := ?v5) rfl (by kernel_rfl) (by kernel_rfl) (by kernel_rfl) (fun _ _ _ h => h) (Or.inl ⟨by rfl, ?hy5⟩) (by assumption) ?rest5
              case hy5 => (intro w hSw; obtain ⟨hS1, hS2⟩ := hSw; go_simp; try with_reducible rfl)
              try simp only [Act.put, List.getElem_toArray, List.getElem_cons_succ, List.getElem_cons_zero, List.setIfInBounds_toArray, List.set_cons_zero, List.set_cons_succ]
              refine wpAnyH_ready (rs := [4, 6]) (by kernel_rfl) (by simp) ?_
              refine AllReadyH.cons rfl (fun K hK => ?_) (AllReadyH.cons rfl (fun K hK => ?_) AllReadyH.nil)
              · go_simp
                refine hK.out _ _ ⟨hc7, hc18⟩ (fun hHeld => ?_)
                try simp only [Act.put, List.getElem_toArray, List.getElem_cons_succ, List.getElem_cons_zero, List.setIfInBounds_toArray, List.set_cons_zero, List.set_cons_succ]
                refine wpAnyH_ready (rs := [6]) (by kernel_rfl) (by simp) ?_
                refine AllReadyH.cons rfl (fun K hK => ?_) AllReadyH.nil
                go_simp
                refine hK.out _ _ ⟨hcA7, hcA18⟩ (fun hHeld => ?_)
                try simp only [Act.put, List.getElem_toArray, List.getElem_cons_succ, List.getElem_cons_zero, List.setIfInBounds_toArray, List.set_cons_zero, List.set_cons_succ]
                refine wpAnyH_ready (rs := [7]) (by kernel_rfl) (by simp) ?_
                refine AllReadyH.cons rfl (fun K hK => ?_) AllReadyH.nil
                refine step_append_runG rfl _ _ _ _ rfl _ _ rfl rfl hrun6 ?_
                refine hK.out _ _ ⟨hc67, hc618⟩ (fun hHeld => ?_)
                try simp only [Act.put, List.getElem_toArray, List.getElem_cons_succ, List.getElem_cons_zero, List.setIfInBounds_toArray, List.set_cons_zero, List.set_cons_succ]
                refine wpAnyH_ready (rs := [8]) (by kernel_rfl) (by simp) ?_
                refine AllReadyH.cons rfl (fun K hK => ?_) AllReadyH.nil
                refine step_mapUpdate_runG rfl _ _ _ _ rfl _ _ _ rfl rfl rfl hrun7 ?_
                refine hK.out _ _ ⟨hc77, hc718⟩ (fun hHeld => ?_)
                try simp only [Act.put, List.getElem_toArray, List.getElem_cons_succ, List.getElem_cons_zero, List.setIfInBounds_toArray, List.set_cons_zero, List.set_cons_succ]
                refine wpAnyH_done (by kernel_rfl) ?_ _
                exact HFIN.out
              · go_simp
                refine hK.out _ _ ⟨hcA7, hcA18⟩ (fun hHeld => ?_)
                try simp only [Act.put, List.getElem_toArray, List.getElem_cons_succ, List.getElem_cons_zero, List.setIfInBounds_toArray, List.set_cons_zero, List.set_cons_succ]
                refine wpAnyH_ready (rs := [4]) (by kernel_rfl) (by simp) ?_
                refine AllReadyH.cons rfl (fun K hK => ?_) AllReadyH.nil
                go_simp
                refine hK.out _ _ ⟨hcA7, hcA18⟩ (fun hHeld => ?_)
                try simp only [Act.put, List.getElem_toArray, List.getElem_cons_succ, List.getElem_cons_zero, List.setIfInBounds_toArray, List.set_cons_zero, List.set_cons_succ]
                refine wpAnyH_ready (rs := [7]) (by kernel_rfl) (by simp) ?_
                refine AllReadyH.cons rfl (fun K hK => ?_) AllReadyH.nil
                refine step_append_runG rfl _ _ _ _ rfl _ _ rfl rfl hrun6 ?_
                refine hK.out _ _ ⟨hc67, hc618⟩ (fun hHeld => ?_)
                try simp only [Act.put, List.getElem_toArray, List.getElem_cons_succ, List.getElem_cons_zero, List.setIfInBounds_toArray, List.set_cons_zero, List.set_cons_succ]
                refine wpAnyH_ready (rs := [8]) (by kernel_rfl) (by simp) ?_
                refine AllReadyH.cons rfl (fun K hK => ?_) AllReadyH.nil
                refine step_mapUpdate_runG rfl _ _ _ _ rfl _ _ _ rfl rfl rfl hrun7 ?_
                refine hK.out _ _ ⟨hc77, hc718⟩ (fun hHeld => ?_)
                try simp only [Act.put, List.getElem_toArray, List.getElem_cons_succ, List.getElem_cons_zero, List.setIfInBounds_toArray, List.set_cons_zero, List.set_cons_succ]
                refine wpAnyH_done (by kernel_rfl) ?_ _
                exact HFIN.out
            case done =>
              rintro D xs V hD hxs ⟨f', adj', h⟩ hDf
              have hlen : xs.length ≤ 6 := by
                have e1 := congrArg List.length hxs
                rw [List.length_map] at e1
                have e2 := elems_length (nz x.F) x.k
                omega
              have hDV := (Array.getElem?_eq_some_iff.mp hDf).1
              have hmk := (h.marks.mono (show hi ≤ D by omega)).push (by omega) (Nat.lt_succ_self D) hDf
              have hpts : (xs.map fun z : Fin 6 => x.F z.val) = pts x := by
                unfold pts
                rw [← hxs, List.map_map]; rfl
              have h5 : Go3 w.heap.size mb w.heap.size (mb + 1) H0 i X s obs (.slice (some ⟨g, 0, none⟩) i cap) a0 cf e0 ne ce w (k + 1) (D + 1) (n + (xs.map fun z : Fin 6 => x.F z.val).length) f' adj' ({ target := .collected D, args := #[] } :: ds) V := by
                refine ⟨h.go, h.box, by rw [List.length_map]; omega, hmk, hDV, by omega, fun j y hj hy => ?_, fun r hr => ?_⟩
                · by_cases e : j = k
                  · subst e
                    rw [HX.out.1] at hy
                    cases hy
                    rw [h.here, hpts]
                  · have hne : (y.r : Int) ≠ (x.r : Int) := fun e2 => h.go.ob.apart j k y x e hy HX.out.1 (by omega)
                    rw [h.others _ hne]
                    exact HFW.out.1 j y (by omega) hy
                · have hne : r ≠ (x.r : Int) := fun e2 => hr k x (by omega) HX.out.1 e2.symm
                  rw [h.others _ hne]
                  exact HFW.out.2 r fun j y hj hy => hr j y (by omega) hy
              have H5 := Lib.hid h5
              clear h h5 hmk hpts hxs hDf hlen
              gi_wp2_with fail
              refine ⟨_, rfl, rfl, ⟨k + 1, D + 1, _, f', adj', hki, ?_, H5.out⟩, ?_⟩
              · show Value.int .i64 ((k : Int) + 1) = _
                congr 1
              · show i - (intOf (Value.int .i64 ((k : Int) + 1))).toNat < i - (intOf (Value.int .i64 (k : Int))).toNat
                simp [intOf]; omega
            case stop =>
              rintro D c pre V hD _ hs hDf
              exact hs.elim
          · obtain rfl : k = i := by omega
            have hki1 : ¬ (k : Int) < (k : Int) := by omega
            have hc7 := h3.box.m.cell 0
            simp only [List.getElem?_toArray, List.getElem?_cons_zero] at hc7
            clear h3
            gi_wp2_with fail
            refine wpIn_wide.2 ?_
            go_quiet (fail)
            gi_wp2_with fail
            have h3 := H3.out
            have hBH : w.heap.size ≤ H0 := by omega
            have hmk : Marks H0 hi ds (W.drewN nq) := h3.marks.keep fun q _ _ q3 => q3
            refine leavesP_marksG hmk fun w' hT => ?_
            have g5 := (h3.go.ask (below_drewG W nq)).turned hT (fun q hq e => (h3.go.ask (below_drewG W nq)).notDef hq e.2) (fun q hq e => by have := e.1; omega)
            refine ⟨.tuple #[.pointer (some ⟨X.a, 0, none⟩), vl, .map (some mb)], by simp [results, Tryz.f8, go_sem], X, s, obs, vl, mb, n, f, adj, rfl, g5, HR.out.1, HJN.out ▸ HR.out.2.1, HR.out.2.2, h3.few, fun y hy => ?_, fun r hr => h3.rest r fun j y _ hy => hr y (List.mem_of_getElem? hy)⟩
            obtain ⟨j, hj⟩ := List.mem_iff_getElem?.1 hy
            exact h3.done j y (by have := (List.getElem?_eq_some_iff.1 hj).1; have := HR.out.1; omega) hj
end Go.Proofs.YtidpmplkbgllfaaGreatDoor
