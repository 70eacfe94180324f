/- What the laws on markers share; at this seat's numbers. -/
import Derived.Test.YtkjpeacnponcfaaGreatDoorGmB
import Derived.Deep.RegionHeld3
namespace Go.Proofs.YtkjpeacnponcfaaGreatDoor
open Go Go.RowKit Go.Shelf Go.MuLone Go.RwLone
set_option linter.unusedSimpArgs false
set_option linter.unusedVariables false
attribute [local go_sem] Oper.semAt_some

theorem BytesW.under {w w' : World} {a : Option Addr} {zs : List Int} {n0 : Nat} (h : BytesW w a zs) (hB : Below n0 w w') (hn : w.heap.size ≤ n0) : BytesW w' a zs := fun k hk => by
  obtain ⟨b, off, e, hb, hc, hw⟩ := h k hk
  exact ⟨b, off, e, by have := hB.size; omega, (hB.cell (p := ⟨b, off + k, none⟩) (by show b < n0; omega)).trans hc, hw⟩
theorem EdgesW.under {w w' : World} {a : Option Addr} {n n0 : Nat} {Q : Nat → Nat → Int} (h : EdgesW w a n Q) (hB : Below n0 w w') (hn : w.heap.size ≤ n0) : EdgesW w' a n Q := fun k hk => by
  obtain ⟨b, off, e, hb, hc⟩ := h k hk
  exact ⟨b, off, e, by have := hB.size; omega, fun j hj => ⟨(hB.cell (p := ⟨b, off + k * 3 + j, none⟩) (by show b < n0; omega)).trans (hc j hj).1, (hc j hj).2⟩⟩
theorem RefRow.keepG {w w' : World} {v : Value} {l : List Int} (h : RefRow w v l) (hk : ∀ k, v.ownBlock = some k → w'.heap[k]? = w.heap[k]?) : RefRow w' v l := by
  refine ⟨h.1, ?_⟩
  rcases h.2 with h1 | ⟨g, cap, cur, rfl, hb, hg, rest⟩
  · exact .inl h1
  · exact .inr ⟨g, cap, cur, rfl, hb, (hk g rfl).trans hg, rest⟩
theorem RefRow.ask {w w' : World} {v : Value} {l : List Int} (h : RefRow w v l) (hB : Below w.heap.size w w') : RefRow w' v l := h.turn (Turn.ofBelow hB) (fun k e e2 => Nat.lt_irrefl _ (Nat.lt_of_lt_of_le (h.lt e) e2))
theorem MapIn.ask {w w' : World} {B n c : Nat} {f : Int → Int} {K : Int → Bool} (h : MapIn w B n f K c) (hB : Below w.heap.size w w') : MapIn w' B n f K c := h.keep (hB.block _ h.lt)
theorem Scans.dryNil {P : Int → List Int} {c c' : Col} {l : List Int} (h : Scans P c l c') (hd : c.dry) : l = [] ∧ c' = c := by
  cases h with
  | nil => exact ⟨rfl, rfl⟩
  | cons h1 h2 _ => have := hd _ h1; rw [h2] at this; cases this
theorem wf_ref {x : Int} (h1 : 1 ≤ x) (h2 : x ≤ 2048) : (Lit.int .i64 x).wf = true := by simp [Lit.wf, IntKind.min, IntKind.max, IntKind.signed, IntKind.bits]; omega
theorem take_nextR {zs : List Int} {i : Nat} {x : Int} (h : zs[i]? = some x) : zs.take (i + 1) = zs.take i ++ [x] := by
  rw [List.take_add_one, h]; rfl

theorem rr_hold {B mb n rb : Nat} {X : ArB} {s : ArS} {obs : List Ob} {vl : Value} {f : Int → Value} {E : Nat → Prop} {vis : List Int} {T : MkB} {c : Col} {wb W W' : World} (h1 : GmIn B mb n X s obs vl f (ptsAt obs) E T c wb W)
    (h2 : MapIn W rb vis.length (visF vis) (visK vis) vis.length) (hB : Below W.heap.size W W') (x v : Int) (hx : (Lit.int .i64 x).wf = true) (hv : visF vis x = v) :
    GmIn B mb n X s obs vl f (ptsAt obs) E T c wb W' ∧ MapIn W' rb vis.length (visF vis) (visK vis) vis.length ∧ (Instr.lookup 37 (.map (some rb)) (.int .i64 x) false).run Tryz.prog W' = .ok (.int .i64 v) W' := by
  have h3 := h2.ask hB
  exact ⟨h1.ask hB, h3, hv ▸ h3.look x hx⟩
/-- What Made left, as the laws want it. -/
structure MadeOk (nf ne : Nat) (B mb n : Nat) (X : ArB) (s : ArS) (obs : List Ob) (vl : Value) (f : Int → Value) (w w' : World) : Prop where
  go : GoIn B mb n X s obs vl f (ptsAt obs) w w'
  len : obs.length = nf
  cl : Closed obs
  P : s.P = 64
  n6 : n ≤ 6 * nf
  bd : ∀ x ∈ refsI obs, 1 ≤ x ∧ x ≤ 2048
  nd : (refsI obs).Nodup
  few : ∀ x ∈ refsI obs, (ptsAt obs x).length ≤ 6
  pin : ∀ x ∈ refsI obs, ∀ y ∈ ptsAt obs x, y = 0 ∨ y ∈ refsI obs
  tab : TabAt w
  zero : ne = 0 → ∀ x ∈ obs, ∀ j, x.F j = 0
  full : Full s obs
theorem MadePost.ok {nf ne : Nat} {w w' : World} {e : Ending} (h : MadePost nf ne w e w') (hT : TabAt w) : ∃ (X : ArB) (s : ArS) (obs : List Ob) (vl : Value) (mb n : Nat) (f : Int → Value), e = .returned (.tuple #[.pointer (some ⟨X.a, 0, none⟩), vl, .map (some mb)]) ∧ MadeOk nf ne w.heap.size mb n X s obs vl f w w' := by
  obtain ⟨X, s, obs, vl, mb, n, f, adj, rfl, hGo, hol, hcl, hsP, hn6, hadj, hnil⟩ := h
  obtain rfl := adj_ptsAt hGo.ob hadj hnil
  refine ⟨X, s, obs, vl, mb, n, f, rfl, hGo, hol, hcl.1, hsP, hn6, refs_bound hGo.ob hGo.ar.at_.fits, refs_nodup hGo.ob, fun x hx => ?_, fun x hx y hy => ?_, hT, hcl.2.1, hcl.2.2⟩
  · obtain ⟨y, hy, rfl⟩ := List.mem_map.1 hx
    rw [ptsAt_mem hGo.ob hy]; exact pts_few hGo.ob hGo.ar.at_.fits hy
  · obtain ⟨z, hz, rfl⟩ := List.mem_map.1 hx
    rw [ptsAt_mem hGo.ob hz] at hy; exact .inr (pts_in hcl.1 hz y hy)
theorem Tri.le {obs : List Ob} {P : Int → List Int} {fr ord : List Int} {c : Col} (h : Tri P fr c ord) (hi : ∀ x, c.ma x = true → x ∈ refsI obs) : ord.length ≤ obs.length := by
  rw [← refsI_length]
  exact nodup_sub h.nod fun x hx => hi x (h.sub x ((h.ord x).2 hx))
end Go.Proofs.YtkjpeacnponcfaaGreatDoor
