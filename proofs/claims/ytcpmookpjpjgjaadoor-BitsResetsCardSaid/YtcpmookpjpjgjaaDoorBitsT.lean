/- BitsResets, walked, at this seat's numbers. -/
import Derived.Test.YtcpmookpjpjgjaaDoorBitsU
import Derived.Deep.RegionHeld3
namespace Go.Proofs.YtcpmookpjpjgjaaDoor
open Go.RowKit Go.Shelf Go.MuLone Go.RwLone
attribute [local go_sem] Oper.semAt_some

theorem TwoIn.drew {B a b m tb : Nat} {la lb : Option Nat} {cs : Array Value} {T : TypeId} {wb wr : World} {S1 S2 : Nat → Bool} (h : TwoIn B a la b lb m tb cs T wb wr S1 S2) : TwoIn B a la b lb m tb cs T wb wr.drew S1 S2 :=
  ⟨h.one, h.two, h.own1, h.own2, h.sep, h.below.drew, h.base, h.box, h.ne1, h.nl1, h.ne2, h.nl2⟩

theorem drop_pre (S : Nat → Bool) (pre : List Nat) (x : Nat) : dropS (fun j => S j && !decide (j ∈ pre)) (x : Int) = fun j => S j && !decide (j ∈ pre ++ [x]) := by
  funext j
  by_cases e : j = x
  · subst e; simp [dropS]
  · have e2 : ¬ (j : Int) = (x : Int) := by omega
    simp [dropS, e, e2]

/-- What holds of the two sets between the loops' rounds. -/
def Loop1 (B a b m tb : Nat) (cs : Array Value) (T : TypeId) (wb : World) (len : Nat) (c : Value) (wr : World) : Prop :=
  ∃ (k : Nat) (la lb : Option Nat) (S : Nat → Bool), k ≤ len ∧ c = .int .i64 (k : Int) ∧ TwoIn B a la b lb m tb cs T wb wr S (fun _ => false)
def Loop2 (B a b m tb : Nat) (cs : Array Value) (T : TypeId) (wb : World) (len : Nat) (c : Value) (wr : World) : Prop :=
  ∃ (k : Nat) (la lb : Option Nat) (S : Nat → Bool), k ≤ len ∧ c = .int .i64 (k : Int) ∧ TwoIn B a la b lb m tb cs T wb wr S S

set_option maxRecDepth 100000 in
set_option maxHeartbeats 2000000 in
theorem resets_true (n : Int) (a1 : Option Addr) (zs1 : List Int) (cap1 : Nat) (a2 : Option Addr) (zs2 : List Int) (cap2 : Nat) (w : World) (hl1 : zs1.length ≤ 9223372036854775807) (hl2 : zs2.length ≤ 9223372036854775807) (hz1 : IntsAt w a1 zs1) (hz2 : IntsAt w a2 zs2) (hT : TabAt w) :
    Calls Tryd.prog 6 #[.int .i64 n, .slice a1 zs1.length cap1, .slice a2 zs2.length cap2] w fun e w' => e = .returned (.bool true) ∧ Below w.heap.size w w' := by
  have H1 : Hid (IntsAt w a1 zs1) := hz1
  have H2 : Hid (IntsAt w a2 zs2) := hz2
  clear hz1 hz2
  obtain ⟨N, h1⟩ : ∃ N : Nat, 6 ≤ N := ⟨6, Nat.le_refl _⟩
  refine calls_of_wp_marks Tryd.func6 rfl N ?_
  simp only [Tryd.ntmps6, List.size_toArray, List.length_cons, List.length_nil, Nat.reduceAdd, Nat.reduceSub, Array.replicate_succ, Array.replicate_zero, List.push_toArray, List.append_toArray, List.nil_append, List.cons_append]
  gi_wp2_with fail
  refine ⟨trivial, fun h => (by cases h), ?_⟩
  have hR := Blk.new w #[.bool false] 4
  have hsb : (w.alloc (.cells #[.bool false] 4)).heap.size = w.heap.size + 1 := by simp
  have hBb := (Below.refl w.heap.size w).alloc (Nat.le_refl _) (.cells #[.bool false] 4)
  have hTb : TabAt (w.alloc (.cells #[.bool false] 4)) := fun j hj => cell_allocKeep (hT j hj) _
  clear hT
  generalize w.alloc (.cells #[.bool false] 4) = wb at *
  refine (callsIn_wide.2 (fit_true _)).mono ?_
  rintro e w1 ⟨rfl, hB⟩
  have hR1 : w1.cell? ⟨w.heap.size, 0, none⟩ = some (.bool false) := (hB.cell (p := ⟨w.heap.size, 0, none⟩) hR.lt).trans (hR.cell 0)
  have hZ1 : w1.frozen? ⟨w.heap.size, 0, none⟩ = false := (hB.frozen (p := ⟨w.heap.size, 0, none⟩) hR.lt).trans (hR.free 0)
  by_cases hbig : 100 < wrap64 ((zs1.length : Int) + (zs2.length : Int))
  · gi_wp2_with fail
    refine ⟨.bool true, ?_, rfl, (hBb.trans (hB.mono (by omega))).setCell (p := ⟨w.heap.size, 0, none⟩) (Nat.le_refl _) (.bool true)⟩
    have hc := World.cell?_setCell_same w1 ⟨w.heap.size, 0, none⟩ (.bool true) hR1
    simp [results, Tryd.f6, go_sem, hc]
  clear hR1 hZ1
  gi_wp2_with fail
  refine ⟨trivial, fun h => (by cases h), ?_⟩
  refine (callsIn_wide.2 (size_any n _)).mono ?_
  rintro e w' ⟨m, hm, rfl, rfl⟩
  gi_wp2_with fail
  refine ⟨trivial, fun h => (by cases h), ?_⟩
  refine (callsIn_wide.2 (new_at _ (by omega) _ m (by omega))).mono ?_
  rintro e w2 ⟨a, ha, rfl, hA, hTn⟩
  have hs := hB.size
  have ho : OwnSet wb.heap.size a none := ⟨by omega, fun l e => (by cases e)⟩
  replace hB := hB.trans (hTn.below wb.heap.size (by omega) (fun _ _ h => h))
  clear hTn
  replace hs := hB.size
  gi_wp2_with fail
  refine ⟨trivial, fun h => (by cases h), ?_⟩
  refine (callsIn_wide.2 (new_at _ (by omega) _ m (by omega))).mono ?_
  rintro e w3 ⟨b, hb, rfl, hA2, hTn⟩
  have ho2 : OwnSet wb.heap.size b none := ⟨by omega, fun l e => (by cases e)⟩
  have hsep : Sep a none b none := ⟨by have := hA.lt.1; omega, fun l e => (by cases e), fun l e => (by cases e), fun l e => (by cases e)⟩
  replace hA := hA.turn hTn (fun h => h) (fun _ _ h => h)
  replace hB := hB.trans (hTn.below wb.heap.size (by omega) (fun _ _ h => h))
  clear hTn hs ha hb
  have hN1 : 0 ≤ (zs1.length : Int) := by omega
  have hN2 : 0 ≤ (zs2.length : Int) := by omega
  gi_wp2_with fail
  have hlt1 := hA.lt.1
  have hlt2 := hA2.lt.1
  have hTw : TwoIn wb.heap.size a none b none m w3.heap.size #[.pointer (some ⟨b, 0, none⟩)] 26 wb (w3.alloc (.cells #[.pointer (some ⟨b, 0, none⟩)] 26)) (fun _ => false) (fun _ => false) :=
    ⟨hA.turn ((Turn.refl (fun _ => False) w3).alloc _) (fun h => h) (fun _ _ h => h), hA2.turn ((Turn.refl (fun _ => False) w3).alloc _) (fun h => h) (fun _ _ h => h), ho, ho2, hsep, hB.alloc hB.size _, Nat.le_refl _, Blk.new w3 _ _, by omega, fun h => (by cases h), by omega, fun h => (by cases h)⟩
  clear hA hA2 ho ho2 hsep hB
  generalize w3.alloc (.cells #[.pointer (some ⟨b, 0, none⟩)] 26) = w4 at *
  generalize w3.heap.size = tb at *
  clear hlt1 hlt2
  gi_loopw [30] (fun c wr => Loop1 wb.heap.size a b m tb #[.pointer (some ⟨b, 0, none⟩)] 26 wb zs1.length c wr) (fun c _ => zs1.length - (intOf c).toNat)
  case atStart => exact ⟨0, none, none, fun _ => false, Nat.zero_le _, rfl, hTw⟩
  case round =>
    clear hTw
    obtain ⟨k, la, lb, S, hk, rfl, hTw⟩ := hrel
    by_cases hlt : k < zs1.length
    · obtain ⟨bk, off, rfl, hbk, hc⟩ := H1.out k hlt
      replace hc := ((hBb.trans (hTw.below.mono (by omega))).cell (p := ⟨bk, off + k, none⟩) hbk).trans hc
      have k0 : 0 ≤ (k : Int) := by omega
      have k1 : (k : Int) < (zs1.length : Int) := by omega
      generalize zs1.getD k 0 = x at hc
      gi_wp2_with fail
      refine ⟨trivial, fun h => (by cases h), ?_⟩
      refine (callsIn_wide.2 (hTw.putA x)).mono ?_
      rintro e w' ⟨rfl, la', hTw'⟩
      clear hTw hc
      gi_wp2_with fail
      go_roundw
      case rel => exact ⟨k + 1, la', lb, _, by omega, by go_num, hTw'⟩
      case measure => simp [intOf]; omega
    · obtain rfl : k = zs1.length := by omega
      gi_wp2_with fail
      refine ⟨trivial, fun h => (by cases h), ?_⟩
      refine (callsIn_wide.2 hTw.reset).mono ?_
      rintro e w' ⟨rfl, hTw'⟩
      clear hTw
      gi_wp2_with fail
      refine ⟨trivial, fun h => (by cases h), ?_⟩
      refine (callsIn_wide.2 hTw'.countA).mono ?_
      rintro e w'' ⟨rfl, hTw⟩
      rw [card_none _ (fun _ => rfl)]
      clear hTw'
      gi_wp2_with fail
      refine ⟨trivial, fun h => (by cases h), ?_⟩
      refine (callsIn_wide.2 (len_any a la m _ _ hTw.one)).mono ?_
      rintro e w5 ⟨rfl, rfl⟩
      gi_wp2_with fail
      generalize w'' = w6 at *
      clear hm
      gi_loopw [51] (fun c wr => Loop2 wb.heap.size a b m tb #[.pointer (some ⟨b, 0, none⟩)] 26 wb zs2.length c wr) (fun c _ => zs2.length - (intOf c).toNat)
      case atStart => exact ⟨0, la, lb, fun _ => false, Nat.zero_le _, rfl, hTw⟩
      case round =>
        clear hTw
        obtain ⟨k, la, lb, S, hk, rfl, hTw⟩ := hrel
        by_cases hlt : k < zs2.length
        · obtain ⟨bk, off, rfl, hbk, hc⟩ := H2.out k hlt
          replace hc := ((hBb.trans (hTw.below.mono (by omega))).cell (p := ⟨bk, off + k, none⟩) hbk).trans hc
          have k0 : 0 ≤ (k : Int) := by omega
          have k1 : (k : Int) < (zs2.length : Int) := by omega
          generalize zs2.getD k 0 = x at hc
          have cA := hTw.drew.putA x
          have cB : ∀ (la2 : Option Nat) (w2 : World), TwoIn wb.heap.size a la2 b lb m tb #[.pointer (some ⟨b, 0, none⟩)] 26 wb w2 (putS m S x) S → _ := fun la2 w2 h => h.putB x
          have hX : wr.cell? ⟨tb, 0, none⟩ = some (.pointer (some ⟨b, 0, none⟩)) := hTw.box.cell 0
          generalize (may m x && !S x.toNat) = r at cA cB
          generalize putS m S x = S' at cA cB
          gi_wp2_with fail
          refine wpIn_wide.2 ?_
          go_region_held3 (fun w' => w'.cell? ⟨tb, 0, none⟩ = some (.pointer (some ⟨b, 0, none⟩))) (first | exact hX | exact hk2 | exact hk3 | exact hk4 | exact hk5)
            (first
              | (go_at_call 12; refine (cB _ _ h2).mono ?_; rintro e w3 ⟨rfl, lb3, h3⟩; have hk3 : w3.cell? ⟨tb, 0, none⟩ = some (.pointer (some ⟨b, 0, none⟩)) := h3.box.cell 0)
              | (go_at_call 12; refine cA.mono ?_; rintro e w2 ⟨rfl, la2, h2⟩; have hk2 : w2.cell? ⟨tb, 0, none⟩ = some (.pointer (some ⟨b, 0, none⟩)) := h2.box.cell 0)
              | (go_at_call 13; refine h4.countB.mono ?_; rintro e w5 ⟨rfl, h5⟩; have hk5 : w5.cell? ⟨tb, 0, none⟩ = some (.pointer (some ⟨b, 0, none⟩)) := h5.box.cell 0)
              | (go_at_call 13; refine h3.countA.mono ?_; rintro e w4 ⟨rfl, h4⟩; have hk4 : w4.cell? ⟨tb, 0, none⟩ = some (.pointer (some ⟨b, 0, none⟩)) := h4.box.cell 0))
          clear h2 h3 h4 hk2 hk3 hk4 hk5 cA cB hX hTw hc
          gi_wp2_with fail
          go_roundw
          case rel => exact ⟨k + 1, la2, lb3, _, by omega, by go_num, h5⟩
          case measure => simp [intOf]; omega
        · obtain rfl : k = zs2.length := by omega
          gi_wp2_with fail
          refine ⟨trivial, fun h => (by cases h), ?_⟩
          refine (callsIn_wide.2 (all_any a _)).mono ?_
          rintro e w' ⟨rfl, rfl⟩
          have hlb : lb ≠ some wr.heap.size := fun e => by have := hTw.two.lt.2 _ e; omega
          have hbX : ¬ wr.heap.size = b := by have := hTw.two.lt.1; omega
          have hTx := hTw.kept (World.grownBy_alloc wr (.cells #[.pointer (some ⟨a, 0, none⟩)] 26) none) (fun r e => (by cases e))
          have hx : (wr.alloc (.cells #[.pointer (some ⟨a, 0, none⟩)] 26)).cell? ⟨wr.heap.size, 0, none⟩ = some (.pointer (some ⟨a, 0, none⟩)) := (Blk.new wr _ _).cell 0
          have hs6 : (wr.alloc (.cells #[.pointer (some ⟨a, 0, none⟩)] 26)).heap.size = wr.heap.size + 1 := by simp
          have hT6 : TabAt (wr.alloc (.cells #[.pointer (some ⟨a, 0, none⟩)] 26)) := fun j hj => (hTx.below.cell (p := ⟨0, j, none⟩) hTb.lt).trans (hTb j hj)
          generalize wr.alloc (.cells #[.pointer (some ⟨a, 0, none⟩)] 26) = W6 at *
          clear hTw
          have hlt6 := hTx.one.lt
          have hbs := hTx.below.size
          have hgb := hTb.lt
          gi_wp2_with fail
          refine wpIn_rangeFunc_ownF rfl (by omega) (gf := 32) (lb := #[.pointer (some ⟨wr.heap.size, 0, none⟩)]) rfl trivial (enters_of Tryd.func32 (by kernel_rfl) rfl)
            (all_stops (N - 1) a la wr.heap.size m S W6 hTx.one hT6 hx) KpSet.trans (fun W l o o' hl _ _ _ => KpSet.putObj (n0 := W6.heap.size) hlt6.1 hlt6.2 (by omega) hT6.lt W l o' hl) (Below.refl _ _) (fun _ => rfl)
            (fun pre W => ∃ lb', TwoIn wb.heap.size a la b lb' m tb #[.pointer (some ⟨b, 0, none⟩)] 26 wb W S (fun j => S j && !decide (j ∈ pre)) ∧ lb' ≠ some wr.heap.size ∧ wr.heap.size < W.heap.size)
            (fun _ (pre : List Nat) _ => ∃ (q : List Nat) (x : Nat), pre = q ++ [x] ∧ (may m (x : Int) && (S x && !decide (x ∈ q))) = false)
            (fun pre W W' row hs hg hr => by
              obtain ⟨lb', h, h2, h3⟩ := hs
              exact ⟨lb', h.kept hg (fun r e => ⟨Nat.le_trans hbs (hr r e).1, (hr r e).2⟩), h2, Nat.lt_of_lt_of_le h3 hg.size⟩)
            (fun _ _ _ _ _ hs _ _ => hs)
            ⟨lb, by simpa using hTx, hlb, by omega⟩ ?a1 ?assign ?body ?done ?stop
          case assign =>
            intro l0 x W K hK
            gi_wp2
            exact hK
          case body =>
            rintro l0 pre x W ⟨lb', hI, hne, hXl⟩ hlen
            have hX2 : W.cell? ⟨tb, 0, none⟩ = some (.pointer (some ⟨b, 0, none⟩)) := hI.box.cell 0
            gi_wp2_with fail
            refine ⟨trivial, fun h => (by cases h), ?_⟩
            have hd := hI.dropB (x : Int) wr.heap.size hXl hbX hne (Nat.lt_of_lt_of_le hgb (Nat.le_refl _))
            have hv : (may m (x : Int) && (fun j => S j && !decide (j ∈ pre)) (x : Int).toNat) = (may m (x : Int) && (S x && !decide (x ∈ pre))) := by simp
            rw [hv, drop_pre] at hd
            clear hv
            have HR : Hid ((may m (x : Int) && (S x && !decide (x ∈ pre))) = (may m (x : Int) && (S x && !decide (x ∈ pre)))) := rfl
            refine (CallsIn.inRound l0 (callsIn_wide.2 hd)).mono ?_
            rintro e w' ⟨rfl, ⟨lb2, hI2, hne2⟩, hKO, hKp⟩
            clear hd
            have hRw : w'.cell? ⟨w.heap.size, 0, none⟩ = some (.bool false) := (hI2.below.cell (p := ⟨w.heap.size, 0, none⟩) hR.lt).trans (hR.cell 0)
            have hZw : w'.frozen? ⟨w.heap.size, 0, none⟩ = false := (hI2.below.frozen (p := ⟨w.heap.size, 0, none⟩) hR.lt).trans (hR.free 0)
            have HF : Hid (KeepsOthers W w' ∧ KpSet a la wr.heap.size W w' ∧ ∃ lb', TwoIn wb.heap.size a la b lb' m tb #[.pointer (some ⟨b, 0, none⟩)] 26 wb w' S (fun j => S j && !decide (j ∈ pre ++ [x])) ∧ lb' ≠ some wr.heap.size ∧ wr.heap.size < w'.heap.size) :=
              ⟨hKO, hKp, lb2, hI2, hne2, Nat.lt_of_lt_of_le hXl hKO.size⟩
            clear hI2 hKp hX2 hI hne2
            cases hr : (may m (x : Int) && (S x && !decide (x ∈ pre))) with
            | false =>
              have HR2 : Hid ((may m (x : Int) && (S x && !decide (x ∈ pre))) = false) := hr
              clear hr HR
              gi_wp2
              exact ⟨hKO.trans (KeepsOthers.setCell _ _ _), pre, x, rfl, HR2.out⟩
            | true =>
              clear hr HR
              gi_wp2
              exact HF.out
          case done =>
            rintro D xs W hD rfl ⟨lb', hI, _, _⟩ hK
            have hE : (fun j => S j && !decide (j ∈ elems S m)) = fun _ => false := by
              funext j
              by_cases hj : S j = true
              · have := hI.one.2.1 j hj
                simp [elems, hj, this]
              · simp [hj]
            rw [hE] at hI
            have hX2 : W.cell? ⟨tb, 0, none⟩ = some (.pointer (some ⟨b, 0, none⟩)) := hI.box.cell 0
            gi_wp2_with fail
            refine ⟨trivial, fun h => (by cases h), ?_⟩
            refine (callsIn_wide.2 (count_at b lb' m _ 0 _ hI.two (by rw [card_none _ (fun _ => rfl)]; rfl))).mono ?_
            intro e w8 hP
            have hSB := same_below hI.two hP.2.1 hP.2.2
            obtain ⟨rfl, hI8⟩ := hI.symm.askA hP
            have hB8 := hI8.below
            have hDl : D < W.heap.size := (Array.getElem?_eq_some_iff.mp hK).1
            have hK8 : w8.heap[D]? = some (.deferred (some [])) := (hSB.block D hDl).trans hK
            have hR8 : w8.cell? ⟨w.heap.size, 0, none⟩ = some (.bool false) := (hB8.cell (p := ⟨w.heap.size, 0, none⟩) hR.lt).trans (hR.cell 0)
            have hZ8 : w8.frozen? ⟨w.heap.size, 0, none⟩ = false := (hB8.frozen (p := ⟨w.heap.size, 0, none⟩) hR.lt).trans (hR.free 0)
            clear hSB hI8 hI hP hX2
            gi_wp2_with fail
            have hK9 := (KeepsOthers.setCell w8 ⟨w.heap.size, 0, none⟩ (.bool true)).same D _ hK8 rfl
            have hR9 : (w8.setCell ⟨w.heap.size, 0, none⟩ (.bool true)).cell? ⟨w.heap.size, 0, none⟩ = some (.bool true) := World.cell?_setCell_same _ _ _ hR8
            have hBb9 := (hBb.trans (hB8.mono (by omega))).setCell (p := ⟨w.heap.size, 0, none⟩) (Nat.le_refl _) (.bool true)
            generalize w8.setCell ⟨w.heap.size, 0, none⟩ (.bool true) = V at *
            have hDD : w.heap.size < D := by omega
            refine ⟨by simp, .inl ⟨D, _, rfl, run_takeDeferred hK9, ?_⟩⟩
            have hRF : (V.putObj D (.deferred none)).cell? ⟨w.heap.size, 0, none⟩ = some (.bool true) := by
              exact (World.cell?_of_block (w := V) (World.putObj_heap_other (by simp; omega))).trans hR9
            have hBF : Below w.heap.size w (V.putObj D (.deferred none)) :=
              ⟨hBb9.os, hBb9.tape, hBb9.output, by have := hBb9.size; simp; omega, fun k hk => by rw [World.putObj_heap_other (by omega), hBb9.block k hk]⟩
            generalize V.putObj D (.deferred none) = V2 at *
            refine ⟨.bool true, ?_, rfl, hBF⟩
            simp [results, Tryd.f6, go_sem, hRF]
          case stop =>
            rintro D c pre W hD ⟨i, j, hj, hpre⟩ ⟨q, x, e1, e2⟩ hK
            exfalso
            rw [hpre, elems_next hj] at e1
            obtain ⟨rfl, e3⟩ := List.append_inj' e1 rfl
            obtain rfl : j = x := by simpa using e3
            have hjm := hTx.one.2.1 j hj.2.1
            have h1' := hj.1
            have h2' := hj.2.1
            have hnot : ¬ j ∈ elems S i := fun h => by simp [elems] at h; omega
            have hmay : may m (j : Int) = true := by simp [may]; omega
            simp [hmay, h2', hnot] at e2
end Go.Proofs.YtcpmookpjpjgjaaDoor
