/- A marker scans an object; at this seat's numbers. -/
import Derived.Test.YtihjijfeogapdaaGreatDoorGmQ
import Derived.Test.YtihjijfeogapdaaGreatDoorMrF
namespace Go.Proofs.YtihjijfeogapdaaGreatDoor
open Go Go.RowKit Go.Shelf Go.MuLone Go.RwLone
set_option linter.unusedSimpArgs false
set_option linter.unusedVariables false
attribute [local go_sem] Oper.semAt_some

/-- Some more are shaded. -/
def Col.shades (c : Col) (l : List Int) : Col := ⟨fun y => c.ma y || decide (y ∈ l), c.sc⟩
theorem Col.shades_nil (c : Col) : c.shades [] = c := by unfold Col.shades; simp
theorem Col.shades_snoc (c : Col) (l : List Int) (x : Int) : (c.shades l).shade x = c.shades (l ++ [x]) := by
  unfold Col.shades Col.shade
  congr 1
  funext y
  by_cases e : y = x
  · subst e; rw [updI_at]; simp
  · rw [updI_ne e]; simp [e]
def ptaL {F : Nat → Int} {k : Nat} (q : List (InPt F k)) : List Int := (ptaVals q).map F
/-- What holds between two fields of what is scanned. -/
def ScnI (T7 : MkB) (V7 : World) (xa : Nat) (c0 : Col) (b : Nat) (F : Nat → Int) (k : Nat) (st : List (InPt F k) × (Nat → Prop)) (V : World) : Prop :=
  ∃ T1, MkAt V T1 xa (c0.shades (ptaL st.1)) ∧ MkStep T7 V7 T1 V ∧ Blk V b #[.pointer (some ⟨T7.m, 0, none⟩)] 33 ∧ (∀ k, T1.has k → T7.has k ∨ st.2 k) ∧ (∀ k, st.2 k → V7.heap.size ≤ k)
theorem scnI_own {T7 : MkB} {V7 : World} {xa : Nat} {c0 : Col} {b : Nat} {F : Nat → Int} {k : Nat} : OwnFrom V7.heap.size (ScnI T7 V7 xa c0 b F k) := by
  rintro st V V' row ⟨T1, hM, hS, hb, hO, hO2⟩ hg hr
  exact ⟨T1, hM.grown hg (fun r e => (hr r e).2), hS.grown hg (fun r e => (hr r e).1), hb.kept hg (fun r e => (hr r e).2), hO, hO2⟩
/-- What a marker's memory says, as one is about to be scanned. -/
structure MkOx (x : Int) (S S2 : Nat → Bool) (room : Int) (st : List Int) (ov : Bool) (c : Col) : Prop where
  ma : c.ma = inS S
  sc : c.sc = inS S2
  sub : ∀ x, c.sc x = true → c.ma x = true
  r1 : 1 ≤ room
  r2 : room ≤ 4096
  len : (st.length : Int) ≤ room
  grey : ∀ y, c.ma y = true → c.sc y = false → y ≠ x → y ∈ st ∨ ov = true
section
variable {w wr w' w1 : World} {T T' T1 : MkB} {X : ArB} {s : ArS} {S S2 : Nat → Bool} {c : Col} {room : Int} {st : List Int} {ov : Bool}
def ScnEnd (T : MkB) (w : World) (xa : Nat) (c' : Col) (w' : World) : Prop := ∃ T', MkAt w' T' xa c' ∧ MkStep T w T' w'
set_option maxRecDepth 100000 in
set_option maxHeartbeats 4000000 in
theorem mkScan (x : Int) (hM : MkMem wr T X.a S S2 room st ov) (hO : MkOx x S S2 room st ov c) (hs : MkSide wr T X s) (hx : inS s.S x = true) (hma : c.ma x = true) (k : Nat) (F : Nat → Int) (hR : Reads s x k F) (hp : ∀ j, j < k → nz F j = true → inS s.S (F j) = true) :
    Calls Tryz.prog 40 #[.pointer (some ⟨T.m, 0, none⟩), .int .i64 x] wr fun e w' =>
    e = .returned (.tuple #[]) ∧ ScnEnd T wr X.a ((⟨c.ma, updI c.sc x true⟩ : Col).shades ((elems (nz F) k).map F)) w' := by
  obtain ⟨M, hMM⟩ : ∃ M : Nat, 10 ≤ M := ⟨10, Nat.le_refl _⟩
  obtain ⟨hx1, hx2⟩ := inS_of hs.ar.toArMem hs.P hx
  have hB1 := (Below.refl wr.heap.size wr).alloc (Nat.le_refl _) (.cells #[.pointer (some ⟨T.m, 0, none⟩)] 33)
  have hM1 := hM.below hB1
  have hs1 := hs.below hB1
  have hb1 := Blk.new wr #[.pointer (some ⟨T.m, 0, none⟩)] 33
  have hz1 : (wr.alloc (.cells #[.pointer (some ⟨T.m, 0, none⟩)] 33)).heap.size = wr.heap.size + 1 := by simp
  have hlt := hM.lt
  have c2 := hM1.c2
  have cb := hb1.cell 0
  simp only [List.getElem?_toArray, List.getElem?_cons_zero] at cb
  have cP := hM1.put2 x hx1 hx2 (!inS S2 x) (by simp)
  generalize (!inS S2 x) = q1 at cP
  have HZ1 := Lib.hid hz1
  have HC := Lib.hid (And.intro hma hx)
  refine calls_of_wp_marks Tryz.func40 rfl M ?_
  simp only [Tryz.ntmps40, List.size_toArray, List.length_cons, List.length_nil, Nat.reduceAdd, Nat.reduceSub, Array.replicate_succ, Array.replicate_zero, List.push_toArray, List.append_toArray, List.nil_append, List.cons_append]
  clear hz1 hma hx
  gi_wp2_with fail
  refine ⟨trivial, fun h => (by cases h), ?_⟩
  generalize wr.alloc (.cells #[.pointer (some ⟨T.m, 0, none⟩)] 33) = W1 at *
  refine (callsIn_wide.2 cP).mono ?_
  rintro e w2 ⟨rfl, S', T1, hS', hM2, hS2⟩
  have hz1 := HZ1.out
  have hs2 := hs1.step hS2
  have hm : T1.m = T.m := hS2.m
  have hnb : ¬ T.has wr.heap.size := fun e => by have := hlt _ e; omega
  have hb2 := hb1.turn hS2.turn hnb
  have cb2 := hb2.cell 0
  simp only [List.getElem?_toArray, List.getElem?_cons_zero] at cb2
  have c0 := hM2.c0
  rw [hm] at c0
  have hz2 : wr.heap.size + 1 ≤ w2.heap.size := by have := hS2.turn.size; omega
  have HM := Lib.hid hm
  have HS := Lib.hid hS'
  clear cP c2 cb hz1 hm hS'
  gi_wp2_with fail
  refine ⟨trivial, fun h => (by cases h), ?_⟩
  refine (callsIn_wide.2 (ptsfn_any X.a x w2)).mono ?_
  rintro e w' ⟨rfl, rfl⟩
  have hB2 : Below w2.heap.size w2 ((w2.alloc (.cells #[.pointer (some ⟨X.a, 0, none⟩)] 28)).alloc (.cells #[.int .i64 x] 39)) := ((Below.refl w2.heap.size w2).alloc (Nat.le_refl _) _).alloc (by simp) _
  have e0 : ((w2.alloc (.cells #[.pointer (some ⟨X.a, 0, none⟩)] 28)).alloc (.cells #[.int .i64 x] 39)).cell? ⟨w2.heap.size, 0, none⟩ = some (.pointer (some ⟨X.a, 0, none⟩)) := ((Blk.new w2 _ _).alloc _).cell 0
  have e1 : ((w2.alloc (.cells #[.pointer (some ⟨X.a, 0, none⟩)] 28)).alloc (.cells #[.int .i64 x] 39)).cell? ⟨w2.heap.size + 1, 0, none⟩ = some (.int .i64 x) := by
    have := (Blk.new (w2.alloc (.cells #[.pointer (some ⟨X.a, 0, none⟩)] 28)) #[.int .i64 x] 39).cell 0
    rw [World.size_alloc] at this
    exact this
  have hsz2 : ((w2.alloc (.cells #[.pointer (some ⟨X.a, 0, none⟩)] 28)).alloc (.cells #[.int .i64 x] 39)).heap.size = w2.heap.size + 2 := by simp
  have hM7 := hM2.below hB2
  have hs7 := hs2.below hB2
  have hb7 := hb2.turn (Turn.ofBelow hB2) (fun e => by omega)
  have hS7 := hS2.then_ hB2
  have hT2lt := hM2.lt
  have hX2lt := hs2.ar.lt
  have hX := Lib.hid (And.intro e0 (And.intro e1 hsz2))
  clear e0 e1 hB2 hsz2 cb2 c0
  gi_wp2_with fail
  obtain ⟨e0, e1, hsz2⟩ := hX.out
  generalize (w2.alloc (.cells #[.pointer (some ⟨X.a, 0, none⟩)] 28)).alloc (.cells #[.int .i64 x] 39) = V7 at *
  have hXlt7 := hs7.ar.lt
  have hTlt7 := hs7.tabc.lt
  have hA0 : MkAt V7 T1 X.a ⟨c.ma, updI c.sc x true⟩ := ⟨S, S', room, st, ov, hM7, hO.ma, by rw [HS.out, ← hO.sc], fun y hy => by
    have hy2 : updI c.sc x true y = true := hy
    by_cases e : y = x
    · rw [e]; exact HC.out.1
    · rw [updI_ne e] at hy2; exact hO.sub y hy2, hO.r1, hO.r2, hO.len, fun y hy hy2 => by
    have hy3 : updI c.sc x true y = false := hy2
    by_cases e : y = x
    · rw [e, updI_at] at hy3; cases hy3
    · rw [updI_ne e] at hy3; exact hO.grey y hy hy3 e⟩
  have h0 : ScnI T1 V7 X.a ⟨c.ma, updI c.sc x true⟩ wr.heap.size F k ([], fun _ => False) V7 :=
    ⟨T1, by rw [show ptaL (([], fun _ => False) : List (InPt F k) × (Nat → Prop)).1 = [] from rfl, Col.shades_nil]; exact hA0, MkStep.refl _ _, by rw [HM.out]; exact hb7, fun k e => .inl e, fun _ h => h.elim⟩
  have HSZ := Lib.hid hsz2
  clear hsz2 hA0
  refine wpIn_rangeO rfl (by omega) (gf := 49) (lb := #[.pointer (some ⟨w2.heap.size, 0, none⟩), .pointer (some ⟨w2.heap.size + 1, 0, none⟩)]) rfl trivial (enters_of Tryz.func49 (by kernel_rfl) rfl)
    (SeqO.ofK (pta_stops (M - 1) w2.heap.size k x F hR V7 hs7.ar hs7.tabc e0 e1)) KpPt.trans
    (fun V l o hl => KpPt.putObj (n0 := V7.heap.size) hXlt7 (by have := HSZ.out; omega) (by omega) V l o hl) (Below.refl _ _) (fun _ => rfl)
    (ScnI T1 V7 X.a ⟨c.ma, updI c.sc x true⟩ wr.heap.size F k)
    (fun c' st V => False)
    scnI_own (fun c st V V' row hs hg hr => hs) h0 ?a1 ?assign ?body ?done ?stop
  case assign =>
    intro l0 x W K hK
    unfold ptaArgs
    gi_wp2
    exact hK
  case body =>
    rintro l0 pre O y V ⟨T2, hMV, hSV, hbV, hOV, hO2⟩ hpl
    have hVs := hSV.turn.size
    have ck := hbV.cell 0
    simp only [List.getElem?_toArray, List.getElem?_cons_zero] at ck
    have hsV := hs7.step hSV
    have hin := hp y.1.val y.2.1 y.2.2
    obtain ⟨t, ht⟩ : ∃ t, ((⟨c.ma, updI c.sc x true⟩ : Col).shades (ptaL pre)).ma (F y.1.val) = !t := ⟨!((⟨c.ma, updI c.sc x true⟩ : Col).shades (ptaL pre)).ma (F y.1.val), by simp⟩
    have cS := mkShade hMV hsV.ar.toArMem hsV.P (F y.1.val) hin t ht
    have hm2 : T2.m = T.m := by rw [hSV.m]; exact HM.out
    rw [hm2] at cS
    have HM2 := Lib.hid hm2
    rw [HM.out] at ck
    have hv : (ptaL pre) ++ [F y.1.val] = ptaL (pre ++ [y]) := by
      unfold ptaL
      rw [ptaVals_append, List.map_append]; rfl
    rw [Col.shades_snoc, hv] at cS
    clear ht hin hv hm2
    gi_wp2_with fail
    refine ⟨trivial, fun h => (by cases h), ?_⟩
    refine ((callsIn_wide.2 cS).inRound l0).mono ?_
    rintro e V1 ⟨rfl, T3, hM3, hS3⟩
    obtain ⟨O', hOw, hO', hOn⟩ := hS3.owned (B := V7.heap.size) (T7 := T1) hM7.lt hOV hVs
    have hz := HSZ.out
    have hnG : ∀ k, w2.heap.size ≤ k → k < V7.heap.size → ¬ T2.has k := fun k h1 h2 e => by
      rcases hOV k e with e2 | e2
      · have := hT2lt k e2; omega
      · have := hO2 k e2; omega
    have hKp : KpPt X w2.heap.size V V1 :=
      ⟨⟨fun k hk => hS3.turn.block k (by have := hXlt7 k hk; omega) (fun e => hsV.far k e hk), hS3.turn.block _ (by omega) (hnG _ (by omega) (by omega)), hS3.turn.block _ (by omega) (hnG _ (by omega) (by omega))⟩, hS3.turn.block _ (by omega) hsV.nc⟩
    have hI : ScnI T1 V7 X.a ⟨c.ma, updI c.sc x true⟩ wr.heap.size F k (pre ++ [y], O') V1 :=
      ⟨T3, hM3, hSV.trans hS3, hbV.turn hS3.turn (fun e => by
        rcases hOV _ e with e2 | e2
        · rcases hS2.new _ e2 with e3 | e3
          · exact hnb e3
          · have := HZ1.out; omega
        · have := hO2 _ e2; omega), hO', fun k e => by
        rcases hOn k e with e2 | e2
        · exact hO2 k e2
        · omega⟩
    have HI := Lib.hid (And.intro hOw (And.intro hKp hI))
    clear hI hM3 hS3 hKp hOw hz cS hOV
    gi_wp2_with fail
    exact ⟨O', HI.out.1, HI.out.2.1, HI.out.2.2⟩
  case done =>
    rintro D xs O V hD hxs ⟨T2, hMV, hSV, hbV, hOV, hO2⟩ hK
    have hDl : D < V.heap.size := (Array.getElem?_eq_some_iff.mp hK).1
    have e : ptaL xs = (elems (nz F) k).map F := by
      have e : ptaVals xs = elems (nz F) k := hxs
      unfold ptaL; rw [e]
    rw [e] at hMV
    clear hxs e
    have HMV := Lib.hid hMV
    clear hMV
    gi_wp2_with fail
    refine leavesP_marksG (B := V7.heap.size) (hi := D + 1) ⟨D, rfl, by omega, by omega, hK, trivial⟩ fun w' hT => ?_
    have hz := HSZ.out
    exact ⟨_, results_none rfl _ _ _, rfl, T2, HMV.out.deferred hT, ((MkStep.below hB1 hS7).trans hSV).thenT hT (fun k e => by omega)⟩
  case stop =>
    rintro D c' pre O V hD _ h
    exact h.elim
end
end Go.Proofs.YtihjijfeogapdaaGreatDoor
