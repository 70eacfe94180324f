/- A marker's Trace; at this seat's numbers. -/
import Derived.Test.YtihjijfeogapdaaGreatDoorGmS
import Derived.Deep.LoopGhost
namespace Go.Proofs.YtihjijfeogapdaaGreatDoor
open Go Go.RowKit Go.Shelf Go.MuLone Go.RwLone
set_option linter.unusedSimpArgs false
set_option linter.unusedVariables false
attribute [local go_sem] Oper.semAt_some

/-- Where what lies at r points. -/
def ptsAt (obs : List Ob) (r : Int) : List Int := match obs.find? (fun x => decide ((x.r : Int) = r)) with
  | some x => pts x
  | none => []
theorem ptsAt_mem {s : ArS} {obs : List Ob} (ho : Objs s obs) {x : Ob} (hx : x ∈ obs) : ptsAt obs (x.r : Int) = pts x := by
  unfold ptsAt
  obtain ⟨i, hi⟩ := List.mem_iff_getElem?.1 hx
  cases hf : obs.find? (fun y => decide ((y.r : Int) = (x.r : Int))) with
  | none =>
    have := List.find?_eq_none.1 hf x hx
    simp at this
  | some y =>
    have h1 := List.find?_some hf
    have h2a : (y.r : Int) = (x.r : Int) := by simpa using h1
    have h2 : y.r = x.r := by omega
    obtain ⟨j, hj⟩ := List.mem_iff_getElem?.1 (List.mem_of_find?_eq_some hf)
    by_cases e : i = j
    · subst e; rw [hi] at hj; cases hj; rfl
    · exact absurd h2.symm (ho.apart i j x y e hi hj)

/-- How many aren't scanned. -/
def unscN (N : Nat) (c : Col) : Nat := (List.range N).countP fun n : Nat => !c.sc (n : Int)
def unsc (c : Col) : Nat := unscN 2049 c
theorem countP_lt {p q : Nat → Bool} : ∀ (l : List Nat) (a : Nat), a ∈ l → p a = true → q a = false → (∀ x, q x = true → p x = true) → l.countP q + 1 ≤ l.countP p
  | [], a, h, _, _, _ => by cases h
  | b :: l, a, h, h1, h2, h3 => by
    rw [List.countP_cons, List.countP_cons]
    rcases List.mem_cons.1 h with e | e
    · subst e
      rw [h1, h2]
      have : l.countP q ≤ l.countP p := List.countP_mono_left (fun x _ hx => h3 x hx)
      simp; omega
    · have ih := countP_lt l a e h1 h2 h3
      cases hq : q b with
      | true => rw [h3 b hq]; simp; omega
      | false => cases p b <;> simp <;> omega
theorem unscN_lt {N : Nat} {c c' : Col} {x : Int} (h1 : 0 ≤ x) (h2 : x < N) (hs : c.sc x = false) (hc : c'.sc = updI c.sc x true) : unscN N c' + 1 ≤ unscN N c := by
  unfold unscN
  obtain ⟨n, rfl⟩ : ∃ n : Nat, x = (n : Int) := ⟨x.toNat, by omega⟩
  refine countP_lt (p := fun n : Nat => !c.sc (n : Int)) (q := fun n : Nat => !c'.sc (n : Int)) (List.range N) n (List.mem_range.2 (by omega)) (by show (!c.sc (n : Int)) = true; rw [hs]; rfl) (by show (!c'.sc (n : Int)) = false; rw [hc, updI_at]; rfl) fun y hy => ?_
  have hy2 : (!c'.sc (y : Int)) = true := hy
  show (!c.sc (y : Int)) = true
  rw [hc] at hy2
  by_cases e : (y : Int) = (n : Int)
  · rw [e, updI_at] at hy2; cases hy2
  · rw [updI_ne e] at hy2; exact hy2
theorem unsc_lt {c c' : Col} {x : Int} (h1 : 0 ≤ x) (h2 : x < 2049) (hs : c.sc x = false) (hc : c'.sc = updI c.sc x true) : unsc c' + 1 ≤ unsc c := unscN_lt h1 h2 hs hc
theorem unscN_le (N : Nat) (c : Col) : unscN N c ≤ N := by
  unfold unscN
  have := List.countP_le_length (p := fun n : Nat => !c.sc (n : Int)) (l := List.range N)
  rw [List.length_range] at this
  exact this
theorem unsc_le (c : Col) : unsc c ≤ 2049 := unscN_le 2049 c
/-- How far the end is. -/
def topG (c : Col) (st : List Int) : Bool := match st.getLast? with
  | some r => greyC c r
  | none => false
def farT (c : Col) (st : List Int) (ov : Bool) : Nat := unsc c * 10000 + if topG c st = true then 0 else (if ov = true then 5000 else 0) + st.length + 1
theorem farT_le (c : Col) (st : List Int) (ov : Bool) (h : st.length ≤ 4096) : farT c st ov ≤ unsc c * 10000 + 9097 := by
  unfold farT
  split
  · omega
  · split <;> omega
theorem farT_pop {c : Col} {st : List Int} {r : Int} {ov : Bool} (h : greyC c r = false) : farT c st ov < farT c (st ++ [r]) ov := by
  have e : topG c (st ++ [r]) = false := by unfold topG; simp [h]
  have e2 : farT c (st ++ [r]) ov = unsc c * 10000 + ((if ov = true then 5000 else 0) + (st.length + 1) + 1) := by
    unfold farT; rw [if_neg (by rw [e]; simp)]; simp
  rw [e2]
  unfold farT
  split <;> omega
theorem farT_scan {c c' : Col} {st st' : List Int} {ov ov' : Bool} (h : unsc c' + 1 ≤ unsc c) (hl : st'.length ≤ 4096) : farT c' st' ov' < farT c st ov := by
  have h1 := farT_le c' st' ov' hl
  have h2 : unsc c * 10000 ≤ farT c st ov := by unfold farT; omega
  omega
theorem farT_refill {c : Col} {st : List Int} {ov : Bool} {room : Int} (h : Refilled c room st ov) : farT c st ov < farT c [] true := by
  have e0 : topG c [] = false := rfl
  have e1 : farT c [] true = unsc c * 10000 + 5001 := by unfold farT; rw [if_neg (by rw [e0]; simp)]; simp
  rw [e1]
  rcases List.eq_nil_or_concat st with e | ⟨q, r, e⟩
  · have := h.nil e
    subst e
    rw [this]
    unfold farT
    rw [if_neg (by rw [e0]; simp)]; simp
  · have hr := h.is r (by rw [e]; simp)
    have : topG c st = true := by unfold topG; rw [e]; simp [hr]
    unfold farT
    rw [if_pos this]; omega

/-- What holds between two rounds of a trace. -/
def TrA (T : MkB) (w : World) (X : ArB) (obs : List Ob) (c : Col) (n : Int) (k : Nat) (v5 : Value) (wx : World) : Prop :=
  ∃ (T1 : MkB) (c1 : Col) (l : List Int) (S S2 : Nat → Bool) (room : Int) (st : List Int) (ov : Bool), v5 = .int .i64 (l.length : Int) ∧ MkMem wx T1 X.a S S2 room st ov ∧ MkOk S S2 room st ov c1 ∧ MkStep T w T1 wx ∧ Scans (ptsAt obs) c l c1 ∧ (l.length : Int) ≤ max n 0 ∧ (∀ x, c1.ma x = true → x ∈ refsI obs) ∧ l.length + unsc c1 ≤ 2049 ∧ farT c1 st ov ≤ k
/-- What a trace leaves. -/
def TrEnd (T : MkB) (w : World) (xa : Nat) (obs : List Ob) (c : Col) (n : Int) (e : Ending) (w' : World) : Prop :=
  ∃ (T' : MkB) (c' : Col) (l : List Int), e = .returned (.int .i64 (l.length : Int)) ∧ MkAt w' T' xa c' ∧ MkStep T w T' w' ∧ Scans (ptsAt obs) c l c' ∧ (l.length : Int) ≤ max n 0 ∧ ((l.length : Int) < n → c'.dry)
section
variable {w wr w' w1 : World} {T T' T1 : MkB} {X : ArB} {s : ArS} {S S2 : Nat → Bool} {c : Col} {room : Int} {st : List Int} {ov : Bool} {obs : List Ob}
theorem inAr_of (ho : Objs s obs) (h : ∀ x, c.ma x = true → x ∈ refsI obs) : InAr s c := fun x hx => by
  obtain ⟨y, hy, rfl⟩ := List.mem_map.1 (h x hx)
  obtain ⟨i, hi⟩ := List.mem_iff_getElem?.1 hy
  rw [inS_nat]; exact (ho.at_ i y hi).S
theorem pts_in0 (hc : Closed obs) {x : Ob} (hx : x ∈ obs) {j : Nat} (hj : j < x.k) (h0 : nz x.F j = true) : x.F j ∈ refsI obs := by
  rcases hc x hx j hj with e | ⟨z, hz, e⟩
  · unfold nz at h0; rw [e] at h0; simp at h0
  · rw [e]; exact List.mem_map.2 ⟨z, hz, rfl⟩
set_option maxRecDepth 100000 in
set_option maxHeartbeats 4000000 in
theorem mkTrace (h : MkAt w T X.a c) (hs : MkSide w T X s) (ho : Objs s obs) (hcl : Closed obs) (hin : ∀ x, c.ma x = true → x ∈ refsI obs) (n : Int) :
    Calls Tryz.prog 21 #[.pointer (some ⟨T.m, 0, none⟩), .int .i64 n] w (TrEnd T w X.a obs c n) := by
  obtain ⟨S, S2, room, st, ov, hM, hO⟩ := h.ex
  have h0 : TrA T w X obs c n (farT c st ov) (.int .i64 0) w := ⟨T, c, [], S, S2, room, st, ov, rfl, hM, hO, MkStep.refl _ _, .nil c, by simp; omega, hin, by simpa using unsc_le c, Nat.le_refl _⟩
  clear hM hO
  generalize farT c st ov = n0 at h0
  go_enter Tryz.func21, Tryz.ntmps21
  go_wp2_with fail
  go_loopg [5] n0 (fun k v5 wx => TrA T w X obs c n k v5 wx)
  case atStart => exact h0
  case round =>
    clear h0
    obtain ⟨T1, c1, l, S, S2, room, st, ov, rfl, hM, hO, hS, hsc, hl, hin1, hun, hfar⟩ := hrel
    have hm : T1.m = T.m := hS.m
    have c3 := hM.c3
    rw [hm] at c3
    have hs1 := hs.step hS
    have HF := Lib.hid hfar
    have HM := Lib.hid hm
    clear hfar hm
    by_cases hd : (l.length : Int) < n
    · rcases List.eq_nil_or_concat st with e | ⟨q, r, e⟩
      · subst e
        have cP := hM.gr.popNo
        have cO := hM.gr.over
        cases ov with
        | false =>
          have hend : TrEnd T w X.a obs c n (.returned (.int .i64 (l.length : Int))) wr := ⟨T1, c1, l, rfl, ⟨S, S2, room, [], false, hM, hO⟩, hS, hsc, hl, fun _ x hx => by
            cases hsx : c1.sc x with
            | true => rfl
            | false => rcases hO.grey x hx hsx with e | e
                       · cases e
                       · cases e⟩
          have HE := Lib.hid hend
          clear hend
          go_wp2_with fail
          refine cP.mono ?_
          rintro e w1 ⟨rfl, rfl⟩
          clear cP
          go_wp2_with fail
          refine cO.mono ?_
          rintro e w1 ⟨rfl, rfl⟩
          clear cO
          go_wp2_with fail
          go_ret
          exact HE.out
        | true =>
          have cR := mkRefill hM hO.ma hO.sc hO.sub hO.r1 hO.r2 hs1 (inAr_of ho hin1)
          rw [HM.out] at cR
          have HI := Lib.hid (And.intro hO (And.intro hS (And.intro hsc (And.intro hl (And.intro hin1 hun)))))
          clear hO hS hsc hl hin1 hun
          go_wp2_with fail
          refine cP.mono ?_
          rintro e w1 ⟨rfl, rfl⟩
          clear cP
          go_wp2_with fail
          refine cO.mono ?_
          rintro e w1 ⟨rfl, rfl⟩
          clear cO
          go_wp2_with fail
          refine cR.mono ?_
          rintro e w3 ⟨rfl, T3, st3, ov3, hM3, hS3, hR3⟩
          obtain ⟨hO, hS, hsc, hl, hin1, hun⟩ := HI.out
          have hlt := farT_refill hR3
          have hA : TrA T w X obs c n (farT c1 st3 ov3) (.int .i64 (l.length : Int)) w3 :=
            ⟨T3, c1, l, S, S2, room, st3, ov3, rfl, hM3, ⟨hO.ma, hO.sc, hO.sub, hO.r1, hO.r2, hR3.len, fun y h1 h2 => hR3.all y (by unfold greyC; rw [h1, h2]; rfl)⟩, hS.trans hS3, hsc, hl, hin1, hun, Nat.le_refl _⟩
          have HA := Lib.hid hA
          have hk : farT c1 st3 ov3 < gk := Nat.lt_of_lt_of_le hlt HF.out
          generalize farT c1 st3 ov3 = k3 at *
          have HK := Lib.hid hk
          clear hA hlt hk cR hO hS hsc hl hin1 hun hM3 hS3 hR3
          go_wp2_with fail
          go_roundg k3
          case measure => exact HK.out
          case rel => exact HA.out
      · rw [List.concat_eq_append] at e
        subst e
        have hqd : q.length ≤ 100000 := by have h1 := hO.len; have h2 := hO.r2; simp at h1; omega
        have cP := hM.gr.pop hqd
        have HI := Lib.hid (And.intro hO (And.intro hS (And.intro hsc (And.intro hl (And.intro hin1 hun)))))
        clear hO hS hsc hl hin1 hun
        go_wp2_with fail
        refine cP.mono ?_
        rintro e w1 ⟨rfl, G, hG, hSG⟩
        obtain ⟨T2, _, hM2, hS2⟩ := hM.turn3 hG hSG
        obtain ⟨hO, hS, hsc, hl, hin1, hun⟩ := HI.out
        have hs2 := hs1.step hS2
        have hm2 : T2.m = T.m := hS2.m.trans HM.out
        have hee : MkSees w1 T2 X s S S2 c1 := hM2.sees hO.ma hO.sc hO.sub hs2 (inAr_of ho hin1)
        obtain ⟨t, ht⟩ : ∃ t, greyC c1 r = t := ⟨_, rfl⟩
        have cG := mkIsGrey hee r t ht
        rw [hm2] at cG
        have HM2 := Lib.hid hm2
        clear cP hG hSG hO hS hsc hl hin1 hun hm2
        go_wp2_with fail
        refine cG.mono ?_
        rintro e w2 ⟨rfl, hB⟩
        have hM3 := hM2.below hB
        have hs3 := hs2.below hB
        obtain ⟨hO, hS, hsc, hl, hin1, hun⟩ := HI.out
        have hS3 := (hS.trans hS2).then_ hB
        clear cG hee
        cases t with
        | false =>
          have hlt := farT_pop (st := q) (ov := ov) ht
          have hA : TrA T w X obs c n (farT c1 q ov) (.int .i64 (l.length : Int)) w2 :=
            ⟨T2, c1, l, S, S2, room, q, ov, rfl, hM3, ⟨hO.ma, hO.sc, hO.sub, hO.r1, hO.r2, by have := hO.len; simp at this; omega, fun y h1 h2 => by
              rcases hO.grey y h1 h2 with e | e
              · rcases List.mem_append.1 e with e2 | e2
                · exact .inl e2
                · have e3 : y = r := by simpa using e2
                  rw [← e3] at ht; unfold greyC at ht; rw [h1, h2] at ht; cases ht
              · exact .inr e⟩, hS3, hsc, hl, hin1, hun, Nat.le_refl _⟩
          have HA := Lib.hid hA
          have hk : farT c1 q ov < gk := Nat.lt_of_lt_of_le hlt HF.out
          generalize farT c1 q ov = k3 at *
          have HK := Lib.hid hk
          clear hA hlt hk ht hO hS hsc hl hin1 hun hM3 hS3 hs3
          go_wp2_with fail
          go_roundg k3
          case measure => exact HK.out
          case rel => exact HA.out
        | true =>
          have hma : c1.ma r = true := by unfold greyC at ht; cases hm : c1.ma r with | true => rfl | false => rw [hm] at ht; cases ht
          have hsf : c1.sc r = false := by unfold greyC at ht; rw [hma] at ht; simpa using ht
          have hin := inAr_of ho hin1 r hma
          obtain ⟨y, hy, hyr⟩ := List.mem_map.1 (hin1 r hma)
          obtain ⟨i, hi⟩ := List.mem_iff_getElem?.1 hy
          have hR : Reads s r y.k y.F := by rw [← hyr]; exact (ho.at_ i y hi).reads hs3.ar.fits
          have hox : MkOx r S S2 room q ov c1 := ⟨hO.ma, hO.sc, hO.sub, hO.r1, hO.r2, by have := hO.len; simp at this; omega, fun z h1 h2 h3 => by
            rcases hO.grey z h1 h2 with e | e
            · rcases List.mem_append.1 e with e2 | e2
              · exact .inl e2
              · exact absurd (by simpa using e2) h3
            · exact .inr e⟩
          have cC := mkScan r hM3 hox hs3 hin hma y.k y.F hR (fun j hj h0 => by
            obtain ⟨z, hz, hze⟩ := List.mem_map.1 (pts_in0 hcl hy hj h0)
            obtain ⟨i2, hi2⟩ := List.mem_iff_getElem?.1 hz
            rw [← hze, inS_nat]; exact (ho.at_ i2 z hi2).S)
          rw [HM2.out] at cC
          have hsn : (⟨c1.ma, updI c1.sc r true⟩ : Col).shades ((elems (nz y.F) y.k).map y.F) = c1.scan (ptsAt obs) r := by
            unfold Col.shades Col.scan
            rw [← hyr, ptsAt_mem ho hy]; rfl
          rw [hsn] at cC
          obtain ⟨hx1, hx2⟩ := inS_of hs3.ar.toArMem hs3.P hin
          have hx3 : r < 2049 := by have h3 := hs3.P; have h4 := hs3.ar.p64; omega
          have hu := unsc_lt (c := c1) (c' := c1.scan (ptsAt obs) r) hx1 hx3 hsf rfl
          have hll : (l.length : Int) < 2049 := by omega
          have HI3 := Lib.hid (And.intro hma (And.intro hsf (And.intro hu (And.intro hy hyr))))
          have HI4 := Lib.hid hS3
          have HI5 := Lib.hid (And.intro hl (And.intro hun hsc))
          clear hO hS hsc hl hin1 hun hM3 hS3 ht hma hsf hin hy hyr hi hR hox hsn hu
          go_wp2_with fail
          refine cC.mono ?_
          rintro e w3 ⟨rfl, T4, hA4, hS4⟩
          obtain ⟨S4, S42, room4, st4, ov4, hM4, hO4⟩ := hA4.ex
          obtain ⟨hma, hsf, hu, hy, hyr⟩ := HI3.out
          obtain ⟨hl, hun, hsc⟩ := HI5.out
          have hlt : farT (c1.scan (ptsAt obs) r) st4 ov4 < farT c1 (q ++ [r]) ov := farT_scan hu (by have := hO4.len; have := hO4.r2; omega)
          have hA : TrA T w X obs c n (farT (c1.scan (ptsAt obs) r) st4 ov4) (.int .i64 ((l.length : Int) + 1)) w3 :=
            ⟨T4, c1.scan (ptsAt obs) r, l ++ [r], S4, S42, room4, st4, ov4, by simp, hM4, hO4, HI4.out.trans hS4, hsc.trans (.cons hma hsf (.nil _)), by simp; omega, fun z hz => by
              have hz2 : (c1.ma z || decide (z ∈ ptsAt obs r)) = true := hz
              cases e : c1.ma z with
              | true => exact HI.out.2.2.2.2.1 z e
              | false =>
                rw [e] at hz2
                have e2 : z ∈ ptsAt obs r := by simpa using hz2
                rw [← hyr, ptsAt_mem ho hy] at e2
                unfold pts at e2
                obtain ⟨j, hj, rfl⟩ := List.mem_map.1 e2
                unfold elems at hj
                have hj2 := List.mem_filter.1 hj
                exact pts_in0 hcl hy (List.mem_range.1 hj2.1) hj2.2, by simp; omega, Nat.le_refl _⟩
          have HA := Lib.hid hA
          have hk : farT (c1.scan (ptsAt obs) r) st4 ov4 < gk := Nat.lt_of_lt_of_le hlt HF.out
          generalize farT (c1.scan (ptsAt obs) r) st4 ov4 = k3 at *
          have HK := Lib.hid hk
          clear hA hlt hk hma hsf hu hy hyr hl hun hsc hM4 hO4 hS4 hA4 cC
          go_wp2_with fail
          go_roundg k3
          case measure => exact HK.out
          case rel => exact HA.out
    · have hend : TrEnd T w X.a obs c n (.returned (.int .i64 (l.length : Int))) wr := ⟨T1, c1, l, rfl, ⟨S, S2, room, st, ov, hM, hO⟩, hS, hsc, hl, fun h => absurd h hd⟩
      have HE := Lib.hid hend
      clear hend
      go_wp2_with fail
      go_ret
      exact HE.out
end
end Go.Proofs.YtihjijfeogapdaaGreatDoor
