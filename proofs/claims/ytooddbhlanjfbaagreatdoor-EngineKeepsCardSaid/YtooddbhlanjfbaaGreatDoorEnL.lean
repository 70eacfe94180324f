/- law 16's leads: what roots lead to now; at this seat's numbers. -/
import Derived.Test.YtooddbhlanjfbaaGreatDoorEnP
import Derived.Test.YtooddbhlanjfbaaGreatDoorArQ
import Derived.Test.YtooddbhlanjfbaaGreatDoorRanB
import Derived.Test.YtooddbhlanjfbaaGreatDoorUl
import Derived.Test.YtooddbhlanjfbaaGreatDoorUk
import Derived.Test.YtooddbhlanjfbaaGreatDoorEnC
namespace Go.Proofs.YtooddbhlanjfbaaGreatDoor
open Go Go.RowKit Go.Shelf Go.MuLone Go.RwLone
set_option linter.unusedSimpArgs false
set_option linter.unusedVariables false
attribute [local go_sem] Oper.semAt_some

/-- An iterator that asks less of its rounds. -/
theorem SeqT.ofO {α : Type} {F : Fence} {n : Nat} {P : Program} {g : Nat} {lb : Array Value} {encs : α → Array Value} {Kp : World → World → Prop} {S Sp : List α → Prop} {N : Nat} {w : World} (h : SeqO F n P g lb encs Kp S Sp N w) : SeqT F n P g lb encs Kp S Sp N w := fun l J Jx W hW hJ hJx hY h0 =>
  h l J Jx W hW hJ hJx (fun pre O x W1 hj hl => (hY pre O x W1 hj hl).mono fun e W' ⟨O', ho, h⟩ => ⟨O', ⟨ho.size, ho.same, fun k e => (ho.own k e).imp id And.left⟩, h⟩) h0
/-- What is told of r, when those of l were looked at. -/
def tellR (P : Int → List Int) : List Int → Int → List Int
  | [], _ => []
  | x :: l, r => (if x = r then P x else []) ++ tellR P l r
theorem tellR_snoc (P : Int → List Int) (x r : Int) : ∀ l : List Int, tellR P (l ++ [x]) r = tellR P l r ++ (if x = r then P x else [])
  | [] => by simp [tellR]
  | y :: l => by rw [List.cons_append]; unfold tellR; rw [tellR_snoc P x r l, List.append_assoc]
theorem tellR_none (P : Int → List Int) (r : Int) : ∀ l : List Int, r ∉ l → tellR P l r = []
  | [], _ => rfl
  | y :: l, h => by
    unfold tellR
    rw [if_neg (fun e => h (by rw [← e]; exact List.mem_cons_self)), tellR_none P r l fun e => h (List.mem_cons_of_mem _ e)]; rfl
theorem tellR_one (P : Int → List Int) (r : Int) : ∀ l : List Int, l.Nodup → r ∈ l → tellR P l r = P r
  | [], _, h => by cases h
  | y :: l, hn, h => by
    unfold tellR
    obtain ⟨h1, h2⟩ := List.nodup_cons.1 hn
    by_cases e : y = r
    · rw [if_pos e, tellR_none P r l (by rw [← e]; exact h1), e, List.append_nil]
    · rw [if_neg e, List.nil_append]
      exact tellR_one P r l h2 ((List.mem_cons.1 h).resolve_left fun e2 => e e2.symm)
theorem tellR_length (P : Int → List Int) (hP : ∀ x, (P x).length ≤ 6) (r : Int) : ∀ l : List Int, (tellR P l r).length ≤ 6 * l.length
  | [] => Nat.zero_le _
  | y :: l => by
    unfold tellR
    rw [List.length_append, List.length_cons]
    have h1 := tellR_length P hP r l
    have h2 : (if y = r then P y else []).length ≤ 6 := by split; exact hP y; exact Nat.zero_le _
    omega
theorem GrpAt.told {w w1 : World} {B n : Nat} {f : Int → Value} {adj : Int → List Int} {v : Value} {x y : Int} (h : GrpAt w B n f adj) (hn : n < 9223372036854775807) (hx : (Lit.int .i64 x).wf = true) (hR : RefRow w1 v (adj x ++ [y])) (hT : Turn (fun k => (f x).ownBlock = some k) w w1) (hg : ∀ k, v.ownBlock = some k → (f x).ownBlock = some k ∨ w.heap.size ≤ k) :
    ∃ w', (Instr.mapUpdate 34 (.map (some B)) (.int .i64 x) v).run Tryz.prog w1 = .ok () w' ∧ GrpAt w' B (n + 1) (updI f x v) (updI adj x (adj x ++ [y])) ∧ Turn (fun k => (f x).ownBlock = some k ∨ k = B) w w' := by
  have hm1 : MapSl w1 B n f := h.map.turn hT (fun e => h.farRow e rfl)
  obtain ⟨w', hrun, hs, hS⟩ := hm1.store hn x hx hR.isRow
  exact ⟨w', hrun, h.swap x hT hR hg hs hS, (hT.mono (fun k _ e => .inl e)).trans hS (fun k _ e => .inr e)⟩
/-- What is read of any cell: an object's fields, or of none. -/
theorem reads_any {s : ArS} {obs : List Ob} (ho : Objs s obs) (hF : Fits s) (hFu : Full s obs) (r : Nat) : ∃ (k : Nat) (F : Nat → Int), Reads s (r : Int) k F ∧ ptsAt obs (r : Int) = (elems (nz F) k).map F := by
  cases e : s.S r with
  | true =>
    obtain ⟨x, hx, rfl⟩ := hFu r e
    obtain ⟨i, hi⟩ := List.mem_iff_getElem?.1 hx
    refine ⟨x.k, x.F, (ho.at_ i x hi).reads hF, ?_⟩
    rw [ptsAt_mem ho hx]; rfl
  | false =>
    refine ⟨0, fun _ => 0, ⟨?_, by omega, fun i hi => absurd hi (by omega)⟩, ?_⟩
    · unfold wordI hasWd
      rw [inS_nat, e]; rfl
    · rw [ptsAt_no]
      · rfl
      · intro x hx hxr
        obtain ⟨i, hi⟩ := List.mem_iff_getElem?.1 hx
        have h1 := (ho.at_ i x hi).S
        have h2 : x.r = r := by omega
        rw [h2, e] at h1; cases h1
/-- The cells that were told, as references. -/
def toI (l : List (Fin 4096)) : List Int := l.map fun x => ((x.val : Nat) : Int)
theorem toI_snoc (l : List (Fin 4096)) (x : Fin 4096) : toI (l ++ [x]) = toI l ++ [((x.val : Nat) : Int)] := by unfold toI; simp
theorem toI_length (l : List (Fin 4096)) : (toI l).length = l.length := by unfold toI; simp
/-- Between two objects: of those ahead it is told where they point; q more of x. -/
structure LdI (w0 V7 : World) (a : Nat) (P : Int → List Int) (l : List Int) (x : Int) (ys : List Int) (O : Nat → Prop) (V : World) : Prop where
  ex : ∃ n f adj, GrpAt V (w0.heap.size + 1) n f adj ∧ n ≤ 6 * l.length + ys.length ∧ (∀ r, adj r = tellR P l r ++ (if x = r then ys else [])) ∧ ∀ y k, (f y).ownBlock = some k → O k
  ab : Blk V w0.heap.size #[.pointer (some ⟨a, 0, none⟩)] 32
  mb : Blk V (w0.heap.size + 1 + 1) #[.map (some (w0.heap.size + 1))] 34
  below : Below w0.heap.size w0 V
  size : V7.heap.size ≤ V.heap.size
  ownB : ∀ k, O k → V7.heap.size ≤ k
theorem GrpAt.grown {w w' : World} {B n : Nat} {f : Int → Value} {adj : Int → List Int} {row : Option Nat} (h : GrpAt w B n f adj) {m : Nat} (hB : B < m) (hg : w.grownBy w' row) (hr : ∀ r, row = some r → m ≤ r ∧ ∃ o : Obj, w.heap[r]? = some o ∧ o.isCells = false) : GrpAt w' B n f adj :=
  h.turn (Turn.ofGrownM hg) fun k hk e => by
    obtain ⟨h1, o, h2, h3⟩ := hr k e
    rcases hk with rfl | ⟨x, e2⟩
    · omega
    · obtain ⟨_, hb⟩ := (h.row x).own e2
      rw [blk_not hb h2] at h3; cases h3
theorem LdI.grown {w0 V7 V V' : World} {P : Int → List Int} {l ys : List Int} {x : Int} {a : Nat} {O : Nat → Prop} {row : Option Nat} {m : Nat} (h0 : w0.heap.size + 3 ≤ V7.heap.size) (hm : V7.heap.size ≤ m) (h : LdI w0 V7 a P l x ys O V) (hg : V.grownBy V' row) (hr : ∀ r, row = some r → m ≤ r ∧ ∃ o : Obj, V.heap[r]? = some o ∧ o.isCells = false) : LdI w0 V7 a P l x ys O V' := by
  obtain ⟨⟨n, f, adj, h1, h2⟩, h3, h4, h5, h6, h7⟩ := h
  exact ⟨⟨n, f, adj, h1.grown (m := m) (by omega) hg hr, h2⟩, h3.kept hg (fun r e => (hr r e).2), h4.kept hg (fun r e => (hr r e).2), (ownFrom_below (β := Unit) (Nat.le_refl _) (by omega : w0.heap.size ≤ m)) () V V' row h5 hg hr, Nat.le_trans h6 hg.size, h7⟩
theorem LdI.more {w0 V7 V : World} {P : Int → List Int} {l : List Int} {x : Int} {a : Nat} {O : Nat → Prop} (h : LdI w0 V7 a P l x (P x) O V) (hP : (P x).length ≤ 6) (y : Int) : LdI w0 V7 a P (l ++ [x]) y [] O V := by
  obtain ⟨⟨n, f, adj, h1, h2, h3, h4⟩, h5, h6, h7, h8, h9⟩ := h
  refine ⟨⟨n, f, adj, h1, by rw [List.length_append]; simp; omega, fun r => ?_, h4⟩, h5, h6, h7, h8, h9⟩
  rw [h3 r, tellR_snoc]
  by_cases e : y = r <;> simp [e]
theorem LdI.as {w0 V7 V : World} {P : Int → List Int} {l : List Int} {x : Int} {a : Nat} {O : Nat → Prop} (h : LdI w0 V7 a P l x [] O V) (y : Int) : LdI w0 V7 a P l y [] O V := by
  obtain ⟨⟨n, f, adj, h1, h2, h3, h4⟩, h5, h6, h7, h8, h9⟩ := h
  refine ⟨⟨n, f, adj, h1, h2, fun r => ?_, h4⟩, h5, h6, h7, h8, h9⟩
  rw [h3 r]; simp
theorem LdI.ask {w0 V7 V V' : World} {P : Int → List Int} {l ys : List Int} {x : Int} {a : Nat} {O : Nat → Prop} (h : LdI w0 V7 a P l x ys O V) (h0 : w0.heap.size ≤ V7.heap.size) (hB : Below V.heap.size V V') : LdI w0 V7 a P l x ys O V' := by
  obtain ⟨⟨n, f, adj, h1, h2⟩, h3, h4, h5, h6, h7⟩ := h
  exact ⟨⟨n, f, adj, h1.below hB, h2⟩, h3.turn (Turn.ofBelow hB) (fun e => by have := h3.lt; omega), h4.turn (Turn.ofBelow hB) (fun e => by have := h4.lt; omega), h5.trans (hB.mono (by omega)), Nat.le_trans h6 hB.size, h7⟩
section
variable {B mb n : Nat} {X : ArB} {s : ArS} {obs : List Ob} {vl : Value} {f : Int → Value} {adj : Int → List Int} {wb wr : World}
set_option maxRecDepth 100000 in
set_option maxHeartbeats 8000000 in
theorem leads_any (h : GoIn B mb n X s obs vl f adj wb wr) (hFu : Full s obs) (hcl : Closed obs) (hP : s.P ≤ 64) (hol : obs.length ≤ 2048) (hT : TabAt wr) {v : Value} {R : List Int} (hR : RefRow wr v R) (hRin : ∀ x ∈ R, x ∈ refsI obs) (hRl : R.length ≤ 4096) :
    Calls Tryz.prog 14 #[.pointer (some ⟨X.a, 0, none⟩), v] wr fun e w' =>
      ∃ rb vis, e = .returned (.map (some rb)) ∧ MapIn w' rb vis.length (visF vis) (visK vis) vis.length ∧ wr.heap.size ≤ rb ∧ Below wr.heap.size wr w' ∧ vis.Nodup ∧ (∀ x ∈ vis, x ∈ refsI obs) ∧ ∀ y, y ∈ vis ↔ Rch R (ptsAt obs) y := by
  obtain ⟨M, hMM⟩ : ∃ M : Nat, 20 ≤ M := ⟨20, Nat.le_refl _⟩
  have hAA := h.ar.at_
  have hTA := h.ar.tabAt
  have hob := h.ob
  have hF := hAA.fits
  have hbd := refs_bound hob hF
  have hnd := refs_nodup hob
  have hpw : ∀ x, (ptsAt obs x).length ≤ 6 := fun x => by
    by_cases e : ∃ y ∈ obs, (y.r : Int) = x
    · obtain ⟨y, hy, rfl⟩ := e
      rw [ptsAt_mem hob hy]; exact pts_few hob hF hy
    · rw [ptsAt_no fun y hy e2 => e ⟨y, hy, e2⟩]; exact Nat.zero_le _
  have hpin : ∀ x ∈ refsI obs, ∀ y ∈ ptsAt obs x, y = 0 ∨ y ∈ refsI obs := fun x hx y hy => by
    obtain ⟨z, hz, rfl⟩ := List.mem_map.1 hx
    rw [ptsAt_mem hob hz] at hy; exact .inr (pts_in hcl hz y hy)
  have hXlt := hAA.lt
  have hTlt := hT.lt
  have hT2lt := hTA.lt
  have HR := Lib.hid (And.intro hR (And.intro hRin hRl))
  have HO := Lib.hid (And.intro hAA (And.intro hTA (And.intro hT (And.intro hob (And.intro hF (And.intro hbd (And.intro hnd (And.intro hpw hpin))))))))
  have hB3 := (((Below.refl wr.heap.size wr).alloc (Nat.le_refl _) (.cells #[.pointer (some ⟨X.a, 0, none⟩)] 32)).alloc (by simp) (.map #[] 0)).alloc (by simp; omega) (.cells #[.map (some (wr.heap.size + 1))] 34)
  have hab := ((Blk.new wr #[.pointer (some ⟨X.a, 0, none⟩)] 32).alloc (.map #[] 0)).alloc (.cells #[.map (some (wr.heap.size + 1))] 34)
  have hgr := (GrpAt.made (wr.alloc (.cells #[.pointer (some ⟨X.a, 0, none⟩)] 32))).below ((Below.refl _ _).alloc (Nat.le_refl _) (.cells #[.map (some (wr.heap.size + 1))] 34))
  have hmb := Blk.new ((wr.alloc (.cells #[.pointer (some ⟨X.a, 0, none⟩)] 32)).alloc (.map #[] 0)) #[.map (some (wr.heap.size + 1))] 34
  simp only [World.size_alloc] at hgr hmb
  have hs3 : (((wr.alloc (.cells #[.pointer (some ⟨X.a, 0, none⟩)] 32)).alloc (.map #[] 0)).alloc (.cells #[.map (some (wr.heap.size + 1))] 34)).heap.size = wr.heap.size + 3 := by simp
  have ca := hab.cell 0
  simp only [List.getElem?_toArray, List.getElem?_cons_zero] at ca
  have HB3 := Lib.hid (And.intro hB3 (And.intro hab (And.intro hgr (And.intro hmb hs3))))
  have hmm := @run_makeMap Tryz.prog
  clear hB3 hab hgr hmb hs3 hR hRin hRl hAA hTA hT hob hF hbd hnd hpw hpin h
  refine calls_of_wp_marks Tryz.func14 rfl M ?_
  simp only [Tryz.ntmps14, List.size_toArray, List.length_cons, List.length_nil, Nat.reduceAdd, Nat.reduceSub, Array.replicate_succ, Array.replicate_zero, List.push_toArray, List.append_toArray, List.nil_append, List.cons_append]
  gi_wp2_with fail
  refine ⟨trivial, fun h => (by cases h), ?_⟩
  obtain ⟨hB3, hab, hgr, hmb, hs3⟩ := HB3.out
  clear HB3 hmm ca
  generalize ((wr.alloc (.cells #[.pointer (some ⟨X.a, 0, none⟩)] 32)).alloc (.map #[] 0)).alloc (.cells #[.map (some (wr.heap.size + 1))] 34) = W3 at *
  refine (callsIn_wide.2 (allfn_any X.a W3)).mono ?_
  rintro e w' ⟨rfl, rfl⟩
  have hB4 := (Below.refl W3.heap.size W3).alloc (Nat.le_refl _) (.cells #[.pointer (some ⟨X.a, 0, none⟩)] 32)
  have hB7 := hB3.trans (hB4.mono (by omega))
  have hab7 := hab.alloc (.cells #[.pointer (some ⟨X.a, 0, none⟩)] 32)
  have hmb7 := hmb.alloc (.cells #[.pointer (some ⟨X.a, 0, none⟩)] 32)
  have hgr7 := hgr.below hB4
  have hbx7 : (W3.alloc (.cells #[.pointer (some ⟨X.a, 0, none⟩)] 32)).cell? ⟨W3.heap.size, 0, none⟩ = some (.pointer (some ⟨X.a, 0, none⟩)) := (Blk.new W3 _ _).cell 0
  have hs7 : (W3.alloc (.cells #[.pointer (some ⟨X.a, 0, none⟩)] 32)).heap.size = wr.heap.size + 4 := by simp [hs3]
  have H7 := Lib.hid (And.intro hB7 (And.intro hab7 (And.intro hmb7 (And.intro hgr7 (And.intro hbx7 hs7)))))
  clear hB3 hab hgr hmb hB4 hB7 hab7 hmb7 hgr7 hbx7 hs7
  gi_wp2_with fail
  obtain ⟨hB7, hab7, hmb7, hgr7, hbx7, hs7⟩ := H7.out
  clear H7
  generalize W3.alloc (.cells #[.pointer (some ⟨X.a, 0, none⟩)] 32) = V7 at *
  rw [hs3] at hbx7
  have hA7 := HO.out.1.below hB7
  have hTb7 : TableAt V7 := HO.out.2.1.below hB7
  have hT7 : TabAt V7 := HO.out.2.2.1.below hB7
  have h0 : LdI wr V7 X.a (ptsAt obs) (toI []) 0 [] (fun _ => False) V7 := ⟨⟨0, _, _, hgr7, Nat.zero_le _, fun r => by simp [toI, tellR], fun y k e => by cases e⟩, hab7, hmb7, hB7, Nat.le_refl _, fun k e => e.elim⟩
  have H7 := Lib.hid (And.intro hA7 (And.intro hTb7 (And.intro hB7 hab7)))
  clear hab7 hmb7 hgr7 hB7
  refine wpIn_rangeTB rfl (by omega) (gf := 68) (lb := #[.pointer (some ⟨wr.heap.size + 3, 0, none⟩)]) rfl trivial (enters_of Tryz.func68 (by kernel_rfl) rfl)
    (SeqT.ofO (allA_seq (M - 1) (by omega) (wr.heap.size + 3) V7 hA7.toArMem hT7 hbx7)) KpAll.trans
    (fun V l o o' hl _ _ => KpAll.putObj (n0 := V7.heap.size) (fun k hk => by have := hXlt k hk; omega) (by omega) (by omega) V l o' hl)
    (fun V o hl => ⟨fun k hk => Below.heap_alloc _ _ _ (by have := hXlt k hk; omega), Below.heap_alloc _ _ _ (by omega), Below.heap_alloc _ _ _ (by omega)⟩) (Below.refl _ _) (fun _ => rfl)
    (fun st V => LdI wr V7 X.a (ptsAt obs) (toI st.1) 0 [] st.2 V)
    (fun c st V => False)
    (fun st V V' row hs hg hr => hs.grown (m := V7.heap.size) (by omega) (Nat.le_refl _) hg hr) (fun c st V V' row hs hg hr => hs)
    h0 (fun x => .cells #[.int .i64 ((x.val : Nat) : Int)] 44) ?a1 ?assign ?body ?done ?stop
  case assign =>
    intro l0 x W K hK
    gi_wp2
    revert hK
    generalize W.heap.size = b
    intro hK
    exact hK
  case stop =>
    rintro D c' pre O V hD _ h
    exact h.elim
  case body =>
    rintro l0 pre O x b V hl0 ⟨r0, hr0⟩ hlb hOl hxb hVb hI hlen
    have hxb : Blk V b #[.int .i64 ((x.val : Nat) : Int)] 44 := hxb
    have hI : LdI wr V7 X.a (ptsAt obs) (toI pre) 0 [] O V := hI
    obtain ⟨k, F, hRd, hPx⟩ := reads_any HO.out.2.2.2.1 HO.out.2.2.2.2.1 hFu x.val
    have hVs := hI.size
    have hAV : ArAt V X s := HO.out.1.below hI.below
    have hTV : TableAt V := HO.out.2.1.below hI.below
    have cab1 := hI.ab.cell 0
    have cr1 := hxb.cell 0
    simp only [List.getElem?_toArray, List.getElem?_cons_zero] at cab1 cr1
    have hB9 : Below V.heap.size V ((V.alloc (.cells #[.pointer (some ⟨X.a, 0, none⟩)] 32)).alloc (.cells #[.int .i64 ((x.val : Nat) : Int)] 44)) :=
      ((Below.refl _ V).alloc (Nat.le_refl _) _).alloc (by simp) _
    have b0 : ((V.alloc (.cells #[.pointer (some ⟨X.a, 0, none⟩)] 32)).alloc (.cells #[.int .i64 ((x.val : Nat) : Int)] 44)).cell? ⟨V.heap.size, 0, none⟩ = some (.pointer (some ⟨X.a, 0, none⟩)) := by
      have := ((Blk.new V #[.pointer (some ⟨X.a, 0, none⟩)] 32).alloc (.cells #[.int .i64 ((x.val : Nat) : Int)] 44)).cell 0
      exact this
    have b1 : ((V.alloc (.cells #[.pointer (some ⟨X.a, 0, none⟩)] 32)).alloc (.cells #[.int .i64 ((x.val : Nat) : Int)] 44)).cell? ⟨V.heap.size + 1, 0, none⟩ = some (.int .i64 ((x.val : Nat) : Int)) := by
      have := (Blk.new (V.alloc (.cells #[.pointer (some ⟨X.a, 0, none⟩)] 32)) #[.int .i64 ((x.val : Nat) : Int)] 44).cell 0
      rw [World.size_alloc] at this
      exact this
    have hxb9 := (hxb.alloc (.cells #[.pointer (some ⟨X.a, 0, none⟩)] 32)).alloc (.cells #[.int .i64 ((x.val : Nat) : Int)] 44)
    have s9 : ((V.alloc (.cells #[.pointer (some ⟨X.a, 0, none⟩)] 32)).alloc (.cells #[.int .i64 ((x.val : Nat) : Int)] 44)).heap.size = V.heap.size + 2 := by simp
    have cPt := ptsfn_any X.a ((x.val : Nat) : Int) V
    have HV := Lib.hid (And.intro hI (And.intro hAV (And.intro hTV (And.intro hB9 (And.intro b0 (And.intro b1 (And.intro hxb9 (And.intro s9 hPx))))))))
    have HRd := Lib.hid hRd
    clear hI hAV hTV hB9 b0 b1 hxb hxb9 s9 hPx hRd
    gi_wp2_with fail
    refine ⟨trivial, fun h => (by cases h), ?_⟩
    refine ((callsIn_wide.2 cPt).inRound l0).mono ?_
    rintro e w' ⟨rfl, rfl⟩
    clear cPt cab1 cr1
    gi_wp2_with fail
    obtain ⟨hI, hAV, hTV, hB9, b0, b1, hxb9, s9, hPx⟩ := HV.out
    clear HV
    generalize (V.alloc (.cells #[.pointer (some ⟨X.a, 0, none⟩)] 32)).alloc (.cells #[.int .i64 ((x.val : Nat) : Int)] 44) = W9 at *
    have hA9 := hAV.below hB9
    have hT9 : TableAt W9 := hTV.below hB9
    have hr9 : W9.heap[l0]? = some (.loop r0) := (hB9.block l0 (Array.getElem?_eq_some_iff.1 hr0).1).trans hr0
    have hl0V : l0 < V.heap.size := (Array.getElem?_eq_some_iff.1 hr0).1
    have hI9 : LdI wr V7 X.a (ptsAt obs) (toI pre) ((x.val : Nat) : Int) [] (fun k => O k ∨ False) W9 := by
      have h9 := (hI.as ((x.val : Nat) : Int)).ask (by omega) hB9
      rw [show (fun k => O k ∨ False) = O from by funext k; simp]; exact h9
    have HI := Lib.hid (And.intro hI (And.intro hB9 hPx))
    clear hI hAV hTV hPx
    rw [hVb] at b0 b1
    refine wpIn_rangeTN rfl hr9 (by omega) (gf := 66) (lb := #[.pointer (some ⟨b + 1, 0, none⟩), .pointer (some ⟨b + 1 + 1, 0, none⟩)]) rfl trivial (enters_of Tryz.func66 (by kernel_rfl) rfl)
      ((SeqT.ofK (pts_stops (X := X) (M - 1 - 1 - 1) (b + 1) k ((x.val : Nat) : Int) F HRd.out W9 hA9 hT9 b0 b1)).inRound l0) KpPt.trans (fun W l o o' hl _ _ => KpPt.putObj (n0 := W9.heap.size) (fun k hk => by have := hXlt k hk; omega) (by omega) (by omega) W l o' hl) (Below.refl _ _) (fun _ => rfl)
      (fun st V' => LdI wr V7 X.a (ptsAt obs) (toI pre) ((x.val : Nat) : Int) (st.1.map fun z : Fin 6 => F z.val) (fun k => O k ∨ st.2 k) V' ∧ Blk V' b #[.int .i64 ((x.val : Nat) : Int)] 44 ∧ (∀ k, st.2 k → W9.heap.size ≤ k) ∧ W9.heap.size ≤ V'.heap.size ∧ (∀ k, k < W9.heap.size → ¬ O k → k ≠ wr.heap.size + 1 → V'.heap[k]? = W9.heap[k]?))
      (fun _ _ _ => False)
      (fun st A C row hs hg hr => ⟨hs.1.grown (m := W9.heap.size) (by omega) (by omega) hg hr, hs.2.1.kept hg (fun r e => (hr r e).2), hs.2.2.1, Nat.le_trans hs.2.2.2.1 hg.size, fun k h1 h2 h3 => (hg.block k (by have := hs.2.2.2.1; omega) (fun e => by have := (hr k e.symm).1; omega)).trans (hs.2.2.2.2 k h1 h2 h3)⟩) (fun c st A C row hs hg hr => hs)
      ⟨hI9, hxb9, fun k e => e.elim, Nat.le_refl _, fun _ _ _ _ => rfl⟩ ?aB ?assignB ?bodyB ?doneB ?stopB
    case assignB =>
      intro l2 y V K hK
      unfold ptArgs
      gi_wp2
      exact hK
    case stopB =>
      rintro c' pre O V _ h
      exact h.elim
    case bodyB =>
      rintro l2 pre2 O2 z V1 hl2 _ hO2 ⟨hJ, hbx, hOb, hsz, hsame⟩ hlen2
      have hJ : LdI wr V7 X.a (ptsAt obs) (toI pre) ((x.val : Nat) : Int) (pre2.map fun z : Fin 6 => F z.val) (fun k => O k ∨ O2 k) V1 := hJ
      have hOb : ∀ k, O2 k → W9.heap.size ≤ k := hOb
      obtain ⟨⟨n1, f1, adj1, hg1, hn1, hadj1, hown1⟩, hab1, hmb1, hbel1, hsV1, hob1⟩ := hJ
      have hc7 := hmb1.cell 0
      have hc18 := hbx.cell 0
      simp only [List.getElem?_toArray, List.getElem?_cons_zero] at hc7 hc18
      have hlp : (toI pre).length ≤ 4096 := by rw [toI_length]; omega
      have hl6 : (pre2.map fun z : Fin 6 => F z.val).length ≤ 6 := by rw [List.length_map]; omega
      have hwf : (Lit.int .i64 ((x.val : Nat) : Int)).wf = true := by
        have := x.2
        simp [Lit.wf, IntKind.min, IntKind.max, IntKind.signed, IntKind.bits]; omega
      have hgd := hg1.below (Below.refl _ V1).drew
      have gA := (hg1.below ((Below.refl _ V1).alloc (Nat.le_refl _) (.cells #[.int .i64 (F z.val)] 44))).below (Below.refl _ _).drew
      have hlk := hgd.map.look ((x.val : Nat) : Int) hwf
      have hlk2 := gA.map.look ((x.val : Nat) : Int) hwf
      have hTA : Turn (fun q => (f1 ((x.val : Nat) : Int)).ownBlock = some q ∨ q = wr.heap.size + 1) V1 (V1.alloc (.cells #[.int .i64 (F z.val)] 44)).drew := ((Turn.refl _ V1).alloc _).drew
      have hlr : (adj1 ((x.val : Nat) : Int)).length ≤ 100000 := by
        rw [hadj1, List.length_append]
        have h1 := tellR_length (ptsAt obs) HO.out.2.2.2.2.2.2.2.1 ((x.val : Nat) : Int) (toI pre)
        rw [if_pos rfl]; omega
      obtain ⟨v6, w6, hrun6, hR6, hT6, hN6⟩ := (gA.row ((x.val : Nat) : Int)).append1 hlr V1.heap.size 1 (F z.val) ((Blk.new V1 #[.int .i64 (F z.val)] 44).drew.cell 0) 33
      obtain ⟨w7, hrun7, g7, hT7⟩ := gA.told (by omega) hwf hR6 hT6 hN6
      have hTV : Turn (fun q => (f1 ((x.val : Nat) : Int)).ownBlock = some q ∨ q = wr.heap.size + 1) V1 w7 := hTA.trans hT7 (fun _ _ e => e)
      have hnO : ∀ q, (f1 ((x.val : Nat) : Int)).ownBlock = some q → (O q ∧ V7.heap.size ≤ q ∧ q < b) ∨ (O2 q ∧ W9.heap.size ≤ q) := fun q e => by
        rcases hown1 _ q e with e2 | e2
        · exact .inl ⟨e2, by have := hob1 q (.inl e2); omega, (hOl q e2).2⟩
        · exact .inr ⟨e2, hOb q e2⟩
      have hnx : ∀ q, b ≤ q → q < W9.heap.size → ¬ ((f1 ((x.val : Nat) : Int)).ownBlock = some q ∨ q = wr.heap.size + 1) := fun q q1 q2 e => by
        rcases e with e | e
        · rcases hnO q e with e2 | e2 <;> omega
        · omega
      have hlow : ∀ q, q < V7.heap.size → q ≠ wr.heap.size + 1 → ¬ ((f1 ((x.val : Nat) : Int)).ownBlock = some q ∨ q = wr.heap.size + 1) := fun q q1 q2 e => by
        rcases e with e | e
        · rcases hnO q e with e2 | e2 <;> omega
        · exact q2 e
      have hcA7 : (V1.alloc (.cells #[.int .i64 (F z.val)] 44)).drew.cell? ⟨wr.heap.size + 1 + 1, 0, none⟩ = some (.map (some (wr.heap.size + 1))) := cell_allocKeep hc7 _
      have hcA18 : (V1.alloc (.cells #[.int .i64 (F z.val)] 44)).drew.cell? ⟨b, 0, none⟩ = some (.int .i64 ((x.val : Nat) : Int)) := cell_allocKeep hc18 _
      have hc67 : w6.cell? ⟨wr.heap.size + 1 + 1, 0, none⟩ = some (.map (some (wr.heap.size + 1))) := (hT6.cell (a := ⟨wr.heap.size + 1 + 1, 0, none⟩) (World.block_lt_of_cell? _ _ hcA7) (fun e => hlow (wr.heap.size + 1 + 1) (by omega) (by omega) (.inl e))).trans hcA7
      have hc618 : w6.cell? ⟨b, 0, none⟩ = some (.int .i64 ((x.val : Nat) : Int)) := (hT6.cell (a := ⟨b, 0, none⟩) (World.block_lt_of_cell? _ _ hcA18) (fun e => hnx b (Nat.le_refl _) (by omega) (.inl e))).trans hcA18
      have hc77 : w7.cell? ⟨wr.heap.size + 1 + 1, 0, none⟩ = some (.map (some (wr.heap.size + 1))) := (hTV.cell (a := ⟨wr.heap.size + 1 + 1, 0, none⟩) (World.block_lt_of_cell? _ _ hc7) (hlow (wr.heap.size + 1 + 1) (by omega) (by omega))).trans hc7
      have hc718 : w7.cell? ⟨b, 0, none⟩ = some (.int .i64 ((x.val : Nat) : Int)) := (hTV.cell (a := ⟨b, 0, none⟩) (World.block_lt_of_cell? _ _ hc18) (hnx b (Nat.le_refl _) (by omega))).trans hc18
      have hfin : ∃ O' : Nat → Prop, OwnedT W9.heap.size O2 O' V1 w7 ∧ KpPt X (b + 1) V1 w7 ∧ (LdI wr V7 X.a (ptsAt obs) (toI pre) ((x.val : Nat) : Int) ((pre2 ++ [z]).map fun z : Fin 6 => F z.val) (fun k => O k ∨ O' k) w7 ∧ Blk w7 b #[.int .i64 ((x.val : Nat) : Int)] 44 ∧ (∀ k, O' k → W9.heap.size ≤ k) ∧ W9.heap.size ≤ w7.heap.size ∧ (∀ k, k < W9.heap.size → ¬ O k → k ≠ wr.heap.size + 1 → w7.heap[k]? = W9.heap[k]?)) := by
        have hs17 := hTV.size
        have hN6' : ∀ q, v6.ownBlock = some q → (f1 ((x.val : Nat) : Int)).ownBlock = some q ∨ V1.heap.size ≤ q := fun q e => (hN6 q e).imp id fun e2 => by
          have e3 : (V1.alloc (.cells #[.int .i64 (F z.val)] 44)).heap.size ≤ q := e2
          rw [World.size_alloc] at e3; omega
        have hv6 : ∀ q, v6.ownBlock = some q → q < w7.heap.size := fun q e => (g7.row ((x.val : Nat) : Int)).lt (by rw [updI_at]; exact e)
        refine ⟨fun q => O2 q ∨ (V1.heap.size ≤ q ∧ v6.ownBlock = some q), ⟨hs17, fun q hq hql hn => hTV.block q hql fun e => ?_, fun q e => e.imp id fun e2 => ⟨e2.1, hv6 q e2.2⟩⟩, ⟨⟨fun q hq => hTV.block q (by have := hXlt q hq; omega) (hlow q (by have := hXlt q hq; omega) (by have := hXlt q hq; omega)), hTV.block _ (by omega) (hnx _ (by omega) (by omega)), hTV.block _ (by omega) (hnx _ (by omega) (by omega))⟩, hTV.block _ (by omega) (hlow _ (by omega) (by omega))⟩, ⟨⟨n1 + 1, _, _, g7, ?_, fun r => ?_, fun y q e => ?_⟩, hab1.turn hTV (hlow _ (by omega) (by omega)), hmb1.turn hTV (hlow _ (by omega) (by omega)), hbel1.trans (hTV.below wr.heap.size (by omega) fun q hq => hlow q (by omega) (by omega)), by omega, fun q e => ?_⟩, hbx.turn hTV (hnx _ (Nat.le_refl _) (by omega)), fun q e => ?_, by omega, fun q h1 h2 h3 => (hTV.block q (by omega) (fun e => ?_)).trans (hsame q h1 h2 h3)⟩
        · rcases e with e | e
          · rcases hnO q e with e2 | e2
            · omega
            · exact hn e2.1
          · omega
        · rw [List.map_append, List.length_append]; simp; rw [List.length_map] at hn1; omega
        · by_cases e : r = ((x.val : Nat) : Int)
          · rw [e, updI_at, hadj1, if_pos rfl, if_pos rfl, List.map_append, List.append_assoc]; rfl
          · rw [updI_ne e, hadj1, if_neg (fun e2 => e e2.symm), if_neg (fun e2 => e e2.symm)]
        · by_cases e9 : y = ((x.val : Nat) : Int)
          · rw [e9, updI_at] at e
            rcases hN6' q e with e2 | e2
            · rcases hnO q e2 with e3 | e3
              · exact .inl e3.1
              · exact .inr (.inl e3.1)
            · exact .inr (.inr ⟨e2, e⟩)
          · rw [updI_ne e9] at e
            exact (hown1 y q e).imp id Or.inl
        · rcases e with e | e | e
          · exact hob1 q (.inl e)
          · exact hob1 q (.inr e)
          · omega
        · rcases e with e | e
          · exact hOb q e
          · omega
        · rcases e with e | e
          · rcases hnO q e with e2 | e2
            · exact h2 e2.1
            · omega
          · exact h3 e
      have HFIN := Lib.hid hfin
      clear hfin gA hgd hTA hR6 hT6 hN6 g7 hT7 hTV hnO hnx hlow hg1 hn1 hadj1 hown1 hab1 hmb1 hbel1 hob1 hsame hbx hOb hlr
      gi_wp2_with fail
      refine wpIn_region_heldC (S := fun w' => w'.cell? ⟨wr.heap.size + 1 + 1, 0, none⟩ = some (.map (some (wr.heap.size + 1))) ∧ w'.cell? ⟨b, 0, none⟩ = some (.int .i64 ((x.val : Nat) : Int))) (by kernel_rfl) (by kernel_rfl) (by rintro ⟨a, w, h⟩; exact h) ⟨hc7, hc18⟩ (fun hHeld => ?_)
      refine wpAnyH_take (i := 0) (v := ?v0) rfl (by kernel_rfl) (by kernel_rfl) (by kernel_rfl) (fun _ _ _ h => h) (Or.inl ⟨by rfl, ?hy0⟩) (by assumption) ?rest0
      case hy0 => (intro w hSw; obtain ⟨hS1, hS2⟩ := hSw; go_simp; try with_reducible rfl)
      try simp only [Act.put, List.getElem_toArray, List.getElem_cons_succ, List.getElem_cons_zero, List.setIfInBounds_toArray, List.set_cons_zero, List.set_cons_succ]
      refine wpAnyH_take (i := 1) (v := ?v1) rfl (by kernel_rfl) (by kernel_rfl) (by kernel_rfl) (fun _ _ _ h => h) (Or.inl ⟨by rfl, ?hy1⟩) (by assumption) ?rest1
      case hy1 => (intro w hSw; obtain ⟨hS1, hS2⟩ := hSw; go_simp; try with_reducible rfl)
      try simp only [Act.put, List.getElem_toArray, List.getElem_cons_succ, List.getElem_cons_zero, List.setIfInBounds_toArray, List.set_cons_zero, List.set_cons_succ]
      refine wpAnyH_take (i := 2) (v := ?v2) rfl (by kernel_rfl) (by kernel_rfl) (by kernel_rfl) (fun _ _ _ h => h) (Or.inl ⟨by rfl, ?hy2⟩) (by assumption) ?rest2
      case hy2 => (intro w hSw; obtain ⟨hS1, hS2⟩ := hSw; go_simp; try with_reducible rfl)
      try simp only [Act.put, List.getElem_toArray, List.getElem_cons_succ, List.getElem_cons_zero, List.setIfInBounds_toArray, List.set_cons_zero, List.set_cons_succ]
      refine wpAnyH_take (i := 3) (v := ?v3) rfl (by kernel_rfl) (by kernel_rfl) (by kernel_rfl) (fun _ _ _ h => h) (Or.inl ⟨by rfl, ?hy3⟩) (by assumption) ?rest3
      case hy3 => (intro w hSw; obtain ⟨hS1, hS2⟩ := hSw; go_simp; try with_reducible rfl)
      try simp only [Act.put, List.getElem_toArray, List.getElem_cons_succ, List.getElem_cons_zero, List.setIfInBounds_toArray, List.set_cons_zero, List.set_cons_succ]
      refine wpAnyH_take (i := 5) (v := ?v5) rfl (by kernel_rfl) (by kernel_rfl) (by kernel_rfl) (fun _ _ _ h => h) (Or.inl ⟨by rfl, ?hy5⟩) (by assumption) ?rest5
      case hy5 => (intro w hSw; obtain ⟨hS1, hS2⟩ := hSw; go_simp; try with_reducible rfl)
      try simp only [Act.put, List.getElem_toArray, List.getElem_cons_succ, List.getElem_cons_zero, List.setIfInBounds_toArray, List.set_cons_zero, List.set_cons_succ]
      refine wpAnyH_ready (rs := [4, 6]) (by kernel_rfl) (by simp) ?_
      refine AllReadyH.cons rfl (fun K hK => ?_) (AllReadyH.cons rfl (fun K hK => ?_) AllReadyH.nil)
      · go_simp
        refine hK.out _ _ ⟨hc7, hc18⟩ (fun hHeld => ?_)
        try simp only [Act.put, List.getElem_toArray, List.getElem_cons_succ, List.getElem_cons_zero, List.setIfInBounds_toArray, List.set_cons_zero, List.set_cons_succ]
        refine wpAnyH_ready (rs := [6]) (by kernel_rfl) (by simp) ?_
        refine AllReadyH.cons rfl (fun K hK => ?_) AllReadyH.nil
        go_simp
        refine hK.out _ _ ⟨hcA7, hcA18⟩ (fun hHeld => ?_)
        try simp only [Act.put, List.getElem_toArray, List.getElem_cons_succ, List.getElem_cons_zero, List.setIfInBounds_toArray, List.set_cons_zero, List.set_cons_succ]
        refine wpAnyH_ready (rs := [7]) (by kernel_rfl) (by simp) ?_
        refine AllReadyH.cons rfl (fun K hK => ?_) AllReadyH.nil
        refine step_append_runG rfl _ _ _ _ rfl _ _ rfl rfl hrun6 ?_
        refine hK.out _ _ ⟨hc67, hc618⟩ (fun hHeld => ?_)
        try simp only [Act.put, List.getElem_toArray, List.getElem_cons_succ, List.getElem_cons_zero, List.setIfInBounds_toArray, List.set_cons_zero, List.set_cons_succ]
        refine wpAnyH_ready (rs := [8]) (by kernel_rfl) (by simp) ?_
        refine AllReadyH.cons rfl (fun K hK => ?_) AllReadyH.nil
        refine step_mapUpdate_runG rfl _ _ _ _ rfl _ _ _ rfl rfl rfl hrun7 ?_
        refine hK.out _ _ ⟨hc77, hc718⟩ (fun hHeld => ?_)
        try simp only [Act.put, List.getElem_toArray, List.getElem_cons_succ, List.getElem_cons_zero, List.setIfInBounds_toArray, List.set_cons_zero, List.set_cons_succ]
        refine wpAnyH_done (by kernel_rfl) ?_ _
        exact HFIN.out
      · go_simp
        refine hK.out _ _ ⟨hcA7, hcA18⟩ (fun hHeld => ?_)
        try simp only [Act.put, List.getElem_toArray, List.getElem_cons_succ, List.getElem_cons_zero, List.setIfInBounds_toArray, List.set_cons_zero, List.set_cons_succ]
        refine wpAnyH_ready (rs := [4]) (by kernel_rfl) (by simp) ?_
        refine AllReadyH.cons rfl (fun K hK => ?_) AllReadyH.nil
        go_simp
        refine hK.out _ _ ⟨hcA7, hcA18⟩ (fun hHeld => ?_)
        try simp only [Act.put, List.getElem_toArray, List.getElem_cons_succ, List.getElem_cons_zero, List.setIfInBounds_toArray, List.set_cons_zero, List.set_cons_succ]
        refine wpAnyH_ready (rs := [7]) (by kernel_rfl) (by simp) ?_
        refine AllReadyH.cons rfl (fun K hK => ?_) AllReadyH.nil
        refine step_append_runG rfl _ _ _ _ rfl _ _ rfl rfl hrun6 ?_
        refine hK.out _ _ ⟨hc67, hc618⟩ (fun hHeld => ?_)
        try simp only [Act.put, List.getElem_toArray, List.getElem_cons_succ, List.getElem_cons_zero, List.setIfInBounds_toArray, List.set_cons_zero, List.set_cons_succ]
        refine wpAnyH_ready (rs := [8]) (by kernel_rfl) (by simp) ?_
        refine AllReadyH.cons rfl (fun K hK => ?_) AllReadyH.nil
        refine step_mapUpdate_runG rfl _ _ _ _ rfl _ _ _ rfl rfl rfl hrun7 ?_
        refine hK.out _ _ ⟨hc77, hc718⟩ (fun hHeld => ?_)
        try simp only [Act.put, List.getElem_toArray, List.getElem_cons_succ, List.getElem_cons_zero, List.setIfInBounds_toArray, List.set_cons_zero, List.set_cons_succ]
        refine wpAnyH_done (by kernel_rfl) ?_ _
        exact HFIN.out
    case doneB =>
      rintro xs O9 V4 hO9 hxs ⟨hJ, hbx, hOb, hsz, hsame⟩
      obtain ⟨hI, hB9, hPx⟩ := HI.out
      have hxs2 : xs.map Fin.val = elems (nz F) k := hxs
      have hys : (xs.map fun z : Fin 6 => F z.val) = ptsAt obs ((x.val : Nat) : Int) := by
        rw [hPx, ← hxs2, List.map_map]; rfl
      rw [show (xs, O9).1 = xs from rfl, hys] at hJ
      have hM := hJ.more (HO.out.2.2.2.2.2.2.2.1 _) 0
      rw [← toI_snoc] at hM
      have hsV : V.heap.size ≤ V4.heap.size := by omega
      have hOV := hI.ownB
      have same : ∀ q, q < V.heap.size → ¬ O q → q ≠ wr.heap.size + 1 → V4.heap[q]? = V.heap[q]? := fun q h1 h2 h3 => (hsame q (by omega) h2 h3).trans (hB9.block q h1)
      have hnl : ∀ q, q < V7.heap.size → ¬ O q := fun q h1 e => by have := hOV q e; omega
      exact ⟨fun q => O q ∨ O9 q, ⟨hsV, fun q h1 h2 h3 => same q h2 h3 (by omega), fun q e => e.imp id fun e2 => ⟨by have := hOb q e2; omega, (hO9 q e2).2⟩⟩, ⟨fun q hq => same q (by have := hXlt q hq; omega) (hnl q (by have := hXlt q hq; omega)) (by have := hXlt q hq; omega), same _ (by omega) (hnl _ (by omega)) (by omega), same _ (by omega) (hnl _ (by omega)) (by omega)⟩, hM⟩
  case done =>
    rintro D xs O V hD hOD hxs hI hK
    have hI : LdI wr V7 X.a (ptsAt obs) (toI xs) 0 [] O V := hI
    have hxs2 : xs.map Fin.val = elems s.S (32 * s.P + 1) := hxs
    obtain ⟨⟨n1, f1, adj1, hg1, hn1, hadj1, hown1⟩, hab1, hmb1, hbel1, hsV1, hob1⟩ := hI
    have hnoI : (toI xs).Nodup := by
      have e : toI xs = (xs.map Fin.val).map fun j => ((j : Nat) : Int) := by unfold toI; rw [List.map_map]; rfl
      rw [e, hxs2]
      exact List.Pairwise.map _ (fun a b h e => h (by omega)) (elems_nodup _ _)
    have hfn : adj1 = ptsAt obs := by
      funext r
      rw [hadj1 r]
      by_cases e : r ∈ toI xs
      · rw [tellR_one _ _ _ hnoI e]; simp
      · rw [tellR_none _ _ _ e]
        rw [ptsAt_no]
        · simp
        · intro y hy hyr
          obtain ⟨i, hi⟩ := List.mem_iff_getElem?.1 hy
          have ho := HO.out.2.2.2.1.at_ i y hi
          have hp := ho.pos HO.out.2.2.2.2.1
          refine e ?_
          have h1 : y.r ∈ xs.map Fin.val := by
            rw [hxs2]; unfold elems
            exact List.mem_filter.2 ⟨List.mem_range.2 (by omega), ho.S⟩
          obtain ⟨z, hz, hzr⟩ := List.mem_map.1 h1
          unfold toI
          exact List.mem_map.2 ⟨z, hz, by rw [← hyr, ← hzr]⟩
    subst hfn
    have hRV : RefRow V v R := HR.out.1.keepG fun k e => hbel1.block k (HR.out.1.lt e)
    have hrest : restI (ptsAt obs) [] (refsI obs) ≤ 6 * (refsI obs).length := restI_nil_le _ 6 _ fun x _ => HO.out.2.2.2.2.2.2.2.1 x
    have hRn := refsI_length obs
    have cRe := reach_any v R (refsI obs) (wr.heap.size + 1) n1 f1 (ptsAt obs) V hRV hg1 HO.out.2.2.2.2.2.2.1 HO.out.2.2.2.2.2.1 (by omega) (fun x hx => .inr (HR.out.2.1 x hx)) HO.out.2.2.2.2.2.2.2.2 (by have := HR.out.2.2; omega) (fun x hx => by have := HO.out.2.2.2.2.2.2.2.1 x; omega)
    have ck := hmb1.cell 0
    simp only [List.getElem?_toArray, List.getElem?_cons_zero] at ck
    have hDl : D < V.heap.size := (Array.getElem?_eq_some_iff.mp hK).1
    have HI := Lib.hid hbel1
    clear hg1 hn1 hadj1 hown1 hab1 hmb1 hbel1 hob1 hxs hxs2 hnoI hRV hrest hRn
    gi_wp2_with fail
    refine ⟨trivial, fun h => (by cases h), ?_⟩
    refine (callsIn_wide.2 cRe).mono ?_
    rintro e W8 ⟨rb, vis, rfl, hMap, hrb, hB8, hvn, hvin, hvis⟩
    have HM := Lib.hid (And.intro hMap (And.intro hB8 (And.intro hvn (And.intro hvin hvis))))
    have hK8 : W8.heap[D]? = some (.deferred (some [])) := (hB8.block D hDl).trans hK
    have hD8 : D < W8.heap.size := by have := hB8.size; omega
    clear cRe ck hMap hB8 hvn hvin hvis
    gi_wp2_with fail
    refine leavesP_marksG (B := V7.heap.size) (hi := D + 1) ⟨D, rfl, by omega, by omega, hK8, trivial⟩ fun w' hTd => ?_
    obtain ⟨hMap, hB8, hvn, hvin, hvis⟩ := HM.out
    refine ⟨_, by simp [results, Tryz.f14, go_sem], rb, vis, rfl, hMap.turn hTd (fun e => ?_), by omega, ?_, hvn, hvin, hvis⟩
    · obtain ⟨ds, hd⟩ := e.2
      obtain ⟨⟨D2, ⟨es, clock, hb, _⟩, _⟩⟩ := hMap
      rw [hb] at hd; cases hd
    · exact (HI.out.trans (hB8.mono HI.out.size)).trans (hTd.below wr.heap.size (by have := HI.out.size; omega) fun k hk e => by have := e.1; omega)
end
end Go.Proofs.YtooddbhlanjfbaaGreatDoor
