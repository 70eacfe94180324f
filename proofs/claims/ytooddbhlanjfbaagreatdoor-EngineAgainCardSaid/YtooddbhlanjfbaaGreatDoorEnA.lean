/- A barrier of one of four engines, beside a graph and its marker: what stands in memory, its five calls; at this seat's numbers. -/
import Derived.Test.YtooddbhlanjfbaaGreatDoorUv
import Derived.Test.YtooddbhlanjfbaaGreatDoorUd
import Derived.Test.YtooddbhlanjfbaaGreatDoorStR
import Derived.Test.YtooddbhlanjfbaaGreatDoorUn
namespace Go.Proofs.YtooddbhlanjfbaaGreatDoor
open Go Go.RowKit Go.Shelf
set_option linter.unusedSimpArgs false
set_option linter.unusedVariables false

/-- What a barrier knows: dirty pages, counts, how many were logged. -/
structure EnS where
  D : Nat → Bool
  cnt : Int → Nat
  lg : Nat
def EnS.none : EnS := ⟨fun _ => false, fun _ => 0, 0⟩
/-- Engine e's barrier stands at bt; its blocks are H. -/
def EnAt (e : Nat) (w : World) (H : Nat → Prop) (bt tm xa P room : Nat) (R : List Int) (σ : EnS) : Prop :=
  match e with
  | 0 => ∃ Z : StB, Z.t = bt ∧ H = Z.has ∧ StAt w Z xa tm P σ.D
  | 1 => H = (fun k => k = bt) ∧ Blk w bt (BrCells djK tm) djK.t
  | 2 => H = (fun k => k = bt) ∧ Blk w bt (BrCells yuK tm) yuK.t
  | _ => ∃ Z : VyB, Z.t = bt ∧ H = Z.has ∧ VyAt w Z tm (32 * P + 1) R σ.cnt σ.lg room
section
variable {e bt tm xa P room : Nat} {w w' : World} {H : Nat → Prop} {R : List Int} {σ : EnS}
theorem EnAt.lt (h : EnAt e w H bt tm xa P room R σ) : ∀ k, H k → k < w.heap.size := by
  match e, h with
  | 0, ⟨Z, h1, h2, h3⟩ => rw [h2]; exact h3.lt
  | 1, ⟨h1, h2⟩ => rw [h1]; rintro k rfl; exact h2.lt
  | 2, ⟨h1, h2⟩ => rw [h1]; rintro k rfl; exact h2.lt
  | _ + 3, ⟨Z, h1, h2, h3⟩ => rw [h2]; exact h3.lt
theorem EnAt.keep (h : EnAt e w H bt tm xa P room R σ) (hk : ∀ k, H k → w'.heap[k]? = w.heap[k]?) : EnAt e w' H bt tm xa P room R σ := by
  match e, h with
  | 0, ⟨Z, h1, h2, h3⟩ => rw [h2] at hk; exact ⟨Z, h1, h2, h3.keep hk⟩
  | 1, ⟨h1, h2⟩ => rw [h1] at hk; exact ⟨h1, by unfold Blk at *; rw [hk _ rfl]; exact h2⟩
  | 2, ⟨h1, h2⟩ => rw [h1] at hk; exact ⟨h1, by unfold Blk at *; rw [hk _ rfl]; exact h2⟩
  | _ + 3, ⟨Z, h1, h2, h3⟩ => rw [h2] at hk; exact ⟨Z, h1, h2, h3.keep hk⟩
end
/-- A graph, a marker, a barrier of engine e; other blocks E that their calls keep. -/
structure EnIn (e : Nat) (B mb n : Nat) (X : ArB) (s : ArS) (obs : List Ob) (vl : Value) (f : Int → Value) (adj : Int → List Int) (E : Nat → Prop) (T : MkB) (c : Col) (H : Nat → Prop) (bt tm room : Nat) (σ : EnS) (wb wr : World) : Prop where
  gm : GmIn B mb n X s obs vl f adj (fun k => E k ∨ H k) T c wb wr
  en : EnAt e wr H bt tm X.a s.P room (refsI obs) σ
  tm : T.m = tm
  own : ∀ k, H k → B ≤ k ∧ ¬ GoHas X mb vl f k ∧ ¬ E k
section
variable {e B mb n bt tm room : Nat} {X : ArB} {s : ArS} {obs : List Ob} {vl : Value} {f : Int → Value} {adj : Int → List Int} {E E' H : Nat → Prop} {T T' : MkB} {c c' : Col} {σ σ' : EnS} {wb wr w' : World}
theorem EnIn.ask (h : EnIn e B mb n X s obs vl f adj E T c H bt tm room σ wb wr) (hB : Below wr.heap.size wr w') : EnIn e B mb n X s obs vl f adj E T c H bt tm room σ wb w' :=
  ⟨h.gm.ask hB, h.en.keep (fun k e => hB.block k (h.en.lt k e)), h.tm, h.own⟩
/-- A marker's call beside the barrier. -/
theorem EnIn.went (h : EnIn e B mb n X s obs vl f adj E T c H bt tm room σ wb wr) (hm : T'.m = tm) (hG : GmIn B mb n X s obs vl f adj (fun k => E k ∨ H k) T' c' wb w') (hk : ∀ k, (E k ∨ H k) → w'.heap[k]? = wr.heap[k]?) :
    EnIn e B mb n X s obs vl f adj E T' c' H bt tm room σ wb w' ∧ ∀ k, E k → w'.heap[k]? = wr.heap[k]? :=
  ⟨⟨hG, h.en.keep (fun k e => hk k (.inr e)), hm, h.own⟩, fun k e => hk k (.inl e)⟩
theorem EnIn.watch (h : EnIn e B mb n X s obs vl f adj E T c H bt tm room σ wb wr) (hB : Below wr.heap.size wr w') (hE : ∀ k, E' k → E k ∨ (wr.heap.size ≤ k ∧ k < w'.heap.size)) : EnIn e B mb n X s obs vl f adj E' T c H bt tm room σ wb w' :=
  ⟨h.gm.watch hB fun k e => by
    rcases e with e | e
    · rcases hE k e with e2 | e2
      · exact .inl (.inl e2)
      · exact .inr e2
    · exact .inl (.inr e), h.en.keep (fun k e => hB.block k (h.en.lt k e)), h.tm, fun k e => ⟨(h.own k e).1, (h.own k e).2.1, fun e2 => by
    rcases hE k e2 with e3 | e3
    · exact (h.own k e).2.2 e3
    · have := h.en.lt k e; omega⟩⟩
theorem EnIn.turnE {M : Nat → Prop} (h : EnIn e B mb n X s obs vl f adj E T c H bt tm room σ wb wr) (hT : Turn M wr w') (hM : ∀ k, M k → E k ∧ B ≤ k ∧ ¬ GoHas X mb vl f k) : EnIn e B mb n X s obs vl f adj E T c H bt tm room σ wb w' :=
  ⟨h.gm.turnE hT (fun k e => ⟨.inl (hM k e).1, (hM k e).2⟩), h.en.keep (fun k e => hT.block k (h.en.lt k e) (fun e2 => (h.own k e).2.2 (hM k e2).1)), h.tm, h.own⟩
theorem EnIn.reE (h : EnIn e B mb n X s obs vl f adj E T c H bt tm room σ wb wr) (hE : ∀ k, E' k → ¬ T.has k ∧ ¬ H k ∧ k < wr.heap.size) : EnIn e B mb n X s obs vl f adj E' T c H bt tm room σ wb wr :=
  ⟨h.gm.reE (fun k e => by
    rcases e with e | e
    · exact ⟨(hE k e).1, (hE k e).2.2⟩
    · exact ⟨fun e2 => (h.gm.own k e2).2.2 (.inr e), h.gm.ext k (.inr e)⟩), h.en, h.tm, fun k e => ⟨(h.own k e).1, (h.own k e).2.1, fun e2 => (hE k e2).2.1 e⟩⟩
theorem EnIn.less (h : EnIn e B mb n X s obs vl f adj E T c H bt tm room σ wb wr) (hE : ∀ k, E' k → E k) : EnIn e B mb n X s obs vl f adj E' T c H bt tm room σ wb wr :=
  h.reE fun k e => ⟨fun e2 => (h.gm.own k e2).2.2 (.inl (hE k e)), fun e2 => (h.own k e2).2.2 (hE k e), h.gm.ext k (.inl (hE k e))⟩
/-- The graph and the marker alone. -/
theorem EnIn.mkr (h : EnIn e B mb n X s obs vl f adj E T c H bt tm room σ wb wr) : GmIn B mb n X s obs vl f adj E T c wb wr :=
  h.gm.reE fun k e => ⟨fun e2 => (h.gm.own k e2).2.2 (.inl e), h.gm.ext k (.inl e)⟩
/-- As each layer's. -/
theorem EnIn.st (h : EnIn 0 B mb n X s obs vl f adj E T c H bt tm room σ wb wr) : ∃ Z : StB, Z.t = bt ∧ H = Z.has ∧ StIn B mb n X s obs vl f adj E T c Z σ.D wb wr := by
  obtain ⟨Z, h1, h2, h3⟩ := h.en
  subst h2
  exact ⟨Z, h1, rfl, h.gm, by rw [h.tm]; exact h3, h.own⟩
theorem EnIn.ofSt {Z : StB} (h : StIn B mb n X s obs vl f adj E T c Z σ.D wb wr) (h1 : Z.t = bt) (hm : T.m = tm) : EnIn 0 B mb n X s obs vl f adj E T c Z.has bt tm room σ wb wr :=
  ⟨h.gm, ⟨Z, h1, rfl, by rw [← hm]; exact h.st⟩, hm, h.own⟩
theorem EnIn.dj (h : EnIn 1 B mb n X s obs vl f adj E T c H bt tm room σ wb wr) : BrIn djK B mb n X s obs vl f adj E T c bt tm wb wr ∧ (B ≤ bt ∧ ¬ GoHas X mb vl f bt ∧ ¬ E bt) ∧ H = fun k => k = bt := by
  obtain ⟨h1, h2⟩ := h.en
  subst h1
  exact ⟨⟨h.gm, h2, h.tm⟩, h.own bt rfl, rfl⟩
theorem EnIn.ofDj (h : BrIn djK B mb n X s obs vl f adj E T c bt tm wb wr) (ho : B ≤ bt ∧ ¬ GoHas X mb vl f bt ∧ ¬ E bt) : EnIn 1 B mb n X s obs vl f adj E T c (fun k => k = bt) bt tm room σ wb wr :=
  ⟨h.gm, ⟨rfl, h.at_⟩, h.tm, by rintro k rfl; exact ho⟩
theorem EnIn.yu (h : EnIn 2 B mb n X s obs vl f adj E T c H bt tm room σ wb wr) : BrIn yuK B mb n X s obs vl f adj E T c bt tm wb wr ∧ (B ≤ bt ∧ ¬ GoHas X mb vl f bt ∧ ¬ E bt) ∧ H = fun k => k = bt := by
  obtain ⟨h1, h2⟩ := h.en
  subst h1
  exact ⟨⟨h.gm, h2, h.tm⟩, h.own bt rfl, rfl⟩
theorem EnIn.ofYu (h : BrIn yuK B mb n X s obs vl f adj E T c bt tm wb wr) (ho : B ≤ bt ∧ ¬ GoHas X mb vl f bt ∧ ¬ E bt) : EnIn 2 B mb n X s obs vl f adj E T c (fun k => k = bt) bt tm room σ wb wr :=
  ⟨h.gm, ⟨rfl, h.at_⟩, h.tm, by rintro k rfl; exact ho⟩
theorem EnIn.vy (h : EnIn 3 B mb n X s obs vl f adj E T c H bt tm room σ wb wr) : VyIn B mb n X s obs vl f adj E T c bt tm σ.cnt σ.lg room wb wr := by
  obtain ⟨Z, h1, h2, h3⟩ := h.en
  subst h2
  exact ⟨Z, h1, h.tm, h.gm, by rw [h.tm]; exact h3, h.own⟩
theorem EnIn.ofVy (h : VyIn B mb n X s obs vl f adj E T c bt tm σ.cnt σ.lg room wb wr) : ∃ H, EnIn 3 B mb n X s obs vl f adj E T c H bt tm room σ wb wr := by
  obtain ⟨Z, h1, h2, h3⟩ := h
  exact ⟨Z.has, h3.gm, ⟨Z, h1, rfl, by rw [← h2]; exact h3.vy⟩, h2, h3.own⟩
end
/-- The functions behind the methods. -/
def enT (e : Nat) : TypeId := match e with | 0 => 56 | 1 => 58 | 2 => 60 | _ => 62
def enPre (e : Nat) : Nat := match e with | 0 => 166 | 1 => 181 | 2 => 186 | _ => 191
def enPost (e : Nat) : Nat := match e with | 0 => 165 | 1 => 180 | 2 => 185 | _ => 190
def enRemark (e : Nat) : Nat := match e with | 0 => 167 | 1 => 182 | 2 => 187 | _ => 192
def enReset (e : Nat) : Nat := match e with | 0 => 169 | 1 => 184 | 2 => 189 | _ => 194
def enRescans (e : Nat) : Nat := match e with | 0 => 168 | 1 => 183 | 2 => 188 | _ => 193
def enV (e bt : Nat) : Value := .iface (enT e) (.pointer (some ⟨bt, 0, none⟩))
/-- What they do to colours, and to what the barrier knows. -/
def preC (e : Nat) (c : Col) (o : Int) : Col := match e with | 2 => c.shadeZ o | _ => c
def postC (e : Nat) (c : Col) (o y : Int) (q : Bool) : Col := match e with | 1 => c.shadeZ y | 2 => (c.shadeZ o).shadeZ (if q then y else 0) | _ => c
def postS (e P : Nat) (σ : EnS) (x o y : Int) (p : Bool) : EnS := match e with | 0 => { σ with D := dirtyS P σ.D x } | 1 => σ | 2 => σ | _ => { σ with cnt := vyPost σ.cnt p y o, lg := vyLg σ.lg p y }
def remC (e : Nat) (c : Col) (σ : EnS) : Col := match e with | 0 => c.rem σ.D | 1 => c | 2 => c | _ => vyCol c σ.cnt
def remS (e : Nat) (σ : EnS) : EnS := match e with | 0 => { σ with D := fun _ => false } | _ => σ
def resetS (e : Nat) (σ : EnS) : EnS := match e with | 0 => { σ with D := fun _ => false } | 1 => σ | 2 => σ | _ => { σ with cnt := fun _ => 0, lg := 0 }
section
variable {e B mb n bt tm room : Nat} {X : ArB} {s : ArS} {obs : List Ob} {vl : Value} {f : Int → Value} {adj : Int → List Int} {E E' H : Nat → Prop} {T T' : MkB} {c c' : Col} {σ σ' : EnS} {wb wr w' : World}
theorem EnIn.pre (h : EnIn e B mb n X s obs vl f adj E T c H bt tm room σ wb wr) (he : e ≤ 3) (x o : Int) (ho : o ∈ refsI obs ∨ o = 0) (hb : ∀ y ∈ refsI obs, 1 ≤ y ∧ y ≤ 2048) :
    Calls Tryz.prog (enPre e) #[.pointer (some ⟨bt, 0, none⟩), .int .i64 x, .int .i64 o] wr fun en w' =>
      en = .returned (.tuple #[]) ∧ ∃ T' H', EnIn e B mb n X s obs vl f adj E T' (preC e c o) H' bt tm room σ wb w' ∧ ∀ k, E k → w'.heap[k]? = wr.heap[k]? := by
  rcases (show e = 0 ∨ e = 1 ∨ e = 2 ∨ e = 3 by omega) with rfl | rfl | rfl | rfl
  · obtain ⟨Z, h1, h2, h3⟩ := h.st
    have hc := h3.pre x o
    rw [h1] at hc
    refine hc.mono ?_
    rintro en w1 ⟨rfl, rfl⟩
    exact ⟨rfl, T, H, h, fun _ _ => rfl⟩
  · refine (dj_pre bt x o wr).mono ?_
    rintro en w1 ⟨rfl, rfl⟩
    exact ⟨rfl, T, H, h, fun _ _ => rfl⟩
  · obtain ⟨h1, h2, h3⟩ := h.yu
    refine (yu_pre h1 x o ho hb).mono ?_
    rintro en w1 ⟨rfl, T', h4, h5⟩
    exact ⟨rfl, T', _, EnIn.ofYu h4 h2, h5⟩
  · refine (vy_pre bt x o wr).mono ?_
    rintro en w1 ⟨rfl, rfl⟩
    exact ⟨rfl, T, H, h, fun _ _ => rfl⟩
theorem EnIn.rescans (h : EnIn e B mb n X s obs vl f adj E T c H bt tm room σ wb wr) (he : e ≤ 3) (q : Bool) (hq : decide (e ≠ 2) = q) :
    Calls Tryz.prog (enRescans e) #[.pointer (some ⟨bt, 0, none⟩)] wr fun en w' => en = .returned (.bool q) ∧ wr = w' := by
  rcases (show e = 0 ∨ e = 1 ∨ e = 2 ∨ e = 3 by omega) with rfl | rfl | rfl | rfl
  · obtain ⟨Z, h1, h2, h3⟩ := h.st
    have hc := h3.rescans
    rw [h1] at hc
    obtain rfl : true = q := hq
    exact hc
  · obtain rfl : true = q := hq
    exact dj_rescans bt wr
  · obtain rfl : false = q := hq
    exact yu_rescans bt wr
  · obtain rfl : true = q := hq
    exact vy_rescans bt wr
theorem EnIn.post (h : EnIn e B mb n X s obs vl f adj E T c H bt tm room σ wb wr) (he : e ≤ 3) (x o y : Int) (p q : Bool) (ho : o ∈ refsI obs ∨ o = 0) (hy : y ∈ refsI obs ∨ y = 0) (hb : ∀ y ∈ refsI obs, 1 ≤ y ∧ y ≤ 2048) (hl : σ.lg ≤ 4096) :
    Calls Tryz.prog (enPost e) #[.pointer (some ⟨bt, 0, none⟩), .agg #[.int .i64 x, .int .i64 o, .int .i64 y, .bool p, .bool q]] wr fun en w' =>
      en = .returned (.tuple #[]) ∧ ∃ T' H', EnIn e B mb n X s obs vl f adj E T' (postC e c o y q) H' bt tm room (postS e s.P σ x o y p) wb w' ∧ ∀ k, E k → w'.heap[k]? = wr.heap[k]? := by
  rcases (show e = 0 ∨ e = 1 ∨ e = 2 ∨ e = 3 by omega) with rfl | rfl | rfl | rfl
  · obtain ⟨Z, h1, h2, h3⟩ := h.st
    have hc := h3.post x o y p q
    rw [h1] at hc
    refine hc.mono ?_
    rintro en w1 ⟨rfl, Z', h4, h5, h6⟩
    exact ⟨rfl, T, _, EnIn.ofSt (σ := { σ with D := dirtyS s.P σ.D x }) h5 h4 h.tm, h6⟩
  · obtain ⟨h1, h2, h3⟩ := h.dj
    refine (dj_post h1 x o y p q hy hb).mono ?_
    rintro en w1 ⟨rfl, T', h4, h5⟩
    exact ⟨rfl, T', _, EnIn.ofDj h4 h2, h5⟩
  · obtain ⟨h1, h2, h3⟩ := h.yu
    refine (yu_post h1 x o y p q ho hy hb).mono ?_
    rintro en w1 ⟨rfl, T', h4, h5⟩
    exact ⟨rfl, T', _, EnIn.ofYu h4 h2, h5⟩
  · refine (vy_post h.vy x o y p q ho hy hb hl).mono ?_
    rintro en w1 ⟨rfl, h4, h5⟩
    obtain ⟨H', h6⟩ := EnIn.ofVy (σ := { σ with cnt := vyPost σ.cnt p y o, lg := vyLg σ.lg p y }) h4
    exact ⟨rfl, T, H', h6, h5⟩
theorem EnIn.remark (h : EnIn e B mb n X s obs vl f adj E T c H bt tm room σ wb wr) (he : e ≤ 3) :
    Calls Tryz.prog (enRemark e) #[.pointer (some ⟨bt, 0, none⟩)] wr fun en w' =>
      en = .returned (.tuple #[]) ∧ ∃ T' H', EnIn e B mb n X s obs vl f adj E T' (remC e c σ) H' bt tm room (remS e σ) wb w' ∧ ∀ k, E k → w'.heap[k]? = wr.heap[k]? := by
  rcases (show e = 0 ∨ e = 1 ∨ e = 2 ∨ e = 3 by omega) with rfl | rfl | rfl | rfl
  · obtain ⟨Z, h1, h2, h3⟩ := h.st
    have hc := h3.remark
    rw [h1] at hc
    refine hc.mono ?_
    rintro en w1 ⟨rfl, T', Z', hm, h4, h5, h6⟩
    exact ⟨rfl, T', _, EnIn.ofSt (σ := { σ with D := fun _ => false }) h5 h4 (hm.trans h.tm), h6⟩
  · refine (dj_remark bt wr).mono ?_
    rintro en w1 ⟨rfl, rfl⟩
    exact ⟨rfl, T, H, h, fun _ _ => rfl⟩
  · refine (yu_remark bt wr).mono ?_
    rintro en w1 ⟨rfl, rfl⟩
    exact ⟨rfl, T, H, h, fun _ _ => rfl⟩
  · refine (vy_remark h.vy).mono ?_
    rintro en w1 ⟨rfl, T', h4, h5⟩
    obtain ⟨H', h6⟩ := EnIn.ofVy h4
    exact ⟨rfl, T', H', h6, h5⟩
theorem EnIn.reset (h : EnIn e B mb n X s obs vl f adj E T c H bt tm room σ wb wr) (he : e ≤ 3) :
    Calls Tryz.prog (enReset e) #[.pointer (some ⟨bt, 0, none⟩)] wr fun en w' =>
      en = .returned (.tuple #[]) ∧ ∃ H', EnIn e B mb n X s obs vl f adj E T c H' bt tm room (resetS e σ) wb w' ∧ ∀ k, E k → w'.heap[k]? = wr.heap[k]? := by
  rcases (show e = 0 ∨ e = 1 ∨ e = 2 ∨ e = 3 by omega) with rfl | rfl | rfl | rfl
  · obtain ⟨Z, h1, h2, h3⟩ := h.st
    have hc := h3.reset
    rw [h1] at hc
    refine hc.mono ?_
    rintro en w1 ⟨rfl, h5, h6⟩
    exact ⟨rfl, _, EnIn.ofSt (σ := { σ with D := fun _ => false }) h5 h1 h.tm, h6⟩
  · refine (dj_reset bt wr).mono ?_
    rintro en w1 ⟨rfl, rfl⟩
    exact ⟨rfl, H, h, fun _ _ => rfl⟩
  · refine (yu_reset bt wr).mono ?_
    rintro en w1 ⟨rfl, rfl⟩
    exact ⟨rfl, H, h, fun _ _ => rfl⟩
  · refine (vy_reset h.vy).mono ?_
    rintro en w1 ⟨rfl, h4, h5⟩
    obtain ⟨H', h6⟩ := EnIn.ofVy (σ := { σ with cnt := fun _ => 0, lg := 0 }) h4
    exact ⟨rfl, H', h6, h5⟩
/-- A field is set, beside it all. -/
theorem EnIn.setField (h : EnIn e B mb n X s obs vl f adj E T c H bt tm room σ wb wr) {i j : Nat} {x : Ob} (hx : obs[i]? = some x) (hj : j < x.k) (y : Int) (hE : ∀ k, (E k ∨ H k) → ¬ X.has k) :
    Calls Tryz.prog 36 #[.pointer (some ⟨X.a, 0, none⟩), .int .i64 (x.r : Int), .int .i64 (j : Int), .int .i64 y] wr fun en w' =>
      en = .returned (.int .i64 0) ∧ ∃ lo, EnIn e B mb n (X.with lo) (s.setW (x.r : Int) (2 + (j : Int)) y) (obs.set i { x with F := Go.Proofs.YtooddbhlanjfbaaGreatDoor.upd x.F j y }) vl f adj E T c H bt tm room σ wb w' ∧ (∀ k, E k → w'.heap[k]? = wr.heap[k]?) ∧ ∀ k, (E k ∨ H k) → ¬ (X.with lo).has k := by
  refine (h.gm.setField hx hj y hE).mono ?_
  rintro en w1 ⟨rfl, lo, hG, hk, hf⟩
  refine ⟨rfl, lo, ⟨hG, ?_, h.tm, fun k e => ⟨(h.own k e).1, fun e2 => ?_, (h.own k e).2.2⟩⟩, fun k e => hk k (.inl e), hf⟩
  · rw [setW_P, refsI_set (x := { x with F := Go.Proofs.YtooddbhlanjfbaaGreatDoor.upd x.F j y }) hx rfl]
    exact h.en.keep fun k e => hk k (.inr e)
  · rcases e2 with e2 | e2
    · exact hf k (.inr e) e2
    · exact (h.own k e).2.1 (.inr e2)
end
end Go.Proofs.YtooddbhlanjfbaaGreatDoor
