/-
  A loop over a function that keeps a list of its own: what the loop's body and the function owe each other. The function's own blocks are told by O; the body leaves them as they are, and what the body holds abides the function's work on them.
-/
import Derived.RangeFuncNested
import Derived.RangeFuncBound
import Derived.RangeFuncCalls
import Derived.RangeFuncLeaves
import Derived.WalkKit
import Derived.OwnWalkIn
import Derived.TacticsInMore
import Derived.LoopNIn
import Derived.LoopIn
import Derived.Deep.LoopGhost
namespace Go.Proofs.YtkenananejgcpaaGreatDoor.Jsn
open Go.RowKit
/-- What is still to be told: where it lies, and how deep. -/
abbrev It := Addr × Nat
abbrev Blocks := Nat → Prop
/-- These blocks, and those that were laid since. -/
def Blocks.plus (O : Blocks) (W W' : World) : Blocks := fun k => O k ∨ (W.heap.size ≤ k ∧ k < W'.heap.size)
/-- It abides work on the blocks O and new ones. -/
def Abide (J : Blocks → World → Prop) : Prop :=
  ∀ O W W' row, J O W → W.grownBy W' row → (∀ g, row = some g → O g) → J (O.plus W W') W'
/-- The blocks O lie as they lay. -/
structure KeepO (O : Blocks) (W W' : World) : Prop where
  size : W.heap.size ≤ W'.heap.size
  same : ∀ k, O k → k < W.heap.size → W'.heap[k]? = W.heap[k]?
theorem KeepO.refl (O : Blocks) (W : World) : KeepO O W W := ⟨Nat.le_refl _, fun _ _ _ => rfl⟩
theorem KeepO.trans {O : Blocks} {A B C : World} (h : KeepO O A B) (k : KeepO O B C) : KeepO O A C := ⟨Nat.le_trans h.size k.size, fun i hi hl => (k.same i hi (Nat.lt_of_lt_of_le hl h.size)).trans (h.same i hi hl)⟩
theorem KeepO.less {O O' : Blocks} {A B : World} (h : KeepO O A B) (hs : ∀ k, O' k → O k) : KeepO O' A B := ⟨h.size, fun k hk hl => h.same k (hs k hk) hl⟩
theorem KeepO.below {O : Blocks} {B : Nat} {W W' : World} (h : Below B W W') (hO : ∀ k, O k → k < W.heap.size → k < B) : KeepO O W W' := ⟨h.size, fun k hk hl => h.block k (hO k hk hl)⟩
theorem plus_self (O : Blocks) (W W' : World) (h : W'.heap.size = W.heap.size) : O.plus W W' = O := by
  funext k
  apply propext
  unfold Blocks.plus
  rw [h]
  exact ⟨fun e => e.elim id (fun e => absurd e.2 (by omega)), .inl⟩
theorem Abide.put {J : Blocks → World → Prop} (h : Abide J) {O : Blocks} {W : World} {l : Nat} (o : Obj) (hJ : J O W) (hO : O l) : J O (W.putObj l o) := by
  have := h O W _ (some l) hJ (grownBy_putObj' W l o) (fun g e => by cases e; exact hO)
  rwa [plus_self _ _ _ (by simp [World.putObj])] at this
theorem Abide.laid {J : Blocks → World → Prop} (h : Abide J) {O : Blocks} {W : World} (o : Obj) (hJ : J O W) : J (O.plus W (W.alloc o)) (W.alloc o) :=
  h O W _ none hJ (World.grownBy_alloc W o none) (fun g e => by cases e)
/-- What a round says to the function: go on, then the values inside are these; or no more. -/
structure Fields (x : Addr) (W : World) (k : Int) (A : Option Addr) (na ca : Nat) (B : Option Addr) (nb cb : Nat) : Prop where
  kind : W.cell? x = some (.int .i64 k)
  list : W.cell? (x.add 3) = some (.slice A na ca)
  mem : W.cell? (x.add 4) = some (.slice B nb cb)
theorem Fields.put {x : Addr} {W : World} {k : Int} {A : Option Addr} {na ca : Nat} {B : Option Addr} {nb cb : Nat} (h : Fields x W k A na ca B nb cb) {l : Nat} {o : Obj} (hl : W.heap[l]? = some o) (ho : o.isCells = false) (o' : Obj) : Fields x (W.putObj l o') k A na ca B nb cb := by
  have hk : ∀ {a : Addr} {v : Value}, W.cell? a = some v → (W.putObj l o').cell? a = some v := fun {a v} hv => cell_kept hv (grownBy_putObj' W l o') (fun r e => by cases e; exact ⟨o, hl, ho⟩)
  exact ⟨hk h.kind, hk h.list, hk h.mem⟩
/-- How many values are told of a list, and of members. -/
def fromList (all : Bool) (k : Int) (n : Nat) : Nat := if all || k == 5 then n else 0
def fromMem (all : Bool) (k : Int) (n : Nat) : Nat := if all || k == 6 then n else 0
def kidsL (A : Option Addr) (n d : Nat) : List It := (List.range n).map fun i => ((A.getD default).add (i * 5), d)
def kidsM (B : Option Addr) (n d : Nat) : List It := (List.range n).map fun i => ((B.getD default).add (i * 6 + 1), d)
def Said (all : Bool) (J : Nat → List It → Blocks → World → Prop) (Jx : Blocks → World → Prop) (m : Nat) (st : List It) (x : It) (O : Blocks) (W : World) (e : Ending) (W' : World) : Prop :=
  (e = .returned (.bool true) ∧ KeepO O W W' ∧ ∃ (k : Int) (A : Option Addr) (na ca : Nat) (B : Option Addr) (nb cb : Nat) (m' : Nat), m' < m ∧ (0 < na → A.isSome = true) ∧ (0 < nb → B.isSome = true) ∧ na + nb + st.length ≤ 100000 ∧ x.2 ≤ 100000 ∧
    Fields x.1 W' k A na ca B nb cb ∧
    J m' (st ++ kidsL A (fromList all k na) (x.2 + 1) ++ kidsM B (fromMem all k nb) (x.2 + 1)) O W') ∨
  (e = .returned (.bool false) ∧ Jx O W')
/-- The function's word. -/
def IterC (F : Fence) (n : Nat) (P : Program) (gf : Nat) (lb : Array Value) (all : Bool) (O0 : Blocks) (w : World) (x0 : It) : Prop :=
  ∀ (l : Nat) (J : Nat → List It → Blocks → World → Prop) (Jx : Blocks → World → Prop), (∀ m st, Abide (J m st)) → Abide Jx →
    (∀ m st x O W, J m (st ++ [x]) O W → YieldAt F (n - 1) P l #[.pointer (some x.1), .int .i64 x.2] W (Said all J Jx m st x O W)) →
    ∀ m O W, (∀ k, O0 k → O k) → KeepO O0 w W → J m [x0] O W →
    CallsIn F n P gf (#[.func (.yield l) #[] #[]] ++ lb) W fun e W' => (∃ v, e = .returned v) ∧ ((∃ m O', J m [] O' W') ∨ (∃ O', Jx O' W'))
/-- How the body of a round may be left. -/
def bodyEnds (all : Bool) (J : Nat → List It → Blocks → World → Prop) (Jx : Code → Blocks → World → Prop) (m : Nat) (st : List It) (x : It) (O : Blocks) (W : World) : Exit → Act → World → Prop
  | .normal, _, W' => Said all J (fun _ _ => False) m st x O W (.returned (.bool true)) W'
  | .ret, _, W' => KeepO O W W' ∧ Jx .ret O W'
  | _, _, _ => False
theorem keep_at {O : Blocks} {W W' : World} {k : Nat} {o : Obj} (h : KeepO O W W') (hO : O k) (hk : W.heap[k]? = some o) : W'.heap[k]? = some o :=
  (h.same k hO (Array.getElem?_eq_some_iff.1 hk).1).trans hk
variable {F : Fence} {n : Nat} {P : Program}
/-- The loop's law. -/
theorem range_walk {g : Operand} {ps : Array Tmp} {assign body : Code} {Q : Exit → Act → World → Prop} {a : Act} {w : World}
    (hro : F.round = none) (h1 : 1 ≤ n) {gf : Nat} {lb : Array Value} (hg : a.eval g = .func (.func gf) #[] lb) (hFg : F.fn gf) (eg : ∀ args w, (callFunc gf args).run P w = .ok (.enter gf args) w)
    (hps : ps.size = 2) (all : Bool) (O0 : Blocks) (x0 : It) (hseq : IterC F (n - 1) P gf lb all O0 w x0) (hO0 : ∀ k, O0 k → k < w.heap.size)
    (J : Nat → List It → Blocks → World → Prop) (Jx : Code → Blocks → World → Prop) (hJ : ∀ m st, Abide (J m st)) (hJx : ∀ c, Abide (Jx c)) (m0 : Nat) (h0 : J m0 [x0] O0 w) (a₁ : It → Act)
    (hassign : ∀ (l : Nat) (x : It) (W : World) (K : Act → World → Prop), K (a₁ x) W →
      assign.wpIn (F.inRound l) (n - 1 - 1) P (Exit.then K (fun _ _ _ => False)) { tmps := (ps.zip #[.pointer (some x.1), .int .i64 x.2]).foldl (fun t (p, v) => t.setIfInBounds p v) a.tmps, defers := [] } W)
    (hbody : ∀ (l m : Nat) (st : List It) (x : It) (O : Blocks) (W : World), J m (st ++ [x]) O W → body.wpIn (F.inRound l) (n - 1 - 1) P (bodyEnds all J Jx m st x O W) (a₁ x) W)
    (hdone : ∀ (D m : Nat) (O : Blocks) (W : World), O D → J m [] O W → W.heap[D]? = some (.deferred (some [])) → Q .normal { a with defers := { target := .collected D, args := #[] } :: a.defers } W)
    (hstop : ∀ (D : Nat) (O : Blocks) (W : World), O D → Jx .ret O W → W.heap[D]? = some (.deferred (some [])) → Code.ret.wpIn F n P Q { a with defers := { target := .collected D, args := #[] } :: a.defers } W) :
    (Code.rangeFunc g ps assign body).wpIn F n P Q a w := by
  refine wpIn_rangeFunc ?_
  intro fn hfn
  rw [hro]
  generalize hD : w.heap.size = D
  have hl : ∃ l, l = D + 1 := ⟨_, rfl⟩
  obtain ⟨l, hl⟩ := hl
  obtain ⟨R, hR⟩ : ∃ R : LoopState → Option Code → Loop, R = fun st pe => { state := st, pending := pe, fn, tmps := a.tmps, params := ps, assign, body, defers := D } := ⟨_, rfl⟩
  obtain ⟨W1, hW1⟩ : ∃ W1, W1 = (w.alloc (.deferred (some []))).alloc (.loop (R .ready none)) := ⟨_, rfl⟩
  have fD : W1.heap[D]? = some (.deferred (some [])) := by rw [hW1, ← hD]; exact (Below.heap_alloc _ _ _ (by simp)).trans (World.alloc_heap_new w _)
  have fl : W1.heap[l]? = some (.loop (R .ready none)) := by
    have := World.alloc_heap_new (w.alloc (.deferred (some []))) (.loop (R .ready none))
    rw [World.size_alloc, hD] at this
    rw [hW1, hl]; exact this
  -- the loop's two blocks belong to nobody else
  obtain ⟨O1, hO1⟩ : ∃ O1 : Blocks → Blocks, O1 = fun O k => O k ∨ k = l ∨ k = D := ⟨_, rfl⟩
  obtain ⟨J', hJ'⟩ : ∃ J' : Nat → List It → Blocks → World → Prop, J' = fun m st O W => J m st (O1 O) W ∧ ¬ O l ∧ ¬ O D ∧ W.heap[l]? = some (.loop (R .ready none)) ∧ W.heap[D]? = some (.deferred (some [])) := ⟨_, rfl⟩
  obtain ⟨Jx', hJx'⟩ : ∃ Jx' : Blocks → World → Prop, Jx' = fun O W => Jx .ret (O1 O) W ∧ ¬ O l ∧ ¬ O D ∧ W.heap[l]? = some (.loop (R .done (some .ret))) ∧ W.heap[D]? = some (.deferred (some [])) := ⟨_, rfl⟩
  have hgrow : ∀ {O : Blocks} {W W' : World} {row : Option Nat} {o o' : Obj}, ¬ O l → ¬ O D → W.heap[l]? = some o → W.heap[D]? = some o' → W.grownBy W' row → (∀ g, row = some g → O g) →
      O1 (O.plus W W') = (O1 O).plus W W' ∧ ¬ (O.plus W W') l ∧ ¬ (O.plus W W') D ∧ W'.heap[l]? = some o ∧ W'.heap[D]? = some o' := by
    intro O W W' row o o' n1 n2 e1 e2 hgr hrow
    have l1 := (Array.getElem?_eq_some_iff.1 e1).1
    have l2 := (Array.getElem?_eq_some_iff.1 e2).1
    refine ⟨?_, ?_, ?_, (hgr.block l l1 (fun e => n1 (hrow l e.symm))).trans e1, (hgr.block D l2 (fun e => n2 (hrow D e.symm))).trans e2⟩
    · funext k
      apply propext
      rw [hO1]
      unfold Blocks.plus
      constructor
      · rintro ((h | h) | h | h)
        · exact .inl (.inl h)
        · exact .inr h
        · exact .inl (.inr (.inl h))
        · exact .inl (.inr (.inr h))
      · rintro ((h | h | h) | h)
        · exact .inl (.inl h)
        · exact .inr (.inl h)
        · exact .inr (.inr h)
        · exact .inl (.inr h)
    · rintro (h | h)
      · exact n1 h
      · omega
    · rintro (h | h)
      · exact n2 h
      · omega
  have hin : ∀ (O : Blocks), O1 O l ∧ O1 O D := fun O => by rw [hO1]; exact ⟨.inr (.inl rfl), .inr (.inr rfl)⟩
  have hrow1 : ∀ {O : Blocks} {row : Option Nat}, (∀ g, row = some g → O g) → ∀ g, row = some g → O1 O g := fun h g e => by rw [hO1]; exact .inl (h g e)
  refine ⟨l, [{ target := .collected D, args := #[] }], W1, { target := .fn (.func gf) lb, args := #[.func (.yield l) #[] #[]] }, W1, gf, #[.func (.yield l) #[] #[]] ++ lb, W1, ?_, ?_, ?_, ?_, fun _ => h1, ?_⟩
  · rw [run_enterLoop_outer, hW1, hR, hl, hD]
  · simp only [resolve, hg]
    simp [go_sem]
  · intro f' hf'
    simp [Target.leads] at hf'
    subst hf'
    exact hFg
  · simp [invoke, go_sem, eg]
  · have hstart : J' m0 [x0] O0 W1 := by
      rw [hJ']
      refine ⟨?_, fun h => ?_, fun h => ?_, fl, fD⟩
      · have s1 := (hJ m0 [x0]).laid (.deferred (some [])) h0
        have s2 := (hJ m0 [x0]).laid (.loop (R .ready none)) s1
        rw [← hW1] at s2
        have e : (O0.plus w (w.alloc (.deferred (some [])))).plus (w.alloc (.deferred (some []))) W1 = O1 O0 := by
          funext k
          apply propext
          rw [hO1, hW1]
          unfold Blocks.plus
          simp only [World.size_alloc, hD]
          constructor
          · rintro ((h | h) | h)
            · exact .inl h
            · exact .inr (.inr (by omega))
            · exact .inr (.inl (by omega))
          · rintro (h | h | h)
            · exact .inl (.inl h)
            · exact .inr (by omega)
            · exact .inl (.inr (by omega))
        rw [e] at s2
        exact s2
      · have := hO0 _ h; omega
      · have := hO0 _ h; omega
    have hk1 : KeepO O0 w W1 := by
      rw [hW1]
      exact ⟨by simp only [World.size_alloc]; omega, fun k hk hl => (Below.heap_alloc _ _ _ (by simp only [World.size_alloc]; omega)).trans (Below.heap_alloc _ _ _ hl)⟩
    refine (hseq l J' Jx' ?_ ?_ ?_ m0 O0 W1 (fun _ h => h) hk1 hstart).mono ?_
    · intro m st O W W' row h hgr hrow
      rw [hJ'] at h ⊢
      obtain ⟨hj, n1, n2, e1, e2⟩ := h
      obtain ⟨q1, q2, q3, q4, q5⟩ := hgrow n1 n2 e1 e2 hgr hrow
      exact ⟨by rw [q1]; exact hJ m st _ _ _ _ hj hgr (hrow1 hrow), q2, q3, q4, q5⟩
    · intro O W W' row h hgr hrow
      rw [hJx'] at h ⊢
      obtain ⟨hj, n1, n2, e1, e2⟩ := h
      obtain ⟨q1, q2, q3, q4, q5⟩ := hgrow n1 n2 e1 e2 hgr hrow
      exact ⟨by rw [q1]; exact hJx .ret _ _ _ _ hj hgr (hrow1 hrow), q2, q3, q4, q5⟩
    · -- one round
      intro m st x O W h
      have h' := h
      rw [hJ'] at h'
      obtain ⟨hj, n1, n2, e1, e2⟩ := h'
      have lt1 := (Array.getElem?_eq_some_iff.1 e1).1
      have hy := run_yield (P := P) (args := #[.pointer (some x.1), .int .i64 x.2]) e1 (by rw [hR, hps]; rfl)
      rw [hR] at hy
      refine ⟨fn, _, assign, body, hy, roundIn_of_wpIn hfn (hassign _ x W _ ⟨_, run_beginRound e1 (by rw [hR]), ?_⟩)⟩
      obtain ⟨Wb, hWb⟩ : ∃ Wb, Wb = W.putObj l (.loop { R .ready none with state := .busy }) := ⟨_, rfl⟩
      rw [← hWb]
      have b1 : Wb.heap[l]? = some (.loop { R .ready none with state := .busy }) := by rw [hWb]; exact World.putObj_heap_same lt1
      have b2 : Wb.heap[D]? = some (.deferred (some [])) := by rw [hWb]; exact (World.putObj_heap_other (by omega)).trans e2
      have bs : Wb.heap.size = W.heap.size := by rw [hWb]; simp [World.putObj]
      have bk : ∀ k, k ≠ l → Wb.heap[k]? = W.heap[k]? := fun k hk => by rw [hWb]; exact World.putObj_heap_other hk
      have hjb : J m (st ++ [x]) (O1 O) Wb := by rw [hWb]; exact (hJ _ _).put _ hj (hin O).1
      refine wpIn_mono (hbody l m st x (O1 O) Wb hjb) ?_
      have hend : ∀ (jump : Option Code) (W3 : World), KeepO (O1 O) Wb W3 →
          (Instr.endRound l jump).run P W3 = .ok (.bool jump.isNone) (W3.putObj l (.loop (R (if jump.isNone then .ready else .done) jump))) ∧
          (W3.putObj l (.loop (R (if jump.isNone then .ready else .done) jump))).heap[l]? = some (.loop (R (if jump.isNone then .ready else .done) jump)) ∧
          (W3.putObj l (.loop (R (if jump.isNone then .ready else .done) jump))).heap[D]? = some (.deferred (some [])) ∧
          KeepO O W (W3.putObj l (.loop (R (if jump.isNone then .ready else .done) jump))) := by
        intro jump W3 hk
        have c1 := keep_at hk (hin O).1 b1
        have c2 := keep_at hk (hin O).2 b2
        have hr := run_endRound (P := P) jump c1
        refine ⟨by rw [hr, hR], World.putObj_heap_same (Array.getElem?_eq_some_iff.1 c1).1, (World.putObj_heap_other (by omega)).trans c2, ?_, ?_⟩
        · have := hk.size
          rw [bs] at this
          simpa [World.putObj] using this
        · intro k hO hlt
          have hkl : k ≠ l := fun e => n1 (e ▸ hO)
          rw [World.putObj_heap_other hkl, hk.same k (by rw [hO1]; exact .inl hO) (by omega), bk k hkl]
      rintro e a3 W3 hp
      cases e with
      | normal =>
        rcases hp with ⟨_, hk, k, A, na, ca, B, nb, cb, m', hm, i1, i2, i3, i4, hc, hj3⟩ | ⟨e, _⟩
        · obtain ⟨r1, r2, r3, r4⟩ := hend none W3 hk
          refine ⟨_, _, r1, .inl ⟨rfl, r4, k, A, na, ca, B, nb, cb, m', hm, i1, i2, i3, i4, hc.put (keep_at hk (hin O).1 b1) rfl _, ?_⟩⟩
          · rw [hJ']
            exact ⟨(hJ _ _).put _ hj3 (hin O).1, n1, n2, r2, r3⟩
        · cases e
      | ret =>
        obtain ⟨hk, hj3⟩ := hp
        obtain ⟨r1, r2, r3, r4⟩ := hend (some .ret) W3 hk
        refine ⟨_, _, r1, .inr ⟨rfl, ?_⟩⟩
        rw [hJx']
        exact ⟨(hJx _).put _ hj3 (hin O).1, n1, n2, r2, r3⟩
      | exit id => exact hp.elim
      | goto t => exact hp.elim
      | panic ch => exact hp.elim
      | outgrown => exact hp.elim
    · -- behind the function
      rintro e W2 ⟨⟨v, rfl⟩, (⟨m, O, h⟩ | ⟨O, h⟩)⟩
      · rw [hJ'] at h
        obtain ⟨hj, n1, n2, e1, e2⟩ := h
        refine ⟨none, _, by have := run_endLoop (P := P) e1 (by rw [hR]; simp); rw [hR] at this; exact this, hdone D m (O1 O) _ (hin O).2 ((hJ _ _).put _ hj (hin O).1) ((World.putObj_heap_other (by omega)).trans e2)⟩
      · rw [hJx'] at h
        obtain ⟨hj, n1, n2, e1, e2⟩ := h
        exact ⟨some .ret, _, by have := run_endLoop (P := P) e1 (by rw [hR]; simp); rw [hR] at this; exact this, hstop D (O1 O) _ (hin O).2 ((hJx _).put _ hj (hin O).1) ((World.putObj_heap_other (by omega)).trans e2)⟩
end Go.Proofs.YtkenananejgcpaaGreatDoor.Jsn
