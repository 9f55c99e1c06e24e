/-
  Depth: the depth of a value.
-/
import Derived.Test.YtkenananejgcpaaGreatDoorJStk
namespace Go.Proofs.YtkenananejgcpaaGreatDoor.Jsn
open Go.RowKit Txt
attribute [local go_sem] Oper.semAt_some
def maxL (l : List Nat) : Nat := l.foldr max 0
theorem maxL_append (l m : List Nat) : maxL (l ++ m) = max (maxL l) (maxL m) := by
  induction l with
  | nil => simp [maxL]
  | cons x l ih => simp only [maxL, List.cons_append, List.foldr_cons] at *; rw [ih]; omega
def V.depth (v : V) : Nat := 1 + maxL ((v.kids false).attach.map fun x => x.1.depth)
termination_by v.size
decreasing_by exact V.mem_kids x.2
theorem V.depth_eq (v : V) : v.depth = 1 + maxL ((v.kids false).map V.depth) := by
  rw [V.depth]
  congr 2
  exact List.attach_map_val
/-- How deep a value on the list goes. -/
def deep (s : It × V) : Nat := s.1.2 - 1 + s.2.depth
theorem deep_kids {A B : Option Addr} {x : It} {t : V} (h : 1 ≤ x.2) : deep (x, t) = max x.2 (maxL ((kidsV A B (x.2 + 1) false t).map deep)) := by
  unfold deep
  simp only
  rw [t.depth_eq]
  have e : ∀ (l : List (It × V)), (∀ s ∈ l, s.1.2 = x.2 + 1) → max x.2 (maxL (l.map deep)) = x.2 + maxL ((l.map Prod.snd).map V.depth) := by
    intro l
    induction l with
    | nil => intro _; simp [maxL]
    | cons s l ih =>
      intro hl
      have h1 := hl s (by simp)
      have h2 := ih (fun s' hs => hl s' (by simp [hs]))
      simp only [maxL, List.map_cons, List.foldr_cons] at *
      unfold deep at *
      rw [h1]
      omega
  have := e _ (kidsV_deep A B (x.2 + 1) false t)
  rw [kidsV_snd] at this
  unfold deep at this
  rw [this]
  omega
/-- What holds between two rounds: g is the greatest so far. -/
structure DJ (W0 : World) (T : V) (bg n2 : Nat) (m : Nat) (st : List It) (O : Blocks) (W : World) : Prop where
  stk : ∃ ss g, Stk W0 T m st ss ∧ max g (maxL (ss.map deep)) = T.depth ∧ W.cell? ⟨bg, 0, none⟩ = some (.int .i64 (g : Nat)) ∧ g ≤ T.size
  blk : ∃ v, W.heap[bg]? = some (.cells #[v] 3 (0, 0))
  own : ∀ k, O k → n2 ≤ k
  below : Below W0.heap.size W0 W
  big : n2 ≤ W.heap.size
theorem DJ.abide {W0 : World} {T : V} {bg n2 m : Nat} {st : List It} (h1 : W0.heap.size ≤ n2) (h2 : bg < n2) : Abide (DJ W0 T bg n2 m st) := by
  intro O W W' row h hg hr
  have hb : Below n2 W W' := ⟨hg.os, hg.tape, hg.output, hg.size, fun k hk => hg.block k (by have := h.big; omega) (fun e => by have := h.own k (hr k e.symm); omega)⟩
  obtain ⟨ss, g, a1, a2, a3, a4⟩ := h.stk
  obtain ⟨v, hv⟩ := h.blk
  refine ⟨⟨ss, g, a1, a2, (hb.cell h2).trans a3, a4⟩, ⟨v, (hb.block bg h2).trans hv⟩, ?_, h.below.trans (hb.mono h1), Nat.le_trans h.big hg.size⟩
  rintro k (hk | hk)
  · exact h.own k hk
  · have := h.big; omega
set_option maxRecDepth 100000 in
set_option maxHeartbeats 2000000 in
theorem depth_any (v : V) (val : Value) (w : World) (hv : Holds w val v) (hsz : v.size ≤ 90000) :
    Calls Tryz.prog 21 #[val] w fun e w' => e = .returned (.int .i64 (v.depth : Nat)) ∧ Below w.heap.size w w' := by
  obtain ⟨A, ca, B, cb, rfl, hrest⟩ := id hv
  clear hrest
  have hbox := hv.box 27
  clear hv
  refine (callsIn_wide (n := 3)).1 ?_
  refine callsIn_of_wp_marks Tryz.func21 rfl trivial ?_ rfl
  simp only [Tryz.ntmps21, List.size_toArray, List.length_cons, List.length_nil, Nat.reduceAdd, Nat.reduceSub, Array.replicate_succ, Array.replicate_zero, List.push_toArray, List.append_toArray, List.nil_append, List.cons_append]
  gi_wp2_with (refine ⟨trivial, ?_⟩; gi_at_call 27; refine (callsIn_wide.2 (walk_any _ _ _)).mono ?_; rintro e w' ⟨rfl, rfl⟩)
  obtain ⟨W0, hW0⟩ : ∃ W0, W0 = w.alloc (.cells #[.int .i64 v.kind, .bool v.yes, .string (mk v.text), .slice A v.list.length ca, .slice B v.mem.length cb] 27) := ⟨_, rfl⟩
  have s0 : W0.heap.size = w.heap.size + 1 := by rw [hW0]; simp
  have hbw : Below w.heap.size w W0 := by rw [hW0]; exact (Below.refl _ _).alloc (Nat.le_refl _) _
  rw [← hW0] at hbox ⊢
  clear hW0
  obtain ⟨W1, hW1⟩ : ∃ W1, W1 = ((W0.alloc (.cells #[.int .i64 0] 3)).alloc (.cells #[.pointer (some ⟨w.heap.size, 0, none⟩)] 65)).alloc (.cells #[.func (.func 28) #[] #[]] 66) := ⟨_, rfl⟩
  have s1 : W1.heap.size = w.heap.size + 4 := by rw [hW1]; simp [s0]
  have hb1 : Below W0.heap.size W0 W1 := by rw [hW1]; exact (((Below.refl _ _).alloc (Nat.le_refl _) _).alloc (by simp) _).alloc (by simp; omega) _
  have g0 : W1.heap[w.heap.size + 1]? = some (.cells #[.int .i64 0] 3 (0, 0)) := by
    rw [hW1, ← s0, Below.heap_alloc _ _ _ (by simp; omega), Below.heap_alloc _ _ _ (by simp)]; exact heap_alloc_new _ _
  have g1 : W1.heap[w.heap.size + 2]? = some (.cells #[.pointer (some ⟨w.heap.size, 0, none⟩)] 65 (0, 0)) := by
    have := heap_alloc_new (W0.alloc (.cells #[.int .i64 0] 3)) (.cells #[.pointer (some ⟨w.heap.size, 0, none⟩)] 65)
    simp only [World.size_alloc, s0] at this
    rw [hW1, Below.heap_alloc _ _ _ (by simp; omega)]; exact this
  have g2 : W1.heap[w.heap.size + 3]? = some (.cells #[.func (.func 28) #[] #[]] 66 (0, 0)) := by
    have := heap_alloc_new ((W0.alloc (.cells #[.int .i64 0] 3)).alloc (.cells #[.pointer (some ⟨w.heap.size, 0, none⟩)] 65)) (.cells #[.func (.func 28) #[] #[]] 66)
    simp only [World.size_alloc, s0] at this
    rw [hW1]; exact this
  rw [← hW1]
  clear hW1
  refine range_walk rfl (by decide) (gf := 46) (lb := #[.pointer (some ⟨w.heap.size + 2, 0, none⟩), .pointer (some ⟨w.heap.size + 3, 0, none⟩)]) rfl trivial (enters_of Tryz.func46 (by kernel_rfl) rfl) rfl false
    (fun k => k = w.heap.size + 2 ∨ k = w.heap.size + 3) (⟨w.heap.size, 0, none⟩, 1) (walk1 2 false 28 parts_ins (enters_of Tryz.func28 (by kernel_rfl) rfl) _ _ _ _ (cell_of_row _ _ 0 _ _ _ g1) (cell_of_row _ _ 0 _ _ _ g2)) (by omega)
    (DJ W0 v (w.heap.size + 1) (w.heap.size + 2)) (fun _ _ _ => False) (fun m st => DJ.abide (by omega) (by omega)) (fun _ _ _ _ _ h _ _ => h) v.size
    ⟨⟨_, 0, Stk.start hbox, by simp [maxL, deep], cell_of_row _ _ 0 _ _ _ g0, Nat.zero_le _⟩, ⟨_, g0⟩, by omega, hb1, by omega⟩
    (fun x => { tmps := #[.agg #[.int .i64 v.kind, .bool v.yes, .string (mk v.text), .slice A v.list.length ca, .slice B v.mem.length cb], .pointer (some ⟨w.heap.size, 0, none⟩), .int .i64 0, .pointer (some ⟨w.heap.size + 1, 0, none⟩), undef, .int .i64 x.2,
      .func (.func 46) #[] #[.pointer (some ⟨w.heap.size + 2, 0, none⟩), .pointer (some ⟨w.heap.size + 3, 0, none⟩)], .pointer (some x.1), .int .i64 x.2, undef, undef, undef, undef], defers := [] }) ?assign ?body ?done ?stop
  case assign =>
    intro l x W K hK
    gi_wp2
    exact hK
  case body =>
    intro l m st x O W hJ
    obtain ⟨ss, g, hs, hmax, hc, hg⟩ := hJ.stk
    obtain ⟨v', hblk⟩ := hJ.blk
    have hf : W.frozen? ⟨w.heap.size + 1, 0, none⟩ = false := Lib.frozen_of_heap hblk 0
    have HJ := Lib.hid hJ
    have HS := Lib.hid hs
    have HM := Lib.hid hmax
    clear hJ hs hmax
    gi_wp2
    obtain ⟨ss', t, rfl, hr, hd, h1, A', ca', B', cb', hfl, hA, hB, hn, m', hm', hs'⟩ := HS.out.step false
    have hts := t.size_pos
    refine .inl ⟨rfl, ?_, t.kind, A', t.list.length, ca', B', t.mem.length, cb', m', hm', hA, hB, by omega, by omega, ?_, ?_⟩
    · exact ⟨by simp [World.setCell], fun k hk _ => Below.heap_setCell _ _ _ _ (by have := HJ.out.own k hk; simp; omega)⟩
    · exact hfl.kept (HJ.out.below.trans ((Below.refl _ W).setCell (p := ⟨w.heap.size + 1, 0, none⟩) (by rw [s0]; exact Nat.le_refl _) _)) (Nat.le_refl _)
    · refine ⟨⟨_, max g x.2, hs', ?_, ?_, by omega⟩, ⟨_, blk_set (show Blk W _ _ _ from hblk) 0 _⟩, HJ.out.own, HJ.out.below.trans ((Below.refl _ W).setCell (p := ⟨w.heap.size + 1, 0, none⟩) (by rw [s0]; exact Nat.le_refl _) _), by have := HJ.out.big; simpa [World.setCell] using this⟩
      · have := HM.out
        rw [List.map_append, maxL_append] at this ⊢
        rw [← this]
        simp only [List.map_cons, List.map_nil, maxL, List.foldr_cons, List.foldr_nil]
        rw [deep_kids (A := A') (B := B') h1]
        unfold maxL
        omega
      · rw [(blk_set (show Blk W _ _ _ from hblk) 0 _).cell 0]
        simp
        omega
  case done =>
    intro D m O W hO hJ hK
    obtain ⟨ss, g, hs, hmax, hc, hg⟩ := hJ.stk
    have he : ss = [] := by have := hs.items; simpa using this.symm
    subst he
    have HJ := Lib.hid hJ
    have HE : Hid (g = v.depth) := Lib.hid (by simpa [maxL] using hmax)
    clear hJ hs hmax
    gi_wp2
    refine ⟨by simp, .inl ⟨_, _, rfl, run_takeDeferred hK, ?_⟩⟩
    refine ⟨_, results_tmp rfl _ _ _, by rw [← HE.out]; rfl, ?_⟩
    have hb := HJ.out.below
    rw [s0] at hb
    have h2 := HJ.out.own D hO
    exact (hbw.trans (hb.mono (by omega))).grown (grownBy_putObj' W D _) (by have := HJ.out.big; omega) (fun k e => by cases e; omega)
  case stop =>
    intro D O W _ h
    exact h.elim
end Go.Proofs.YtkenananejgcpaaGreatDoor.Jsn
