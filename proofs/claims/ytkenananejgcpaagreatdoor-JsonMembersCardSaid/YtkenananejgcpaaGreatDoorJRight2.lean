/-
  Right of a whole value.
-/
import Derived.Test.YtkenananejgcpaaGreatDoorJRight
namespace Go.Proofs.YtkenananejgcpaaGreatDoor.Jsn
open Go.RowKit Txt Go.Maps
attribute [local go_sem] Oper.semAt_some
/-- A value is valid, as far as it hangs on itself. -/
def rightSelf (v : V) : Bool :=
  if foreign v = true then false else if v.kind = 1 ∨ v.kind = 2 ∨ v.kind = 5 then true else if v.kind = 3 then isNum v.text else if v.kind = 4 then decide (wrong v.text 0 < 0)
  else if v.kind = 6 then namesOk [] v.mem else false
def V.right (v : V) : Bool := rightSelf v && (v.kids false).attach.all fun x => x.1.right
termination_by v.size
decreasing_by exact V.mem_kids x.2
theorem V.right_eq (v : V) : v.right = (rightSelf v && (v.kids false).all V.right) := by
  rw [V.right]
  congr 1
  have : (v.kids false).all V.right = ((v.kids false).attach.map (fun x => x.1)).all V.right := by rw [List.attach_map_subtype_val]
  rw [this, List.all_map]
  rfl
/-- Texts and names that are not too long. -/
def V.tame (v : V) : Prop := v.text.length ≤ 1000000 ∧ (∀ x ∈ v.mem, x.name.length ≤ 1000000) ∧ ∀ x : {x // x ∈ v.kids true}, x.1.tame
termination_by v.size
decreasing_by exact V.mem_kids x.2
theorem V.tame_eq (v : V) : v.tame ↔ (v.text.length ≤ 1000000 ∧ (∀ x ∈ v.mem, x.name.length ≤ 1000000) ∧ ∀ x ∈ v.kids true, x.tame) := by
  rw [V.tame]
  simp only [Subtype.forall]
theorem V.tame.kid {v x : V} (h : v.tame) (all : Bool) (hx : x ∈ v.kids all) : x.tame := by
  rw [V.tame_eq] at h
  refine h.2.2 x ?_
  unfold V.kids at *
  rcases List.mem_append.1 hx with hx | hx
  · split at hx
    · simp [hx]
    · cases hx
  · split at hx
    · simp only [Bool.true_or, if_true, List.mem_append]; exact .inr hx
    · cases hx
/-- Texts and names that lie in memory. -/
def V.loose (v : V) : Prop := v.text.length ≤ 140737488351232 ∧ (∀ x ∈ v.mem, x.name.length ≤ 140737488351232) ∧ ∀ x : {x // x ∈ v.kids true}, x.1.loose
termination_by v.size
decreasing_by exact V.mem_kids x.2
theorem V.loose_eq (v : V) : v.loose ↔ (v.text.length ≤ 140737488351232 ∧ (∀ x ∈ v.mem, x.name.length ≤ 140737488351232) ∧ ∀ x ∈ v.kids true, x.loose) := by
  rw [V.loose]
  simp only [Subtype.forall]
theorem V.loose.kid {v x : V} (h : v.loose) (all : Bool) (hx : x ∈ v.kids all) : x.loose := by
  rw [V.loose_eq] at h
  refine h.2.2 x ?_
  unfold V.kids at *
  rcases List.mem_append.1 hx with hx | hx
  · split at hx
    · simp [hx]
    · cases hx
  · split at hx
    · simp only [Bool.true_or, if_true, List.mem_append]; exact .inr hx
    · cases hx
theorem V.tame.loose (v : V) (h : v.tame) : v.loose := by
  have h0 := (V.tame_eq v).1 h
  rw [V.loose_eq]
  exact ⟨by omega, fun x hx => by have := h0.2.1 x hx; omega, fun x hx => V.tame.loose x (h0.2.2 x hx)⟩
termination_by v.size
decreasing_by exact V.mem_kids hx
set_option maxRecDepth 100000
set_option maxHeartbeats 2000000 in
theorem self_any (v : V) (P : Addr) (w : World) (h : Reads w P v) (ht : v.loose) (hsz : v.size ≤ 100000) (hT : Tabs w) (h2 : 3 + 1 ≤ w.heap.size) :
    Calls Tryz.prog 29 #[.pointer (some P)] w fun e w' => e = .returned (.bool (rightSelf v)) ∧ Below w.heap.size w w' := by
  have HF := Lib.hid (foreign_any v P w h)
  obtain ⟨A, ca, B, cb, ⟨c0, c1, c2, c3, c4⟩, hM⟩ := h.five
  rw [V.loose_eq] at ht
  have hlen : v.mem.length ≤ 100000 := by
    have := v.size_eq
    have := sum_len (fun m : M => m.val.size) (fun m => m.val.size_pos) v.mem
    rw [← sizeM_sum] at this
    omega
  have HN := Lib.hid (isNumber_any v.text w (by omega))
  have HW := Lib.hid (told_any v.text w hT h2 (by omega))
  have HM := Lib.hid (names_any v.mem B cb w hM hT h2 hlen (fun x hx => Nat.le_trans (ht.2.1 x hx) (by omega)))
  have HR : Hid (rightSelf v = if foreign v = true then false else if v.kind = 1 ∨ v.kind = 2 ∨ v.kind = 5 then true else if v.kind = 3 then isNum v.text else if v.kind = 4 then decide (wrong v.text 0 < 0)
    else if v.kind = 6 then namesOk [] v.mem else false) := Lib.hid rfl
  clear h hT ht hM hsz hlen
  generalize rightSelf v = r at *
  generalize foreign v = f at *
  generalize v.kind = k at *
  generalize isNum v.text = x1 at *
  generalize decide (wrong v.text 0 < 0) = x2 at *
  generalize namesOk [] v.mem = x3 at *
  go_enter Tryz.func29, Tryz.ntmps29
  go_wp2_with fail
  refine HF.out.mono ?_
  rintro e w1 ⟨rfl, rfl⟩
  cases f with
  | true =>
    go_wp2
    go_ret
    exact ⟨by rw [HR.out]; rfl, Below.refl _ _⟩
  | false =>
    by_cases h1 : k = 1 ∨ k = 2 ∨ k = 5
    · have HE : Hid (r = true) := Lib.hid (by rw [HR.out]; simp [h1])
      rcases h1 with rfl | rfl | rfl
      all_goals
        go_wp2
        go_ret
        exact ⟨by rw [HE.out]; rfl, Below.refl _ _⟩
    · have e1 : (k == 1) = false := by rw [beq_eq_false_iff_ne]; omega
      have e2 : (k == 2) = false := by rw [beq_eq_false_iff_ne]; omega
      have e5 : (k == 5) = false := by rw [beq_eq_false_iff_ne]; omega
      by_cases h3 : k = 3
      · have HE : Hid (r = x1) := Lib.hid (by rw [HR.out, if_neg (by simp), if_neg h1, if_pos h3])
        subst h3
        clear h1 HR
        go_wp2_with fail
        refine HN.out.mono ?_
        rintro e w2 ⟨rfl, hb⟩
        go_wp2
        go_ret
        exact ⟨by rw [HE.out]; rfl, hb⟩
      · have e3 : (k == 3) = false := by rw [beq_eq_false_iff_ne]; omega
        by_cases h4 : k = 4
        · have HE : Hid (r = x2) := Lib.hid (by rw [HR.out, if_neg (by simp), if_neg h1, if_neg h3, if_pos h4])
          subst h4
          clear h1 h3 HR
          go_wp2_with fail
          refine HW.out.mono ?_
          rintro e w2 ⟨rfl, hb⟩
          go_wp2
          go_ret
          exact ⟨by rw [HE.out]; rfl, hb⟩
        · have e4 : (k == 4) = false := by rw [beq_eq_false_iff_ne]; omega
          by_cases h6 : k = 6
          · have HE : Hid (r = x3) := Lib.hid (by rw [HR.out, if_neg (by simp), if_neg h1, if_neg h3, if_neg h4, if_pos h6])
            subst h6
            clear h1 h3 h4 HR
            go_wp2_with fail
            refine HM.out.mono ?_
            rintro e w2 ⟨rfl, hb⟩
            go_wp2
            go_ret
            exact ⟨by rw [HE.out]; rfl, hb⟩
          · have e6 : (k == 6) = false := by rw [beq_eq_false_iff_ne]; omega
            have HE : Hid (r = false) := Lib.hid (by rw [HR.out, if_neg (by simp), if_neg h1, if_neg h3, if_neg h4, if_neg h6])
            clear h1 h3 h4 h6 HR
            go_wp2
            go_ret
            exact ⟨by rw [HE.out]; rfl, Below.refl _ _⟩
/-- What holds between two rounds. -/
structure RJ (W0 : World) (T : V) (br n2 : Nat) (m : Nat) (st : List It) (O : Blocks) (W : World) : Prop where
  stk : ∃ ss, Stk W0 T m st ss ∧ T.right = ss.all (fun s => s.2.right) ∧ ∀ s ∈ ss, s.2.loose
  blk : W.heap[br]? = some (.cells #[.bool false] 4 (0, 0))
  own : ∀ k, O k → n2 ≤ k
  below : Below W0.heap.size W0 W
  big : n2 ≤ W.heap.size
structure RX (W0 : World) (T : V) (br n2 : Nat) (c : Code) (O : Blocks) (W : World) : Prop where
  not : T.right = false
  blk : W.heap[br]? = some (.cells #[.bool false] 4 (0, 0))
  own : ∀ k, O k → n2 ≤ k
  below : Below W0.heap.size W0 W
  big : n2 ≤ W.heap.size
theorem grown_below {O : Blocks} {W W' : World} {row : Option Nat} {n2 : Nat} (hg : W.grownBy W' row) (hr : ∀ g, row = some g → O g) (ho : ∀ k, O k → n2 ≤ k) (hb : n2 ≤ W.heap.size) : Below n2 W W' :=
  ⟨hg.os, hg.tape, hg.output, hg.size, fun k hk => hg.block k (by omega) (fun e => by have := ho k (hr k e.symm); omega)⟩
theorem plus_own {O : Blocks} {W W' : World} {n2 : Nat} (ho : ∀ k, O k → n2 ≤ k) (hb : n2 ≤ W.heap.size) : ∀ k, O.plus W W' k → n2 ≤ k := by
  rintro k (hk | hk)
  · exact ho k hk
  · omega
theorem RJ.abide {W0 : World} {T : V} {br n2 m : Nat} {st : List It} (h1 : W0.heap.size ≤ n2) (h2 : br < n2) : Abide (RJ W0 T br n2 m st) := by
  intro O W W' row h hg hr
  have hb := grown_below hg hr h.own h.big
  exact ⟨h.stk, (hb.block br h2).trans h.blk, plus_own h.own h.big, h.below.trans (hb.mono h1), Nat.le_trans h.big hg.size⟩
theorem RX.abide {W0 : World} {T : V} {br n2 : Nat} {c : Code} (h1 : W0.heap.size ≤ n2) (h2 : br < n2) : Abide (RX W0 T br n2 c) := by
  intro O W W' row h hg hr
  have hb := grown_below hg hr h.own h.big
  exact ⟨h.not, (hb.block br h2).trans h.blk, plus_own h.own h.big, h.below.trans (hb.mono h1), Nat.le_trans h.big hg.size⟩
set_option maxHeartbeats 2000000 in
theorem right_any (v : V) (val : Value) (w : World) (hv : Holds w val v) (ht : v.loose) (hsz : v.size ≤ 90000) (hT : Tabs w) (h2 : 3 + 1 ≤ w.heap.size) :
    Calls Tryz.prog 10 #[val] w fun e w' => e = .returned (.bool v.right) ∧ Below w.heap.size w w' := by
  obtain ⟨A, ca, B, cb, rfl, hrest⟩ := id hv
  clear hrest
  have hbox := hv.box 27
  clear hv
  refine (callsIn_wide (n := 3)).1 ?_
  refine callsIn_of_wp_marks Tryz.func10 rfl trivial ?_ rfl
  simp only [Tryz.ntmps10, List.size_toArray, List.length_cons, List.length_nil, Nat.reduceAdd, Nat.reduceSub, Array.replicate_succ, Array.replicate_zero, List.push_toArray, List.append_toArray, List.nil_append, List.cons_append]
  gi_wp2_with (refine ⟨trivial, ?_⟩; gi_at_call 27; refine (callsIn_wide.2 (walk_any _ _ _)).mono ?_; rintro e w' ⟨rfl, rfl⟩)
  obtain ⟨W0, hW0⟩ : ∃ W0, W0 = w.alloc (.cells #[.int .i64 v.kind, .bool v.yes, .string (mk v.text), .slice A v.list.length ca, .slice B v.mem.length cb] 27) := ⟨_, rfl⟩
  have s0 : W0.heap.size = w.heap.size + 1 := by rw [hW0]; simp
  have hbw : Below w.heap.size w W0 := by rw [hW0]; exact (Below.refl _ _).alloc (Nat.le_refl _) _
  rw [← hW0] at hbox ⊢
  clear hW0
  obtain ⟨W1, hW1⟩ : ∃ W1, W1 = ((W0.alloc (.cells #[.bool false] 4)).alloc (.cells #[.pointer (some ⟨w.heap.size, 0, none⟩)] 65)).alloc (.cells #[.func (.func 28) #[] #[]] 66) := ⟨_, rfl⟩
  have s1 : W1.heap.size = w.heap.size + 4 := by rw [hW1]; simp [s0]
  have hb1 : Below W0.heap.size W0 W1 := by rw [hW1]; exact (((Below.refl _ _).alloc (Nat.le_refl _) _).alloc (by simp) _).alloc (by simp; omega) _
  have g0 : W1.heap[w.heap.size + 1]? = some (.cells #[.bool false] 4 (0, 0)) := by
    rw [hW1, ← s0, Below.heap_alloc _ _ _ (by simp; omega), Below.heap_alloc _ _ _ (by simp)]; exact heap_alloc_new _ _
  have g1 : W1.heap[w.heap.size + 2]? = some (.cells #[.pointer (some ⟨w.heap.size, 0, none⟩)] 65 (0, 0)) := by
    have := heap_alloc_new (W0.alloc (.cells #[.bool false] 4)) (.cells #[.pointer (some ⟨w.heap.size, 0, none⟩)] 65)
    simp only [World.size_alloc, s0] at this
    rw [hW1, Below.heap_alloc _ _ _ (by simp; omega)]; exact this
  have g2 : W1.heap[w.heap.size + 3]? = some (.cells #[.func (.func 28) #[] #[]] 66 (0, 0)) := by
    have := heap_alloc_new ((W0.alloc (.cells #[.bool false] 4)).alloc (.cells #[.pointer (some ⟨w.heap.size, 0, none⟩)] 65)) (.cells #[.func (.func 28) #[] #[]] 66)
    simp only [World.size_alloc, s0] at this
    rw [hW1]; exact this
  rw [← hW1]
  clear hW1
  have hT0 : Tabs W0 := hT.below hbw h2
  refine range_walk rfl (by decide) (gf := 46) (lb := #[.pointer (some ⟨w.heap.size + 2, 0, none⟩), .pointer (some ⟨w.heap.size + 3, 0, none⟩)]) rfl trivial (enters_of Tryz.func46 (by kernel_rfl) rfl) rfl false
    (fun k => k = w.heap.size + 2 ∨ k = w.heap.size + 3) (⟨w.heap.size, 0, none⟩, 1) (walk1 2 false 28 parts_ins (enters_of Tryz.func28 (by kernel_rfl) rfl) _ _ _ _ (cell_of_row _ _ 0 _ _ _ g1) (cell_of_row _ _ 0 _ _ _ g2)) (by omega)
    (RJ W0 v (w.heap.size + 1) (w.heap.size + 2)) (RX W0 v (w.heap.size + 1) (w.heap.size + 2)) (fun m st => RJ.abide (by omega) (by omega)) (fun c => RX.abide (by omega) (by omega)) v.size
    ⟨⟨_, Stk.start hbox, by simp, by simpa using ht⟩, g0, by omega, hb1, by omega⟩
    (fun x => { tmps := #[.agg #[.int .i64 v.kind, .bool v.yes, .string (mk v.text), .slice A v.list.length ca, .slice B v.mem.length cb], .pointer (some ⟨w.heap.size, 0, none⟩), .pointer (some ⟨w.heap.size + 1, 0, none⟩), .pointer (some x.1),
      .func (.func 46) #[] #[.pointer (some ⟨w.heap.size + 2, 0, none⟩), .pointer (some ⟨w.heap.size + 3, 0, none⟩)], .pointer (some x.1), .int .i64 x.2, undef, undef, undef], defers := [] }) ?assign ?body ?done ?stop
  case assign =>
    intro l x W K hK
    gi_wp2
    exact hK
  case body =>
    intro l m st x O W hJ
    obtain ⟨ss, hs, hall, htm⟩ := hJ.stk
    obtain ⟨ss', t, rfl, hr, hd, h1, A', ca', B', cb', hfl, hA, hB, hn, m', hm', hs'⟩ := hs.step false
    have hts := t.size_pos
    have htt : t.loose := htm (x, t) (by simp)
    have hW : W0.heap.size ≤ W.heap.size := hJ.below.size
    have hbig := hJ.big
    have HC := Lib.hid (self_any t x.1 W (hr.kept hJ.below (Nat.le_refl _)) htt (by omega) (hT0.below hJ.below (by omega)) (by omega))
    have hf : W.frozen? ⟨w.heap.size + 1, 0, none⟩ = false := Lib.frozen_of_heap hJ.blk 0
    have hc : W.cell? ⟨w.heap.size + 1, 0, none⟩ = some (.bool false) := cell_of_row _ _ 0 _ _ _ hJ.blk
    have HJ := Lib.hid hJ
    have HA : Hid (v.right = (ss'.all (fun s => s.2.right) && (rightSelf t && (t.kids false).all V.right))) := Lib.hid (by rw [hall, List.all_append]; simp only [List.all_cons, List.all_nil, Bool.and_true]; rw [t.right_eq])
    have HT := Lib.hid htm
    have HF := Lib.hid hfl
    have HS := Lib.hid hs'
    clear hJ hs hall htm hfl hs' hr htt
    generalize hrs : rightSelf t = rs at *
    cases rs with
    | true =>
      gi_wp2_with (refine ⟨trivial, ?_⟩; gi_at_call 29; refine (CallsIn.inRound l (callsIn_wide.2 HC.out)).mono ?_; rintro e w1 ⟨rfl, hb1⟩; have hk1 := (hb1.block (w.heap.size + 1) (by omega)).trans HJ.out.blk; have hf1 := Lib.frozen_of_heap hk1 0; have hc1 := cell_of_row _ _ 0 _ _ _ hk1)
      refine .inl ⟨rfl, KeepO.below hb1 (fun _ _ h => h), t.kind, A', t.list.length, ca', B', t.mem.length, cb', m', hm', hA, hB, by omega, by omega, HF.out.kept (HJ.out.below.trans (hb1.mono hW)) (Nat.le_refl _), ?_⟩
      refine ⟨⟨_, HS.out, ?_, ?_⟩, hk1, HJ.out.own, HJ.out.below.trans (hb1.mono hW), by have := HJ.out.big; have := hb1.size; omega⟩
      · rw [HA.out, List.all_append]
        have : (kidsV A' B' (x.2 + 1) false t).all (fun s => s.2.right) = ((kidsV A' B' (x.2 + 1) false t).map Prod.snd).all V.right := by rw [List.all_map]; rfl
        rw [this, kidsV_snd]
        simp
      · intro s hs
        rcases List.mem_append.1 hs with hs | hs
        · exact HT.out s (List.mem_append.2 (.inl hs))
        · exact (HT.out (x, t) (by simp)).kid false (by rw [← kidsV_snd A' B' (x.2 + 1) false t]; exact List.mem_map.2 ⟨s, hs, rfl⟩)
    | false =>
      gi_wp2_with (refine ⟨trivial, ?_⟩; gi_at_call 29; refine (CallsIn.inRound l (callsIn_wide.2 HC.out)).mono ?_; rintro e w1 ⟨rfl, hb1⟩; have hk1 := (hb1.block (w.heap.size + 1) (by omega)).trans HJ.out.blk; have hf1 := Lib.frozen_of_heap hk1 0; have hc1 := cell_of_row _ _ 0 _ _ _ hk1)
      have hb2 : Below (w.heap.size + 1) w1 (w1.setCell ⟨w.heap.size + 1, 0, none⟩ (.bool false)) := (Below.refl _ w1).setCell (p := ⟨w.heap.size + 1, 0, none⟩) (Nat.le_refl _) _
      refine ⟨⟨by have := hb1.size; simpa [World.setCell] using this, fun k hk hl => ?_⟩, by rw [HA.out]; simp, ?_, HJ.out.own, HJ.out.below.trans ((hb1.mono hW).trans (hb2.mono (by omega))), by have := HJ.out.big; have := hb1.size; simp [World.setCell]; omega⟩
      · rw [Below.heap_setCell _ _ _ _ (by have := HJ.out.own k hk; simp; omega)]
        exact hb1.block k hl
      · exact (blk_set (show Blk w1 _ _ _ from hk1) 0 (.bool false))
  case done =>
    intro D m O W hO hJ hK
    obtain ⟨ss, hs, hall, -⟩ := hJ.stk
    have he : ss = [] := by have := hs.items; simpa using this.symm
    subst he
    have HE : Hid (v.right = true) := Lib.hid (by simpa using hall)
    have hf : W.frozen? ⟨w.heap.size + 1, 0, none⟩ = false := Lib.frozen_of_heap hJ.blk 0
    have hc : W.cell? ⟨w.heap.size + 1, 0, none⟩ = some (.bool false) := cell_of_row _ _ 0 _ _ _ hJ.blk
    have HJ := Lib.hid hJ
    clear hs hall hJ
    gi_wp2
    have hK' := (KeepsOthers.setCell W ⟨w.heap.size + 1, 0, none⟩ (.bool true)).same D _ hK rfl
    refine ⟨by simp, .inl ⟨_, _, rfl, run_takeDeferred hK', ?_⟩⟩
    have hc5 := cell_kept (World.cell?_setCell_same' W ⟨w.heap.size + 1, 0, none⟩ (.bool true) (by rw [hc]; rfl)) (grownBy_putObj' _ D (.deferred none)) (fun r e => by cases e; exact ⟨_, hK', rfl⟩)
    refine ⟨.bool true, ?_, by rw [HE.out], ?_⟩
    · simp [results, Tryz.f10, go_sem, hc5]
    · have hb := HJ.out.below
      rw [s0] at hb
      have h2' := HJ.out.own D hO
      have h3' := HJ.out.big
      exact ((hbw.trans (hb.mono (by omega))).setCell (p := ⟨w.heap.size + 1, 0, none⟩) (by simp) _).grown (grownBy_putObj' _ D _) (by simp [World.setCell]; omega) (fun k e => by cases e; omega)
  case stop =>
    intro D O W hO h hK
    have HE := Lib.hid h.not
    have hc : W.cell? ⟨w.heap.size + 1, 0, none⟩ = some (.bool false) := cell_of_row _ _ 0 _ _ _ h.blk
    have HJ := Lib.hid h
    clear h
    gi_wp2
    refine ⟨by simp, .inl ⟨_, _, rfl, run_takeDeferred hK, ?_⟩⟩
    have hc5 := cell_kept hc (grownBy_putObj' _ D (.deferred none)) (fun r e => by cases e; exact ⟨_, hK, rfl⟩)
    refine ⟨.bool false, ?_, by rw [HE.out], ?_⟩
    · simp [results, Tryz.f10, go_sem, hc5]
    · have hb := HJ.out.below
      rw [s0] at hb
      have h2' := HJ.out.own D hO
      have h3' := HJ.out.big
      exact (hbw.trans (hb.mono (by omega))).grown (grownBy_putObj' _ D _) (by omega) (fun k e => by cases e; omega)
end Go.Proofs.YtkenananejgcpaaGreatDoor.Jsn
