/-
  The function that walk returns: it tells each value, and then those inside it.
-/
import Derived.Test.YtkenananejgcpaaGreatDoorJIter
import Derived.Test.YtkenananejgcpaaGreatDoorTMem
import Derived.Deep.RegionLaw
import Derived.Deep.AppendLies
import Derived.Maps.AppendAt
namespace Go.Proofs.YtkenananejgcpaaGreatDoor.Jsn
open Go.RowKit Txt
attribute [local go_sem] Oper.semAt_some
theorem lt_cell {w : World} {a : Addr} {v : Value} (h : w.cell? a = some v) : a.block < w.heap.size := by
  by_cases hlt : a.block < w.heap.size
  · exact hlt
  · rw [World.cell?, Array.getElem?_eq_none (by omega)] at h; cases h
theorem turned (w : World) (b i : Nat) (v : Value) : w.grownBy (w.setCell ⟨b, i, none⟩ v) (some b) :=
  ⟨rfl, rfl, rfl, by simp [World.setCell], fun k _ hk => Below.heap_setCell _ _ _ _ (fun e => hk (by simp [e]))⟩
def lvl (x : It) : List Value := [.pointer (some x.1), .int .i64 x.2]
def lvls (st : List It) : List Value := st.flatMap lvl
theorem lvls_len (st : List It) : (lvls st).length = st.length * 2 := by
  unfold lvls
  induction st with
  | nil => rfl
  | cons x st ih => simp only [List.flatMap_cons, List.length_append, List.length_cons, ih]; simp [lvl]; omega
theorem lvls_snoc (st : List It) (x : It) : lvls (st ++ [x]) = lvls st ++ lvl x := by simp [lvls]
/-- What the function inside says. -/
def Ins (all : Bool) (fi : Nat) : Prop := ∀ (x : Addr) (W : World) (k : Int) (A : Option Addr) (na ca : Nat) (B : Option Addr) (nb cb : Nat), Fields x W k A na ca B nb cb →
  Calls Tryz.prog fi #[.pointer (some x)] W fun e W' => (W.grownBy W' none ∧ W'.heap = W.heap) ∧ ∃ A' ca' B' cb', e = .returned (.tuple #[.slice A' (fromList all k na : Nat) ca', .slice B' (fromMem all k nb : Nat) cb']) ∧ (0 < fromList all k na → A' = A) ∧ (0 < fromMem all k nb → B' = B)
/-- What holds between two rounds. -/
structure Mid (J : Nat → List It → Blocks → World → Prop) (b2 fi : Nat) (m : Nat) (st : List It) (O : Blocks) (v : Value) (W : World) : Prop where
  row : W.ownsRow 0 81 2 v st.length (lvls st)
  own : ∀ g, v.ownBlock = some g → O g ∧ g ≠ b2
  j : J m st O W
  small : st.length ≤ 100000
  o2 : O b2
  c2 : W.cell? ⟨b2, 0, none⟩ = some (.func (.func fi) #[] #[])
theorem pop {W : World} {v : Value} {st : List It} {x : It} (h : W.ownsRow 0 81 2 v (st ++ [x]).length (lvls (st ++ [x]))) :
    ∃ g cap, v = .slice (some ⟨g, 0, none⟩) (st.length + 1 : Nat) cap ∧ g < W.heap.size ∧ st.length + 1 ≤ cap ∧ W.cell? ⟨g, st.length * 2, none⟩ = some (.pointer (some x.1)) ∧ W.cell? ⟨g, st.length * 2 + 1, none⟩ = some (.int .i64 x.2) ∧
      W.ownsRow 0 81 2 (.slice (some ⟨g, 0, none⟩) (st.length : Nat) cap) st.length (lvls st) := by
  have hl : (st ++ [x]).length = st.length + 1 := by simp
  rw [hl] at h
  obtain ⟨h1, h2⟩ := h
  rcases h2 with ⟨_, h0⟩ | ⟨g, cap, cur, rfl, hb, hh, hc, hm, hs, ht⟩
  · omega
  · have hlen := lvls_len st
    have hg : ∀ i, i < (st.length + 1) * 2 → cur[i]? = (lvls (st ++ [x]))[i]? := fun i hi => by
      rw [← ht, List.getElem?_take_of_lt (by omega)]
      simp
    have hcell : ∀ i, W.cell? ⟨g, i, none⟩ = cur[i]? := fun i => cell_of_row W g i cur _ (0, 0) hh
    refine ⟨g, cap, rfl, (show Blk W g _ cur from hh).lt, hc, ?_, ?_, hlen, .inr ⟨g, cap, cur, rfl, hb, hh, by omega, hm, hs, ?_⟩⟩
    · rw [hcell, hg _ (by omega), lvls_snoc, List.getElem?_append_right (by omega), hlen]
      simp [lvl]
    · rw [hcell, hg _ (by omega), lvls_snoc, List.getElem?_append_right (by omega), hlen]
      simp [lvl]
    · rw [lvls_snoc] at ht
      have := congrArg (List.take (st.length * 2)) ht
      rw [List.take_take, List.take_append_of_le_length (by omega), List.take_of_length_le (l := lvls st) (by omega)] at this
      rw [← this]
      congr 1
      omega
/-- What holds while the values inside are added. -/
structure Add (J : Nat → List It → Blocks → World → Prop) (b2 fi bx : Nat) (x : It) (m : Nat) (stF s : List It) (O : Blocks) (v : Value) (W : World) : Prop where
  row : W.ownsRow 0 81 2 v s.length (lvls s)
  own : ∀ g, v.ownBlock = some g → O g ∧ g ≠ bx ∧ g ≠ b2
  j : J m stF O W
  o2 : O b2
  c2 : W.cell? ⟨b2, 0, none⟩ = some (.func (.func fi) #[] #[])
  x0 : W.cell? ⟨bx, 0, none⟩ = some (.pointer (some x.1))
  x1 : W.cell? ⟨bx, 1, none⟩ = some (.int .i64 x.2)
theorem Add.push {J : Nat → List It → Blocks → World → Prop} {b2 fi bx : Nat} {x : It} {m : Nat} {stF s : List It} {O : Blocks} {v : Value} {W : World} (h : Add J b2 fi bx x m stF s O v W) (hJ : ∀ m st, Abide (J m st)) {y : It} {Wx wz : World} {g cap : Nat}
    (hx : W.grownBy Wx none) (hrow : wz.ownsRow 0 81 2 (.slice (some ⟨g, 0, none⟩) (s.length + 1 : Nat) cap) (s.length + 1) (lvls s ++ lvl y)) (hgrow : Wx.grownBy wz v.ownBlock) (hat : v.ownBlock = some g ∨ g = Wx.heap.size) (hlt : g < wz.heap.size) :
    Add J b2 fi bx x m stF (s ++ [y]) (O.plus W wz) (.slice (some ⟨g, 0, none⟩) (s.length + 1 : Nat) cap) wz := by
  have hg : W.grownBy wz v.ownBlock := ⟨hgrow.os.trans hx.os, hgrow.tape.trans hx.tape, hgrow.output.trans hx.output, Nat.le_trans hx.size hgrow.size, fun k hk hr => (hgrow.block k (Nat.lt_of_lt_of_le hk hx.size) hr).trans (hx.block k hk (by simp))⟩
  have lx : bx < W.heap.size := lt_cell h.x0
  have l2 : b2 < W.heap.size := lt_cell h.c2
  have nx : some bx ≠ v.ownBlock := fun e => (h.own bx e.symm).2.1 rfl
  have n2 : some b2 ≠ v.ownBlock := fun e => (h.own b2 e.symm).2.2 rfl
  have sx := hx.size
  refine ⟨?_, ?_, hJ _ _ _ _ _ _ h.j hg (fun k hk => (h.own k hk).1), .inl h.o2, (World.cell?_of_block (hg.block b2 l2 n2)).trans h.c2, (World.cell?_of_block (hg.block bx lx nx)).trans h.x0, (World.cell?_of_block (hg.block bx lx nx)).trans h.x1⟩
  · rw [lvls_snoc, List.length_append]
    exact hrow
  · intro k hk
    simp only [Value.ownBlock, Option.some.injEq] at hk
    subst hk
    rcases hat with e | e
    · exact ⟨.inl (h.own _ e).1, (h.own _ e).2⟩
    · exact ⟨.inr ⟨by omega, hlt⟩, by omega, by omega⟩
theorem Add.still {J : Nat → List It → Blocks → World → Prop} {b2 fi bx : Nat} {x : It} {m : Nat} {stF s : List It} {O : Blocks} {v : Value} {W W' : World} (h : Add J b2 fi bx x m stF s O v W) (hJ : ∀ m st, Abide (J m st)) (hg : W.grownBy W' none) (hh : W'.heap = W.heap) : Add J b2 fi bx x m stF s O v W' := by
  have hc : ∀ a, W'.cell? a = W.cell? a := fun a => World.cell?_of_block (by rw [hh])
  refine ⟨?_, h.own, ?_, h.o2, (hc _).trans h.c2, (hc _).trans h.x0, (hc _).trans h.x1⟩
  · have := h.row
    unfold World.ownsRow at this ⊢
    rw [hh]
    exact this
  · have := hJ _ _ _ _ _ _ h.j hg (fun k hk => by cases hk)
    rwa [plus_self _ _ _ (by rw [hh])] at this
theorem kidsL_succ (A : Option Addr) (i d : Nat) : kidsL A (i + 1) d = kidsL A i d ++ [((A.getD default).add (i * 5), d)] := by simp [kidsL, List.range_succ]
theorem kidsM_succ (B : Option Addr) (i d : Nat) : kidsM B (i + 1) d = kidsM B i d ++ [((B.getD default).add (i * 6 + 1), d)] := by simp [kidsM, List.range_succ]
theorem info_level : (Tryz.prog.info? 81).map (fun i => (i.zero, i.size, i.bytes)) = some (some (.agg #[.pointer none, .int .i64 0]), 2, 16) := by kernel_rfl
set_option maxRecDepth 100000 in
set_option maxHeartbeats 4000000 in
theorem walk1 (n : Nat) (all : Bool) (fi : Nat) (hfi : Ins all fi) (efi : ∀ args w, (callFunc fi args).run Tryz.prog w = .ok (.enter fi args) w) (b1 b2 : Nat) (p : Addr) (w : World) (c1 : w.cell? ⟨b1, 0, none⟩ = some (.pointer (some p))) (c2 : w.cell? ⟨b2, 0, none⟩ = some (.func (.func fi) #[] #[])) :
    IterC Fence.wide n Tryz.prog 46 #[.pointer (some ⟨b1, 0, none⟩), .pointer (some ⟨b2, 0, none⟩)] all (fun k => k = b1 ∨ k = b2) w (p, 1) := by
  intro l J Jx hJ hJx hY m0 O0 W hO hkeep h0
  have hb1 : b1 < w.heap.size := lt_cell c1
  have hb2 : b2 < w.heap.size := lt_cell c2
  have c1 : W.cell? ⟨b1, 0, none⟩ = some (.pointer (some p)) := (World.cell?_of_block (hkeep.same b1 (.inl rfl) hb1)).trans c1
  have c2 : W.cell? ⟨b2, 0, none⟩ = some (.func (.func fi) #[] #[]) := (World.cell?_of_block (hkeep.same b2 (.inr rfl) hb2)).trans c2
  have o1 := hO b1 (.inl rfl)
  have o2 := hO b2 (.inr rfl)
  clear hkeep hO
  refine callsIn_of_wp Tryz.func46 rfl trivial ?_ rfl
  simp only [Tryz.ntmps46, List.size_toArray, List.length_cons, List.length_nil, Nat.reduceAdd, Nat.reduceSub, Array.replicate_succ, Array.replicate_zero, List.push_toArray, List.append_toArray, List.nil_append, List.cons_append]
  gi_wp2
  obtain ⟨μ, hμ⟩ : ∃ μ : Value → World → Nat, ∀ v wr m st O, Mid J b2 fi m st O v wr → (∃ st' O', Mid J b2 fi (μ v wr) st' O' v wr) ∧ μ v wr ≤ m :=
    ⟨fun v wr => leastOf (fun m => ∃ st O, Mid J b2 fi m st O v wr), fun v wr m st O h => by
      have := leastOf_spec (p := fun m => ∃ st O, Mid J b2 fi m st O v wr) ⟨m, st, O, h⟩
      exact ⟨this.1, this.2 m ⟨st, O, h⟩⟩⟩
  gi_loopw [4] (fun v wr => ∃ m st O, Mid J b2 fi m st O v wr) (fun v wr => μ v wr)
  case atStart =>
    refine ⟨m0, [(p, 1)], O0.plus W (W.alloc (.cells #[.pointer (some p), .int .i64 1] 81)), ?_⟩
    have l2 : b2 < W.heap.size := lt_cell c2
    refine ⟨⟨rfl, .inr ⟨W.heap.size, 1, #[.pointer (some p), .int .i64 1], rfl, Nat.zero_le _, heap_alloc_new W _, Nat.le_refl _, by unfold maxLen; omega, rfl, rfl⟩⟩, ?_, (hJ _ _).laid _ h0, by simp, .inl o2, (World.cell?_alloc_past _ _ _ l2).trans c2⟩
    intro g hg
    simp only [Value.ownBlock, Option.some.injEq] at hg
    subst hg
    exact ⟨.inr ⟨Nat.le_refl _, by simp⟩, by omega⟩
  case round =>
    obtain ⟨m₁, st₁, O₁, hM₁⟩ := hrel
    obtain ⟨⟨st, O, hM⟩, -⟩ := hμ _ _ _ _ _ hM₁
    clear hM₁ m₁ st₁ O₁
    rcases List.eq_nil_or_concat st with rfl | ⟨st', x, rfl⟩
    · have hj := hM.j
      obtain ⟨A, c, hv⟩ : ∃ A c, u4 = .slice A (0 : Nat) c := by
        rcases hM.row.2 with ⟨r, _⟩ | ⟨g, cap, cur, r, _⟩
        · exact ⟨none, 0, r⟩
        · exact ⟨_, cap, r⟩
      subst hv
      clear hM
      gi_wp2
      go_end0
      exact ⟨⟨_, rfl⟩, .inl ⟨_, _, hj⟩⟩
    · rw [List.concat_eq_append] at hM
      obtain ⟨g, cap, rfl, hg, hcap, e0, e1, hrow⟩ := pop hM.row
      have hj := hM.j
      obtain ⟨hown, hn2⟩ := hM.own g rfl
      have ho2 := hM.o2
      have hc2 := hM.c2
      have hsm : st'.length ≤ 100000 := by have := hM.small; simp at this; omega
      have hroww : Hid (wr.ownsRow 0 81 2 (Value.slice (some { block := g, off := 0 }) st'.length cap) st'.length (lvls st')) := Lib.hid hrow
      clear hM hrow
      obtain ⟨q, hq⟩ : ∃ q, q = st'.length := ⟨_, rfl⟩
      rw [← hq] at hroww hsm hcap e0 e1 ⊢
      have HQ := Lib.hid hq
      clear hq
      have w1 : wrap64 (q : Int) = q := by unfold wrap64; omega
      have w2 : (q : Int) < (q : Int) + 1 := by omega
      have w3 : (0 : Int) ≤ (q : Int) := by omega
      obtain ⟨O1, hO1⟩ : ∃ O1 : Blocks, O1 = O.plus wr (wr.alloc (.cells #[.pointer (some x.1), .int .i64 x.2] 81)) := ⟨_, rfl⟩
      have hsub : ∀ k, O k → O1 k := fun k hk => by rw [hO1]; exact .inl hk
      have hbox : O1 wr.heap.size := by rw [hO1]; exact .inr ⟨Nat.le_refl _, by simp⟩
      have hJ1 := (hJ _ _).laid (.cells #[.pointer (some x.1), .int .i64 x.2] 81) hj
      rw [← hO1] at hJ1
      obtain ⟨fn, tmps, assign, body, hy, hR⟩ := hY _ _ _ _ _ hJ1
      clear hj hJ1 hO1
      gi_wp2
      refine ⟨fun h => (by simp [Fence.wide] at h), hR.mono ?_⟩
      rintro e W3 (⟨rfl, hk, k, A, na, ca, B, nb, cb, m', hm, iA, iB, hsm2, hdep, hF, hJ3⟩ | ⟨rfl, hX⟩)
      · have d0 : W3.cell? ⟨wr.heap.size, 0, none⟩ = some (.pointer (some x.1)) := (World.cell?_of_block (hk.same _ hbox (by simp))).trans ((Blk.new wr _ _).cell 0)
        have d1 : W3.cell? ⟨wr.heap.size, 1, none⟩ = some (.int .i64 x.2) := (World.cell?_of_block (hk.same _ hbox (by simp))).trans ((Blk.new wr _ _).cell 1)
        have hc3 : W3.cell? ⟨b2, 0, none⟩ = some (.func (.func fi) #[] #[]) := (World.cell?_of_block (hk.same _ (hsub _ ho2) (by have : b2 < wr.heap.size := lt_cell hc2; simp; omega))).trans ((World.cell?_alloc_past _ _ _ (lt_cell hc2)).trans hc2)
        have hbs : wr.heap.size < W3.heap.size := by have := hk.size; simp at this; omega
        have hrow3 : W3.ownsRow 0 81 2 (Value.slice (some { block := g, off := 0 }) q cap) q (lvls st') := by
          obtain ⟨r1, r2⟩ := hroww.out
          refine ⟨r1, ?_⟩
          rcases r2 with ⟨r, _⟩ | ⟨g', cap', cur, r, r3, r4, r5⟩
          · cases r
          · injection r with r6 r7 r8
            injection r6 with r6
            injection r6 with r6
            subst r6
            exact .inr ⟨g, cap', cur, by rw [r8], r3, (hk.same _ (hsub _ hown) (by simp; omega)).trans ((Below.heap_alloc wr _ g hg).trans r4), r5⟩
        have HI := Lib.hid (hfi x.1 W3 k A na ca B nb cb hF)
        have HA : Hid (Add J b2 fi wr.heap.size x m' _ st' O1 (Value.slice (some { block := g, off := 0 }) q cap) W3) := Lib.hid
          ⟨by rw [← HQ.out]; exact hrow3, fun k hk => by simp only [Value.ownBlock, Option.some.injEq] at hk; subst hk; exact ⟨hsub _ hown, by omega, hn2⟩, hJ3, hsub _ ho2, hc3, d0, d1⟩
        clear hrow3 hroww hk hF hJ3 hR hy
        obtain ⟨N1, hN1⟩ : ∃ N1, N1 = fromList all k na := ⟨_, rfl⟩
        obtain ⟨N2, hN2⟩ : ∃ N2, N2 = fromMem all k nb := ⟨_, rfl⟩
        rw [← hN1, ← hN2] at HI HA
        have hN : N1 + N2 + q ≤ 100000 := by rw [HQ.out, hN1, hN2]; unfold fromList fromMem; split <;> split <;> omega
        have iA : 0 < N1 → A.isSome = true := fun h => iA (by rw [hN1] at h; unfold fromList at h; split at h <;> omega)
        have iB : 0 < N2 → B.isSome = true := fun h => iB (by rw [hN2] at h; unfold fromMem at h; split at h <;> omega)
        clear hN1 hN2 hsm2
        obtain ⟨bx, hbx⟩ : ∃ bx, bx = wr.heap.size := ⟨_, rfl⟩
        rw [← hbx] at HA d0 d1 ⊢
        have HL := Lib.hid hm
        clear hm hbs hbox hbx hown hsub hn2 ho2 hc2 e0 e1 w1 w2 w3 hcap hg
        gi_wp2
        refine ⟨trivial, fun h => (by simp [Fence.wide] at h), (callsIn_wide.2 HI.out).mono ?_⟩
        rintro e W4 ⟨⟨hst, hheap⟩, A', ca', B', cb', rfl, hA', hB'⟩
        have HA := Lib.hid (HA.out.still hJ hst hheap)
        clear HI hst hheap
        gi_wp2
        obtain ⟨wo, hwo⟩ : ∃ wo, wo = wr := ⟨_, rfl⟩
        subst hwo
        obtain ⟨stF, hstF⟩ : ∃ stF, stF = st' ++ kidsL A N1 (x.2 + 1) ++ kidsM B N2 (x.2 + 1) := ⟨_, rfl⟩
        rw [← hstF] at HA
        have HF := Lib.hid hstF
        clear hstF
        clear d0 d1 hc3
        have wd : IntKind.i64.wrap ((x.2 : Int) + 1) = ((x.2 + 1 : Nat) : Int) := by rw [IntKind.wrap_i64]; omega
        have WD := Lib.hid wd
        clear wd
        obtain ⟨i0, hi, hz0, hz1, hz2⟩ := info_parts info_level
        gi_loopw [4, 43] (fun v i wr => ∃ (j : Nat) (O' : Blocks), i = .int .i64 j ∧ j ≤ N1 ∧ Add J b2 fi bx x m' stF (st' ++ kidsL A j (x.2 + 1)) O' v wr) (fun _ i _ => N1 - (intOf i).toNat)
        case atStart => exact ⟨0, O1, rfl, Nat.zero_le _, by simpa [kidsL] using HA.out⟩
        case round =>
          obtain ⟨j, O2, rfl, hj, hadd⟩ := hrel
          have HD := Lib.hid hadd
          clear hadd HA
          by_cases hlt : j < N1
          · obtain rfl := hA' (by omega)
            obtain ⟨a, rfl⟩ := Option.isSome_iff_exists.1 (iA (by omega))
            have x1 := HD.out.x1
            have k1 : (j : Int) < (N1 : Int) := by omega
            have k2 : (0 : Int) ≤ (j : Int) := by omega
            gi_wp2
            refine wpIn_wide.2 ?_
            go_region_law
              (refine step_append_lies _ (by rfl) _ _ 82 (by rfl) 0 81 i0 _ 2 16 Tryz.underlying82 hi hz0 hz1 hz2 rfl (by decide) u4 (st' ++ kidsL (some a) j (x.2 + 1)).length (lvls (st' ++ kidsL (some a) j (x.2 + 1))) (by rfl) ((HD.out.row.alloc _).drew)
                ⟨wr.heap.size, 0, none⟩ 1 1 [.pointer (some (a.add (j * 5))), .int .i64 (IntKind.i64.wrap ((x.2 : Int) + 1))] (by rfl) (by rfl) (World.news_of_block (cs := #[.pointer (some (a.add (j * 5))), .int .i64 (IntKind.i64.wrap ((x.2 : Int) + 1))]) (t := 81) (fr := (0, 0)) (heap_alloc_new wr _)) (by intro u hu; simp at hu; rcases hu with rfl | rfl <;> rfl)
                (by omega) (by have := HQ.out; unfold maxLen; simp [kidsL]; omega) (by have := HQ.out; simp [kidsL]; omega) (by omega) (wr.heap.size + 1) (by simp) ?_; intro gg cap9 wz hownz hgrow hat hlt9)
            have hE : Hid (Add J b2 fi bx x m' stF (st' ++ kidsL (some a) (j + 1) (x.2 + 1)) (O2.plus wr wz) (.slice (some ⟨gg, 0, none⟩) ((st' ++ kidsL (some a) j (x.2 + 1)).length + 1 : Nat) cap9) wz) := Lib.hid (by
              rw [WD.out] at hownz hgrow
              rw [kidsL_succ, ← List.append_assoc]
              refine Add.push HD.out hJ (y := (a.add (j * 5), x.2 + 1)) ?_ hownz hgrow (by simpa using hat) hlt9
              exact ⟨rfl, rfl, rfl, by simp, fun k hk _ => Below.heap_alloc wr _ k hk⟩)
            clear hownz hgrow hat hlt9 HD x1
            gi_wp2
            go_roundw
            case rel => exact ⟨j + 1, _, by go_num, by omega, by simpa using hE.out⟩
            case measure => simp [intOf]; omega
          · obtain rfl : j = N1 := by omega
            have k1 : ¬ (j : Int) < (j : Int) := by omega
            gi_wp2
            obtain ⟨wo2, hwo2⟩ : ∃ wo2, wo2 = wr := ⟨_, rfl⟩
            subst hwo2
            have hN' : j + N2 + q ≤ 100000 := by omega
            clear hlt hA' iA k1 hj
            gi_loopw [4, 59] (fun v i wr => ∃ (i' : Nat) (O' : Blocks), i = .int .i64 i' ∧ i' ≤ N2 ∧ Add J b2 fi bx x m' stF (st' ++ kidsL A j (x.2 + 1) ++ kidsM B i' (x.2 + 1)) O' v wr) (fun _ i _ => N2 - (intOf i).toNat)
            case atStart => exact ⟨0, O2, rfl, Nat.zero_le _, by simpa [kidsM] using HD.out⟩
            case round =>
              obtain ⟨i, O3, rfl, hi3, hadd⟩ := hrel
              have HE := Lib.hid hadd
              clear hadd HD
              by_cases hlt : i < N2
              · obtain rfl := hB' (by omega)
                obtain ⟨a, rfl⟩ := Option.isSome_iff_exists.1 (iB (by omega))
                have x1 := HE.out.x1
                have k1 : (i : Int) < (N2 : Int) := by omega
                have k2 : (0 : Int) ≤ (i : Int) := by omega
                gi_wp2
                refine wpIn_wide.2 ?_
                go_region_law
                  (refine step_append_lies _ (by rfl) _ _ 82 (by rfl) 0 81 i0 _ 2 16 Tryz.underlying82 hi hz0 hz1 hz2 rfl (by decide) u4 (st' ++ kidsL A j (x.2 + 1) ++ kidsM (some a) i (x.2 + 1)).length (lvls (st' ++ kidsL A j (x.2 + 1) ++ kidsM (some a) i (x.2 + 1))) (by rfl) ((HE.out.row.alloc _).drew)
                    ⟨wr.heap.size, 0, none⟩ 1 1 [.pointer (some ((a.add (i * 6)).add 1)), .int .i64 (IntKind.i64.wrap ((x.2 : Int) + 1))] (by rfl) (by rfl) (World.news_of_block (cs := #[.pointer (some ((a.add (i * 6)).add 1)), .int .i64 (IntKind.i64.wrap ((x.2 : Int) + 1))]) (t := 81) (fr := (0, 0)) (heap_alloc_new wr _)) (by intro u hu; simp at hu; rcases hu with rfl | rfl <;> rfl)
                    (by omega) (by have := HQ.out; unfold maxLen; simp [kidsL, kidsM]; omega) (by have := HQ.out; simp [kidsL, kidsM]; omega) (by omega) (wr.heap.size + 1) (by simp) ?_; intro gg cap9 wz hownz hgrow hat hlt9)
                have hE : Hid (Add J b2 fi bx x m' stF (st' ++ kidsL A j (x.2 + 1) ++ kidsM (some a) (i + 1) (x.2 + 1)) (O3.plus wr wz) (.slice (some ⟨gg, 0, none⟩) ((st' ++ kidsL A j (x.2 + 1) ++ kidsM (some a) i (x.2 + 1)).length + 1 : Nat) cap9) wz) := Lib.hid (by
                  rw [WD.out] at hownz hgrow
                  rw [add_add] at hownz
                  rw [kidsM_succ, ← List.append_assoc]
                  refine Add.push HE.out hJ (y := (a.add (i * 6 + 1), x.2 + 1)) ?_ hownz hgrow (by simpa using hat) hlt9
                  exact ⟨rfl, rfl, rfl, by simp, fun k hk _ => Below.heap_alloc wr _ k hk⟩)
                clear hownz hgrow hat hlt9 HE x1
                gi_wp2
                go_roundw
                case rel => exact ⟨i + 1, _, by go_num, by omega, by simpa using hE.out⟩
                case measure => simp [intOf]; omega
              · obtain rfl : i = N2 := by omega
                have k1 : ¬ (i : Int) < (i : Int) := by omega
                rw [← HF.out] at HE
                have HM : Hid (Mid J b2 fi m' stF O3 u4 wr) := Lib.hid ⟨HE.out.row, fun g hg => ⟨(HE.out.own g hg).1, (HE.out.own g hg).2.2⟩, HE.out.j, by have := HQ.out; rw [HF.out]; simp [kidsL, kidsM]; omega, HE.out.o2, HE.out.c2⟩
                have HU : Hid (μ u4 wr < μ (Value.slice (some { block := g, off := 0 }) (q + 1) cap) wo) := Lib.hid (by
                  have := (hμ _ _ _ _ _ HM.out).2
                  have h2 := HL.out
                  rw [← HQ.out] at h2
                  omega)
                clear HE
                gi_wp2
                go_roundw
                case rel => exact ⟨_, _, _, HM.out⟩
                case measure => exact HU.out
      · gi_wp2
        refine bodyPost_ret (results_none rfl _ _ _) rfl ?_
        exact ⟨⟨_, rfl⟩, .inr ⟨O1, hX⟩⟩
end Go.Proofs.YtkenananejgcpaaGreatDoor.Jsn
