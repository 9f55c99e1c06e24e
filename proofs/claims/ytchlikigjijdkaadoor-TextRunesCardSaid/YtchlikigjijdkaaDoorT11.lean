/-
  What strings.Cut at one letter and readPair answer; nothing that was there before is changed.
-/
import Derived.Test.YtchlikigjijdkaaDoorT9
import Derived.Laws.ResultCell
namespace Go.Proofs.YtchlikigjijdkaaDoor.Txt
open Go.RowKit
set_option maxRecDepth 100000
theorem Blk.frozen {w : World} {g : Nat} {t : TypeId} {cs : Array Value} (h : Blk w g t cs) (i : Nat) : w.frozen? ⟨g, i, none⟩ = false := by
  unfold Blk at h; simp [World.frozen?, h]
theorem Blk.put {w : World} {g : Nat} {t : TypeId} {cs : Array Value} (h : Blk w g t cs) (i : Nat) (u : Value) : Blk (w.setCell ⟨g, i, none⟩ u) g t (cs.setIfInBounds i u) := by
  unfold Blk at h ⊢
  simp [World.setCell, Array.getElem?_modify, h]
theorem indexByte_spec (c : UInt8) : ∀ l : List UInt8, (Lib.indexByte l c = -1 ∧ c ∉ l) ∨ ∃ a b, l = a ++ c :: b ∧ c ∉ a ∧ Lib.indexByte l c = (a.length : Nat) := by
  intro l
  induction l with
  | nil => exact .inl ⟨rfl, by simp⟩
  | cons x l ih =>
    by_cases h : x = c
    · subst h
      exact .inr ⟨[], l, rfl, by simp, by simp [Lib.indexByte]⟩
    · have hx : (x == c) = false := by rw [beq_eq_false_iff_ne]; exact h
      rcases ih with ⟨h1, h2⟩ | ⟨a, b, rfl, h2, h3⟩
      · refine .inl ⟨by simp [Lib.indexByte, hx, h1], ?_⟩
        simp only [List.mem_cons, not_or]
        exact ⟨fun e => h e.symm, h2⟩
      · refine .inr ⟨x :: a, b, rfl, ?_, ?_⟩
        · simp only [List.mem_cons, not_or]
          exact ⟨fun e => h e.symm, h2⟩
        · simp only [Lib.indexByte, hx, h3, List.length_cons]
          rw [if_neg (by decide), if_neg (by rw [beq_iff_eq]; omega)]
          omega
/-- What Cut hands back. -/
def Cutt (l : List UInt8) (c : UInt8) (e : Ending) : Prop := (c ∉ l ∧ e = .returned (.tuple #[.string (mk l), .string (mk []), .bool false])) ∨ ∃ a b, l = a ++ c :: b ∧ c ∉ a ∧ e = .returned (.tuple #[.string (mk a), .string (mk b), .bool true])
theorem run_to (w : World) (l : List UInt8) (k : IntKind) (b : Nat) (hb : b ≤ l.length) : (Instr.slice 9 (.string (mk l)) none (some (.int k (b : Int))) none).run Tryd.prog w = .ok (.string (mk (l.take b))) w := by
  have hs := mk_size l
  rw [run_slice_string_h w 9 (mk l) Tryd.underlying9 k b (by omega) (by omega), Int.toNat_natCast]
  have := ByteArray.extract_mk l 0 b
  unfold mk
  rw [this]
  simp
set_option maxHeartbeats 1000000 in
theorem lcut_any (l : List UInt8) (c : UInt8) (w : World) (hl : l.length ≤ 100000000) :
    Calls Tryd.prog 40 #[.string (mk l), .string ⟨#[c]⟩] w fun e w' => Cutt l c e ∧ Below w.heap.size w w' := by
  have HC := Lib.hid (index_any (mk l) c w)
  rw [mk_data] at HC
  have hone : (⟨#[c]⟩ : ByteArray).size = 1 := rfl
  rcases indexByte_spec c l with ⟨h1, h2⟩ | ⟨a, b, hab, h2, h3⟩
  · rw [h1] at HC
    have HF : Hid (Cutt l c (.returned (.tuple #[.string (mk l), .string (mk []), .bool false]))) := Lib.hid (.inl ⟨h2, rfl⟩)
    clear h1 h2
    have hms := mk_size
    have hmt := mk_toList
    go_enter Tryd.func40, Tryd.ntmps40
    go_wp2_with fail
    refine HC.out.mono ?_
    rintro e w1 ⟨rfl, rfl⟩
    go_wp2
    go_ret3
    exact ⟨HF.out, Below.refl _ _⟩
  · rw [h3] at HC
    have HF : Hid (Cutt l c (.returned (.tuple #[.string (mk a), .string (mk b), .bool true]))) := Lib.hid (.inr ⟨a, b, hab, h2, rfl⟩)
    have hlen : l.length = a.length + (b.length + 1) := by rw [hab, List.length_append, List.length_cons]
    have h4 : ∀ w, (Instr.slice 9 (.string (mk l)) none (some (.int .i64 (a.length : Int))) none).run Tryd.prog w = .ok (.string (mk a)) w := fun w => by
      have := run_to w l .i64 a.length (by omega)
      rw [hab, List.take_left] at this
      rw [hab]
      exact this
    have h5 : ∀ w, (Instr.slice 9 (.string (mk l)) (some (.int .i64 ((a.length : Int) + 1))) none none).run Tryd.prog w = .ok (.string (mk b)) w := fun w => by
      have := run_from w l .i64 (a.length + 1) (by omega)
      have e : l.drop (a.length + 1) = b := by rw [hab, ← List.drop_drop, List.drop_left]; rfl
      rw [e] at this
      exact this
    have hal : a.length ≤ 100000000 := by omega
    have q1 : IntKind.i64.wrap ((a.length : Int) + 1) = (a.length : Int) + 1 := by rw [IntKind.wrap_i64]; omega
    clear h2 h3 hab hlen
    generalize a.length = n at *
    have hms := mk_size
    have hmt := mk_toList
    go_enter Tryd.func40, Tryd.ntmps40
    go_wp2_with fail
    refine HC.out.mono ?_
    rintro e w1 ⟨rfl, rfl⟩
    go_wp2
    go_quiet (fail)
    go_wp2
    go_ret3
    exact ⟨HF.out, drew_n (Below.refl _ _) _⟩
set_option maxHeartbeats 1000000 in
theorem cut_any (l : List UInt8) (c : UInt8) (w : World) (hl : l.length ≤ 100000000) :
    Calls Tryd.prog 29 #[.string (mk l), .string ⟨#[c]⟩] w fun e w' => Cutt l c e ∧ Below w.heap.size w w' := by
  have HC := Lib.hid (lcut_any l c w hl)
  have hms := mk_size
  have hmt := mk_toList
  go_enter Tryd.func29, Tryd.ntmps29
  go_wp2_with fail
  refine HC.out.mono ?_
  rintro e w1 ⟨hF, hb1⟩
  have HB := Lib.hid hb1
  clear HC hb1
  rcases hF with ⟨h1, rfl⟩ | ⟨a, b, h1, h2, rfl⟩
  · have HF : Hid (Cutt l c (.returned (.tuple #[.string (mk l), .string (mk []), .bool false]))) := Lib.hid (.inl ⟨h1, rfl⟩)
    clear h1
    go_wp2
    go_ret3
    exact ⟨HF.out, HB.out⟩
  · have HF : Hid (Cutt l c (.returned (.tuple #[.string (mk a), .string (mk b), .bool true]))) := Lib.hid (.inr ⟨a, b, h1, h2, rfl⟩)
    clear h1 h2
    go_wp2
    go_ret3
    exact ⟨HF.out, HB.out⟩
/-- A pair and an error's number, as they are handed back. -/
def pairE (r : Pr × Nat) : Value := .tuple #[.agg #[.string (mk r.1.1), .string (mk r.1.2)], .int .i64 (r.2 : Nat)]
theorem two_of (a b : List UInt8) (ha : (61 : UInt8) ∉ a) (hb : (61 : UInt8) ∉ b) : one (a ++ 61 :: b) = two a b := by
  unfold one
  rw [split_at 61 a b ha, split_none 61 b hb, if_neg (by simp)]
  rfl
set_option maxHeartbeats 2000000 in
theorem readPair_any (p : List UInt8) (w : World) (hT : Tabs w) (h2 : 2 ≤ w.heap.size) (hl : p.length ≤ 1000000) :
    Calls Tryd.prog 30 #[.string (mk p)] w fun e w' => e = .returned (pairE (one p)) ∧ Below w.heap.size w w' := by
  have HT := Lib.hid hT
  clear hT
  have hcnt := split_count 61 p
  by_cases hc : p.count 61 = 1
  · have hn : ((Lib.countByte p 61 : Int) != 1) = false := by unfold Lib.countByte; rw [bne_eq_false_iff_eq]; omega
    have hm : (61 : UInt8) ∈ p := List.count_pos_iff.1 (by omega)
    have HP := Lib.hid hc
    have HM := Lib.hid hm
    clear hcnt hm hc
    have hms := mk_size
    have hmt := mk_toList
    go_enter Tryd.func30, Tryd.ntmps30
    go_wp2_with fail
    refine (count_any (mk p) 61 _).mono ?_
    rintro e w1 ⟨rfl, rfl⟩
    rw [mk_data]
    generalize Lib.countByte p 61 = n at *
    go_wp2_with fail
    refine (cut_any p 61 _ (by omega)).mono ?_
    rintro e w1 ⟨hF, hb1⟩
    have HT1 := Lib.hid (HT.out.below (((Below.refl w.heap.size w).alloc (Nat.le_refl _) _).trans (hb1.mono (by simp))) h2)
    have hsz1 := hb1.size
    have hS : (w.alloc (.cells #[.string ⟨#[]⟩, .string ⟨#[]⟩] 38)).heap.size = w.heap.size + 1 := by simp
    rw [hS] at hsz1
    have HK1 := Lib.hid ((Blk.new w 38 #[.string ⟨#[]⟩, .string ⟨#[]⟩]).below hb1 (by simp))
    have HB1 : Hid (Below w.heap.size w w1) := Lib.hid (((Below.refl w.heap.size w).alloc (Nat.le_refl _) _).trans (hb1.mono (by simp)))
    clear hb1 hS
    rcases hF with ⟨h1, rfl⟩ | ⟨a, b, hab, ha, rfl⟩
    · exact absurd HM.out h1
    have hb : (61 : UInt8) ∉ b := by
      have := HP.out
      rw [hab, List.count_append, List.count_cons_self] at this
      exact fun h => by have := List.count_pos_iff.2 h; omega
    have hlen : p.length = a.length + (b.length + 1) := by rw [hab, List.length_append, List.length_cons]
    have HE : Hid (one p = two a b) := Lib.hid (by rw [hab]; exact two_of a b ha hb)
    have hal : a.length ≤ 1000000 := by omega
    have hbl : b.length ≤ 1000000 := by omega
    clear hab ha hb hlen HP HM
    go_wp2_with fail
    refine (unescape_any a _ HT1.out (by omega) (by omega)).mono ?_
    rintro e w2 ⟨rfl, hb2⟩
    have HT2 := Lib.hid (HT1.out.below hb2 (by omega))
    have HK2 := Lib.hid (HK1.out.below hb2 (by omega))
    have HB2 : Hid (Below w.heap.size w w2) := Lib.hid (HB1.out.trans (hb2.mono (by omega)))
    have hsz2 := hb2.size
    clear hb2 HT1 HB1 HK1
    have hcode := unE_code a
    have hcodeb := unE_code b
    by_cases hea : (unE a).2 = 0
    · have hn2 : (((unE a).2 : Int) != 0) = false := by rw [bne_eq_false_iff_eq]; omega
      have HA : Hid ((unE a).2 = 0) := Lib.hid hea
      clear hea
      go_wp2_with fail
      refine (unescape_any b _ HT2.out (by omega) (by omega)).mono ?_
      rintro e w3 ⟨rfl, hb3⟩
      have HK3 := Lib.hid (HK2.out.below hb3 (by omega))
      have HB3 : Hid (Below w.heap.size w w3) := Lib.hid (HB2.out.trans (hb3.mono (by omega)))
      have hsz3 := hb3.size
      clear hb3 HT2 HB2 HK2
      have c0 : w3.cell? ⟨w.heap.size, 0, none⟩ = some (.string ⟨#[]⟩) := HK3.out.cell 0
      have f0 : w3.frozen? ⟨w.heap.size, 0, none⟩ = false := HK3.out.frozen 0
      have c1 : w3.cell? ⟨w.heap.size, 1, none⟩ = some (.string ⟨#[]⟩) := HK3.out.cell 1
      have f1 : w3.frozen? ⟨w.heap.size, 1, none⟩ = false := HK3.out.frozen 1
      by_cases heb : (unE b).2 = 0
      · have hn3 : (((unE b).2 : Int) != 0) = false := by rw [bne_eq_false_iff_eq]; omega
        by_cases hna : (unE a).1 = []
        · have HR : Hid (pairE (one p) = .tuple #[.agg #[.string ⟨#[]⟩, .string ⟨#[]⟩], .int .i64 10]) := Lib.hid (by
            rw [HE.out]; unfold two; rw [if_neg (fun h => h HA.out), if_neg (fun h => h heb), if_pos hna]; rfl)
          have hq : ((unE a).1 == ([] : List UInt8)) = true := by rw [beq_iff_eq]; exact hna
          have hq2 : (unE a).1.isEmpty = true := by rw [List.isEmpty_iff]; exact hna
          clear heb hna
          generalize (unE a).2 = ea at *
          generalize (unE b).2 = eb at *
          generalize (unE a).1 = na at *
          generalize (unE b).1 = nb at *
          go_wp2
          have qK := (HK3.out.put 0 (.string ⟨#[]⟩)).put 1 (.string ⟨#[]⟩)
          have q0 := qK.cell 0
          have q1 := qK.cell 1
          refine bodyPost_ret (v := .tuple #[.agg #[.string ⟨#[]⟩, .string ⟨#[]⟩], .int .i64 10]) (by simp [results, Tryd.results30, go_sem, q0, q1]) rfl ⟨by rw [HR.out], ?_⟩
          exact (HB3.out.setCell (Nat.le_refl _) _).setCell (Nat.le_refl _) _
        · have HR : Hid (pairE (one p) = .tuple #[.agg #[.string (mk (unE a).1), .string (mk (unE b).1)], .int .i64 0]) := Lib.hid (by
            rw [HE.out]; unfold two; rw [if_neg (fun h => h HA.out), if_neg (fun h => h heb), if_neg hna]; rfl)
          have hq : ((unE a).1 == ([] : List UInt8)) = false := by rw [beq_eq_false_iff_ne]; exact hna
          have hq2 : (unE a).1.isEmpty = false := by rw [List.isEmpty_eq_false_iff]; exact hna
          clear heb hna
          generalize (unE a).2 = ea at *
          generalize (unE b).2 = eb at *
          generalize (unE a).1 = na at *
          generalize (unE b).1 = nb at *
          go_wp2
          have qK := (HK3.out.put 0 (.string (mk na))).put 1 (.string (mk nb))
          have q0 := qK.cell 0
          have q1 := qK.cell 1
          refine bodyPost_ret (v := .tuple #[.agg #[.string (mk na), .string (mk nb)], .int .i64 0]) (by simp [results, Tryd.results30, go_sem, q0, q1]) rfl ⟨by rw [HR.out], ?_⟩
          exact (HB3.out.setCell (Nat.le_refl _) _).setCell (Nat.le_refl _) _
      · have HR : Hid (pairE (one p) = .tuple #[.agg #[.string ⟨#[]⟩, .string ⟨#[]⟩], .int .i64 ((unE b).2 : Nat)]) := Lib.hid (by
          rw [HE.out]; unfold two; rw [if_neg (fun h => h HA.out), if_pos heb]; rfl)
        have hn3 : (((unE b).2 : Int) != 0) = true := by rw [bne_iff_ne]; omega
        clear heb
        generalize (unE a).2 = ea at *
        generalize (unE b).2 = eb at *
        go_wp2
        have qK := (HK3.out.put 0 (.string ⟨#[]⟩)).put 1 (.string ⟨#[]⟩)
        have q0 := qK.cell 0
        have q1 := qK.cell 1
        refine bodyPost_ret (v := .tuple #[.agg #[.string ⟨#[]⟩, .string ⟨#[]⟩], .int .i64 (eb : Nat)]) (by simp [results, Tryd.results30, go_sem, q0, q1]) rfl ⟨by rw [HR.out], ?_⟩
        exact (HB3.out.setCell (Nat.le_refl _) _).setCell (Nat.le_refl _) _
    · have HR : Hid (pairE (one p) = .tuple #[.agg #[.string ⟨#[]⟩, .string ⟨#[]⟩], .int .i64 ((unE a).2 : Nat)]) := Lib.hid (by
        rw [HE.out]; unfold two; rw [if_pos hea]; rfl)
      have hn2 : (((unE a).2 : Int) != 0) = true := by rw [bne_iff_ne]; omega
      clear hea
      have c0 : w2.cell? ⟨w.heap.size, 0, none⟩ = some (.string ⟨#[]⟩) := HK2.out.cell 0
      have f0 : w2.frozen? ⟨w.heap.size, 0, none⟩ = false := HK2.out.frozen 0
      have c1 : w2.cell? ⟨w.heap.size, 1, none⟩ = some (.string ⟨#[]⟩) := HK2.out.cell 1
      have f1 : w2.frozen? ⟨w.heap.size, 1, none⟩ = false := HK2.out.frozen 1
      generalize (unE a).2 = ea at *
      go_wp2
      have qK := (HK2.out.put 0 (.string ⟨#[]⟩)).put 1 (.string ⟨#[]⟩)
      have q0 := qK.cell 0
      have q1 := qK.cell 1
      refine bodyPost_ret (v := .tuple #[.agg #[.string ⟨#[]⟩, .string ⟨#[]⟩], .int .i64 (ea : Nat)]) (by simp [results, Tryd.results30, go_sem, q0, q1]) rfl ⟨by rw [HR.out], ?_⟩
      exact (HB2.out.setCell (Nat.le_refl _) _).setCell (Nat.le_refl _) _
  · have HE : Hid (pairE (one p) = .tuple #[.agg #[.string ⟨#[]⟩, .string ⟨#[]⟩], .int .i64 31]) := Lib.hid (by unfold one; rw [if_pos (by omega)]; rfl)
    have hn : ((Lib.countByte p 61 : Int) != 1) = true := by unfold Lib.countByte; rw [bne_iff_ne]; omega
    have hms := mk_size
    have hmt := mk_toList
    go_enter Tryd.func30, Tryd.ntmps30
    go_wp2_with fail
    refine (count_any (mk p) 61 _).mono ?_
    rintro e w1 ⟨rfl, rfl⟩
    rw [mk_data]
    generalize Lib.countByte p 61 = n at *
    go_wp2
    refine bodyPost_ret (v := .tuple #[.agg #[.string ⟨#[]⟩, .string ⟨#[]⟩], .int .i64 31]) (by simp [results, Tryd.results30, go_sem]) rfl ⟨by rw [HE.out], ?_⟩
    exact (Below.refl _ _).alloc (Nat.le_refl _) _
end Go.Proofs.YtchlikigjijdkaaDoor.Txt
