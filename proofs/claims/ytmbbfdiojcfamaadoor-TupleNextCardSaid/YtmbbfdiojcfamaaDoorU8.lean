/-
  What compareParts, Compare and the document's texts and Compare answer; nothing that was there before is changed.
-/
import Derived.Test.YtmbbfdiojcfamaaDoorU7
namespace Go.Proofs.YtmbbfdiojcfamaaDoor.Txt
open Go.RowKit Tup
set_option maxRecDepth 100000
set_option maxHeartbeats 2000000 in
theorem texts_any (a b : List UInt8) (w : World) :
    Calls Tryd.prog 29 #[.string (mk a), .string (mk b)] w fun e w' => e = .returned (.int .i64 (cmp a b)) ∧ w' = w := by
  have hms := mk_size
  have hmt := mk_toList
  have h1 := less_cmp a b
  have h2 := less_cmp b a
  have hn := cmp_neg a b
  have hr := cmp_range a b
  have he : (a == b) = decide (cmp a b = 0) := by
    rw [Bool.eq_iff_iff, beq_iff_eq, decide_eq_true_iff]
    exact ⟨fun h => by rw [h]; exact cmp_self b, cmp_zero a b⟩
  have HN := Lib.hid hn
  rw [hn] at h2
  clear hn
  generalize cmp a b = z at *
  rcases hr with rfl | rfl | rfl
  · have q1 : Op.bytesLess a b = true := by rw [h1]; rfl
    clear h1 h2 he HN
    go_enter Tryd.func29, Tryd.ntmps29
    go_wp2
    go_ret
    exact ⟨rfl, rfl⟩
  · have q1 : Op.bytesLess a b = false := by rw [h1]; rfl
    have q3 : (a == b) = true := by rw [he]; rfl
    clear h1 h2 he HN
    go_enter Tryd.func29, Tryd.ntmps29
    go_wp2
    go_ret
    exact ⟨rfl, rfl⟩
  · have q1 : Op.bytesLess a b = false := by rw [h1]; rfl
    have q3 : (a == b) = false := by rw [he]; rfl
    clear h1 h2 he HN
    go_enter Tryd.func29, Tryd.ntmps29
    go_wp2
    go_ret
    exact ⟨rfl, rfl⟩
theorem cmpS_any (a b : List UInt8) (w : World) :
    Calls Tryd.prog 18 #[.string (mk a), .string (mk b)] w fun e w' => e = .returned (.int .i64 (cmp a b)) ∧ w' = w := by
  refine (compare_lib (mk a) (mk b) w).mono ?_
  rintro e w' ⟨rfl, rfl⟩
  rw [mk_data, mk_data]
  exact ⟨rfl, rfl⟩
set_option maxHeartbeats 2000000 in
theorem compareParts_any (p q : Pt) (w : World) :
    Calls Tryd.prog 31 #[Pv p, Pv q] w fun e w' => e = .returned (.int .i64 (pcmp p q)) ∧ Below w.heap.size w w' := by
  have hms := mk_size
  have hmt := mk_toList
  obtain ⟨pb, pn, pt⟩ := p
  obtain ⟨qb, qn, qt⟩ := q
  have HB0 : Hid (Below w.heap.size w ((w.alloc (.cells #[.bool pb, .int .i64 pn, .string (mk pt)] 33)).alloc (.cells #[.bool qb, .int .i64 qn, .string (mk qt)] 33))) := Lib.hid (((Below.refl w.heap.size w).alloc (Nat.le_refl _) _).alloc (by simp) _)
  unfold Pv
  simp only
  cases pb <;> cases qb
  · go_enter Tryd.func31, Tryd.ntmps31
    go_wp2_with fail
    refine (cmpS_any pt qt _).mono ?_
    rintro e w1 ⟨rfl, rfl⟩
    go_wp2
    go_ret
    exact ⟨rfl, HB0.out⟩
  · go_enter Tryd.func31, Tryd.ntmps31
    go_wp2
    go_ret
    exact ⟨rfl, HB0.out⟩
  · go_enter Tryd.func31, Tryd.ntmps31
    go_wp2
    go_ret
    exact ⟨rfl, HB0.out⟩
  · go_enter Tryd.func31, Tryd.ntmps31
    go_wp2_with fail
    refine (compareInt_lib pn qn _).mono ?_
    rintro e w1 ⟨rfl, rfl⟩
    go_wp2
    go_ret
    exact ⟨rfl, HB0.out⟩
end Go.Proofs.YtmbbfdiojcfamaaDoor.Txt
