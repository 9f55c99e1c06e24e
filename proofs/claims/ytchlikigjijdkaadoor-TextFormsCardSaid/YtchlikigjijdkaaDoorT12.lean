/-
  What Form answers: the document's pairs, or an error's number; nothing that was there before is changed.
-/
import Derived.Test.YtchlikigjijdkaaDoorT11
namespace Go.Proofs.YtchlikigjijdkaaDoor.Txt
open Go.RowKit
set_option maxRecDepth 100000
/-- Pairs in a row of the call's own, and an error's number, as they are handed back. -/
def Pairs (B : Nat) (r : List Pr × Nat) (w' : World) (e : Ending) : Prop := ∃ A c, e = .returned (.tuple #[.slice A r.1.length c, .int .i64 (r.2 : Nat)]) ∧ (A = none → c = 0) ∧ r.1.length ≤ c ∧ c ≤ maxLen ∧ Rd w' w'.heap.size A (cells2 r.1) ∧ (∀ ad, A = some ad → B ≤ ad.block)
theorem pairs_nil (B n : Nat) (w' : World) : Pairs B ([], n) w' (.returned (.tuple #[.slice none 0 0, .int .i64 (n : Nat)])) := ⟨none, 0, rfl, fun _ => rfl, Nat.le_refl _, Nat.zero_le _, Rd.nil _ _ _, fun ad h => by cases h⟩
def lenOf : Value → Nat
  | .string s => s.size
  | _ => 0
def flagOf : Value → Nat
  | .bool true => 1
  | _ => 0
theorem info38 : (Tryd.prog.info? 38).map (fun i => (i.zero, i.size, i.bytes)) = some (some (.agg #[.string ⟨#[]⟩, .string ⟨#[]⟩]), 2, 32) := by kernel_rfl
abbrev OwnP (w : World) (base : Nat) (v : Value) (l : List Pr) : Prop := w.ownsRow base 38 2 v l.length (cells2 l)
theorem formF_step (acc : List Pr) (p : List UInt8) (ps : List (List UInt8)) : formF acc (p :: ps) = if acc.length = 32 then ([], 14) else if (one p).2 ≠ 0 then ([], (one p).2) else if has acc (one p).1.1 = true then ([], 15) else formF (acc ++ [(one p).1]) ps := rfl
theorem has_found {l : List Pr} {n : List UInt8} {i : Nat} {q : Pr} (h : l[i]? = some q) (hq : q.1 = n) : has l n = true := by
  unfold has
  rw [List.any_eq_true]
  exact ⟨q, List.mem_of_getElem? h, decide_eq_true hq⟩
theorem has_not {l : List Pr} {n : List UInt8} (h : ∀ q ∈ l, q.1 ≠ n) : ¬ has l n = true := by
  unfold has
  rw [List.any_eq_true]
  rintro ⟨q, hq, he⟩
  exact h q hq (of_decide_eq_true he)
set_option maxHeartbeats 4000000 in
theorem form_any (l : List UInt8) (w : World) (hT : Tabs w) (h2 : 2 ≤ w.heap.size) (hl : l.length ≤ 1000000) :
    Calls Tryd.prog 17 #[.string (mk l)] w fun e w' => Pairs w.heap.size (form l) w' e ∧ Below w.heap.size w w' := by
  have HT := Lib.hid hT
  clear hT
  have hms := mk_size
  have hmt := mk_toList
  go_enter Tryd.func17, Tryd.ntmps17
  by_cases h0 : l = []
  · subst h0
    have he : ((([] : List UInt8)).isEmpty) = true := rfl
    go_wp2
    go_ret2
    exact ⟨pairs_nil _ 0 _, Below.refl _ _⟩
  have he : (l == ([] : List UInt8)) = false := by rw [beq_eq_false_iff_ne]; exact h0
  have he2 : l.isEmpty = false := by rw [List.isEmpty_eq_false_iff]; exact h0
  have HF0 : Hid (form l = formF [] (split 38 l)) := Lib.hid (by unfold form; rw [if_neg h0])
  clear h0
  go_wp2
  go_loopw [0, 4, 5] (fun s v m wr => ∃ (t : List UInt8) (acc : List Pr) (f : Bool), s = .string (mk t) ∧ m = .bool f ∧ acc.length ≤ 32 ∧ t.length ≤ l.length ∧ (f = true → form l = formF acc (split 38 t)) ∧ (f = false → form l = (acc, 0)) ∧ OwnP wr w.heap.size v acc ∧ Below w.heap.size w wr) (fun s _ m _ => lenOf s + flagOf m)
  case atStart => exact ⟨l, [], true, rfl, rfl, by simp, Nat.le_refl _, fun _ => HF0.out, fun h => (by cases h), ⟨rfl, .inl ⟨rfl, rfl⟩⟩, Below.refl _ _⟩
  case round =>
    obtain ⟨t, acc, f, rfl, rfl, hacc, htl, hft, hff, hrow, hb⟩ := hrel
    have HO := Lib.hid hrow
    have HB := Lib.hid hb
    have hsz := hb.size
    obtain ⟨A, c, rfl, hc1, hc2, hAc, hRd, hAb⟩ := row_form (cells2_length acc) hrow
    have HR := Lib.hid hRd
    have HA := Lib.hid hAb
    have HAc := Lib.hid hAc
    clear hrow hb HF0 hRd hAb hAc
    cases f with
    | false =>
      have HF := Lib.hid (hff rfl)
      clear hft hff
      go_wp2
      go_ret2
      refine ⟨?_, HB.out⟩
      rw [HF.out]
      exact ⟨A, c, rfl, HAc.out, hc1, hc2, HR.out, fun ad h => by obtain ⟨p, rfl, h1, _⟩ := HA.out ad h; exact h1⟩
    | true =>
      have HF := Lib.hid (hft rfl)
      clear hft hff
      by_cases h32 : acc.length = 32
      · have HE : Hid (form l = ([], 14)) := Lib.hid (by
          rw [HF.out]
          cases hs : split 38 t with
          | nil => exact absurd hs (split_ne _ _)
          | cons p ps => rw [formF_step, if_pos h32])
        have hq : ((acc.length : Int) == 32) = true := by rw [beq_iff_eq]; omega
        have h32' := Lib.hid h32
        clear h32
        go_wp2
        go_ret2
        exact ⟨by rw [HE.out]; exact pairs_nil _ 14 _, HB.out⟩
      · have hq : ((acc.length : Int) == 32) = false := by rw [beq_eq_false_iff_ne]; omega
        have hT1 := HT.out.below HB.out h2
        have HT1 := Lib.hid hT1
        clear hT1
        go_wp2_with fail
        refine (cut_any t 38 _ (by omega)).mono ?_
        rintro e w1 ⟨hC, hb1⟩
        -- the part a, what is left b, and whether there is more
        obtain ⟨a, b, g, rfl, hal, hbl, hmea, hsp⟩ : ∃ (a b : List UInt8) (g : Bool), e = .returned (.tuple #[.string (mk a), .string (mk b), .bool g]) ∧ a.length ≤ t.length ∧ b.length ≤ t.length ∧ (b.length + (if g then 1 else 0) < t.length + 1) ∧ split 38 t = a :: (if g then split 38 b else []) := by
          rcases hC with ⟨h1, rfl⟩ | ⟨a, b, hab, ha, rfl⟩
          · exact ⟨t, [], false, rfl, Nat.le_refl _, by simp, by simp, by rw [split_none _ _ h1]; rfl⟩
          · have := congrArg List.length hab
            rw [List.length_append, List.length_cons] at this
            exact ⟨a, b, true, rfl, by omega, by omega, by simp; omega, by rw [hab, split_at _ _ _ ha]; rfl⟩
        have HS := Lib.hid hsp
        have HT2 := Lib.hid (HT1.out.below hb1 (by omega))
        have HB1 : Hid (Below wr.heap.size wr w1) := Lib.hid hb1
        have hsz1 := hb1.size
        clear hC hb1 HT1 hsp
        have HM : Hid (b.length + (if g then 1 else 0) < t.length + 1) := Lib.hid hmea
        clear hmea
        go_wp2_with fail
        refine (readPair_any a _ HT2.out (by omega) (by omega)).mono ?_
        rintro e w2 ⟨rfl, hb2⟩
        have HB2 : Hid (Below wr.heap.size wr w2) := Lib.hid (HB1.out.trans (hb2.mono (by omega)))
        have hsz2 := hb2.size
        clear hb2 HT2 HB1
        have hone := one_good (p := a)
        have HF1 : Hid (form l = if (one a).2 ≠ 0 then ([], (one a).2) else if has acc (one a).1.1 = true then ([], 15) else formF (acc ++ [(one a).1]) (if g then split 38 b else [])) := Lib.hid (by rw [HF.out, HS.out, formF_step, if_neg h32])
        clear HF HS
        unfold pairE
        have HG := Lib.hid hone
        clear hone
        generalize one a = r at *
        obtain ⟨⟨x, y⟩, ec⟩ := r
        simp only at HF1
        simp only
        by_cases hec : ec = 0
        · rw [if_neg (fun h => h hec)] at HF1
          have hq2 : ((ec : Int) != 0) = false := by rw [bne_eq_false_iff_eq]; omega
          have hec' := Lib.hid hec
          clear hec HG
          have hR3 : Rd (w2.alloc (.cells #[.string (mk x), .string (mk y)] 38)) (w2.alloc (.cells #[.string (mk x), .string (mk y)] 38)).heap.size A (cells2 acc) := ((HR.out.below HB2.out).below ((Below.refl wr.heap.size w2).alloc (by omega) _)).more (by simp; omega)
          have HR3 := Lib.hid hR3
          clear hR3
          go_wp2_with fail
          refine (find_any acc x A c _ HR3.out (by omega)).mono ?_
          rintro e w4 ⟨hF, hb4⟩
          have HK4 := Lib.hid ((Blk.new w2 38 #[.string (mk x), .string (mk y)]).below hb4 (by simp))
          have hsz4 := hb4.size
          have HB4 : Hid (Below wr.heap.size wr w4) := Lib.hid (((HB2.out.alloc (by omega) _)).trans (hb4.mono (by simp; omega)))
          have HBw : Hid (Below w.heap.size w w4) := Lib.hid (HB.out.trans (HB4.out.mono hsz))
          have hS : (w2.alloc (.cells #[.string (mk x), .string (mk y)] 38)).heap.size = w2.heap.size + 1 := by simp
          rw [hS] at hsz4
          clear hb4 HR3 HB2 hS
          rcases hF with ⟨i, q, hiq, hqn, _, rfl⟩ | ⟨hno, rfl⟩
          · have HE : Hid (form l = ([], 15)) := Lib.hid (by rw [HF1.out, if_pos (has_found hiq hqn)])
            clear hiq hqn HF1
            go_wp2
            go_ret2
            exact ⟨by rw [HE.out]; exact pairs_nil _ 15 _, HBw.out⟩
          · have HE : Hid (form l = formF (acc ++ [(x, y)]) (if g then split 38 b else [])) := Lib.hid (by rw [HF1.out, if_neg (has_not hno)])
            clear hno HF1
            have c0 : w4.cell? ⟨w2.heap.size, 0, none⟩ = some (.string (mk x)) := HK4.out.cell 0
            have c1 : w4.cell? ⟨w2.heap.size, 1, none⟩ = some (.string (mk y)) := HK4.out.cell 1
            have HO4 : Hid (OwnP w4 w.heap.size (.slice A acc.length c) acc) := Lib.hid (row_below HO.out HB4.out)
            have hb4 := HBw.out.size
            go_wp2_with (at_builtin; refine wpList_append_elem rfl _ _ 31 38 rfl w.heap.size 2 32 _ Tryd.underlying31 info38 rfl (by decide) (by decide) _ acc.length (cells2 acc) [.string (mk x), .string (mk y)] rfl HO4.out rfl (by intro u hu; simp at hu; rcases hu with rfl | rfl <;> rfl) rfl (by omega) hb4 _ rfl ?_; intro v6 w6 hown6 hbel6 _)
            have HO6 : Hid (OwnP w6 w.heap.size v6 (acc ++ [(x, y)])) := Lib.hid (by
              show w6.ownsRow _ _ _ _ _ _
              rw [cells2_append, List.length_append]
              exact hown6)
            have HB6 : Hid (Below w.heap.size w w6) := Lib.hid (HBw.out.trans hbel6)
            clear hown6 hbel6 HO4 HK4 HB4 HBw c0 c1
            go_wp2
            go_roundw
            case rel => exact ⟨b, acc ++ [(x, y)], g, rfl, rfl, by rw [List.length_append]; simp; omega, by omega, fun h => by rw [HE.out, h]; rfl, fun h => by rw [HE.out, h]; rfl, HO6.out, HB6.out⟩
            case measure =>
              have := HM.out
              cases g <;> simp [lenOf, flagOf, mk_size] at this ⊢ <;> omega
        · have HE : Hid (form l = ([], ec)) := Lib.hid (by rw [HF1.out, if_pos hec])
          have hq2 : ((ec : Int) != 0) = true := by rw [bne_iff_ne]; omega
          clear HF1
          go_wp2
          go_ret2
          refine ⟨by rw [HE.out]; exact pairs_nil _ ec _, ?_⟩
          exact (HB.out.trans (HB2.out.mono hsz)).alloc (by omega) _
end Go.Proofs.YtchlikigjijdkaaDoor.Txt
