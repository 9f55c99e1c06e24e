/-
  The walk of the statement B64Parts: whatever the bytes it returns true, and nothing that was there before has changed.
-/
import Derived.Test.YtcpifencjmlhaaaQ6
namespace Go.Proofs.Ytcpifencjmlhaaa.B64
open Go.RowKit
theorem encU_append (l m : List Nat) (h : l.length % 3 = 0) : encU (l ++ m) = encU l ++ encU m := by
  unfold encU
  rw [enc_append l h, lets_append]
theorem str_append (l m : List Nat) : str (l ++ m) = str l ++ str m := by
  apply ByteArray.ext
  simp [str]
theorem below_own {w w1 w2 : World} {v : Value} {l : List Nat} {g : Nat} (hb : Below w.heap.size w w1) (ho : Own w1 g v l) (hg : w1.grownBy w2 v.ownBlock) (hz : w.heap.size ≤ g) : Below w.heap.size w w2 :=
  hb.grown hg hb.size (fun k hk => Nat.le_trans hz (own_row ho k hk))
theorem empty_own (w : World) : Own (w.alloc (.cells #[] 5)) w.heap.size (.slice (some ⟨w.heap.size, 0, none⟩) 0 0) [] :=
  ⟨rfl, .inr ⟨w.heap.size, 0, #[], rfl, Nat.le_refl _, heap_alloc_new w _, Nat.le_refl _, Nat.zero_le _, rfl, rfl⟩⟩
set_option maxRecDepth 100000
set_option maxHeartbeats 1000000 in
theorem b64Parts_any (w : World) (A : Option Addr) (c : Nat) (xs : List Nat) (B : Option Addr) (d : Nat) (bs : List Nat) (hRa : RdB w w.heap.size A xs) (hRb : RdB w w.heap.size B bs) (hAn : A = none → c = 0) (hBn : B = none → d = 0) (hba : Bs xs) (hbb : Bs bs)
    (hma : xs.length ≤ 9223372036854775807) (hmb : bs.length ≤ 9223372036854775807) :
    Calls Try.prog 6 #[.slice A xs.length c, .slice B bs.length d] w fun e w' => e = .returned (.bool true) ∧ Below w.heap.size w w' := by
  have HRa := Lib.hid hRa
  have HRb := Lib.hid hRb
  have HAn := Lib.hid hAn
  have HBn := Lib.hid hBn
  have HBa := Lib.hid hba
  have HBb := Lib.hid hbb
  clear hRa hRb hAn hBn hba hbb
  go_enter Try.func6, Try.ntmps6
  go_wp2_with fail
  refine (anchor_any w).mono ?_
  rintro e w1 ⟨rfl, hb1⟩
  have HB1 := Lib.hid hb1
  have hz1 := hb1.size
  clear hb1
  by_cases h1 : 900 < xs.length
  · go_wp2
    go_ret
    exact ⟨rfl, HB1.out⟩
  have d1 : decide ((900 : Int) < (xs.length : Int)) = false := decide_eq_false (by omega)
  by_cases h2 : 900 < bs.length
  · go_wp2
    go_ret
    exact ⟨rfl, HB1.out⟩
  have d2 : decide ((900 : Int) < (bs.length : Int)) = false := decide_eq_false (by omega)
  by_cases h3 : xs.length % 3 = 0
  · have d3 : ((xs.length : Int) % 3 != 0) = false := by rw [bne_eq_false_iff_eq]; omega
    have H3 := Lib.hid h3
    clear h3
    have HBe : Hid (Below w.heap.size w (w1.alloc (.cells #[] 5))) := Lib.hid (HB1.out.alloc hz1 _)
    have HE : Hid (Own (w1.alloc (.cells #[] 5)) w1.heap.size (.slice (some ⟨w1.heap.size, 0, none⟩) 0 0) []) := Lib.hid (empty_own w1)
    go_wp2_with (at_builtin; first
      | (refine wpList_append_bytes rfl _ (.tmp 22) rfl w1.heap.size (.slice (some ⟨w1.heap.size, 0, none⟩) 0 0) [] rfl HE.out A c xs rfl HAn.out ((HRa.out.below HBe.out).more HBe.out.size) (by simp; omega) (by simp) ?_; intro v2 w2 hown2 hgrow2)
      | (refine wpList_append_bytes rfl _ (.tmp 24) rfl w1.heap.size v2 ([] ++ xs) rfl hown2 B d bs rfl HBn.out ((HRb.out.below (below_own HBe.out HE.out hgrow2 hz1)).more (below_own HBe.out HE.out hgrow2 hz1).size) (by simp; omega) (by have := hgrow2.size; simp at this; omega) ?_; intro v3 w3 hown3 hgrow3))
    have hb2 := below_own HBe.out HE.out hgrow2 hz1
    have hb3 := below_own hb2 hown2 hgrow3 hz1
    have hs2 := hgrow2.size
    have HB3 := Lib.hid hb3
    have hz3 := hb3.size
    rw [List.nil_append] at hown3
    obtain ⟨A3, c3, hv, _, _, _, hrd, _⟩ := own_form hown3
    have HC : Hid (Calls Try.prog 8 #[v3] w3 fun e w' => e = .returned (.string (str (encU xs) ++ str (encU bs))) ∧ Below w3.heap.size w3 w') := Lib.hid (by
      have h := Encode_any w3 A3 c3 (xs ++ bs) hrd (HBa.out.append HBb.out) (by rw [List.length_append]; omega)
      rw [← hv, encU_append xs bs H3.out, str_append] at h
      exact h)
    have HE1 : Hid (∀ w, RdB w w.heap.size A xs → Calls Try.prog 8 #[.slice A xs.length c] w fun e w' => e = .returned (.string (str (encU xs))) ∧ Below w.heap.size w w') := Lib.hid fun w hR => Encode_any w A c xs hR HBa.out (by omega)
    have HE2 : Hid (∀ w, RdB w w.heap.size B bs → Calls Try.prog 8 #[.slice B bs.length d] w fun e w' => e = .returned (.string (str (encU bs))) ∧ Below w.heap.size w w') := Lib.hid fun w hR => Encode_any w B d bs hR HBb.out (by omega)
    clear hb2 hb3 hs2 hown3 hrd hv hgrow2 hgrow3 hown2 HE HBe
    have hsum : ¬ 9223372036854775807 < (str (encU xs)).size + (str (encU bs)).size := by
      rw [str_size, str_size, encU_length, encU_length]
      unfold len
      omega
    generalize str (encU xs) = s1 at *
    generalize str (encU bs) = s2 at *
    refine HC.out.mono ?_
    rintro e w4 ⟨rfl, hb4⟩
    have HB4 := Lib.hid (HB3.out.trans (hb4.mono hz3))
    have hz4 := HB4.out.size
    clear hb4 HC HB3
    go_wp2_with fail
    refine (HE1.out w4 ((HRa.out.below HB4.out).more hz4)).mono ?_
    rintro e w5 ⟨rfl, hb5⟩
    have HB5 := Lib.hid (HB4.out.trans (hb5.mono hz4))
    have hz5 := HB5.out.size
    clear hb5 HE1 HB4
    go_wp2_with fail
    refine (HE2.out w5 ((HRb.out.below HB5.out).more hz5)).mono ?_
    rintro e w6 ⟨rfl, hb6⟩
    have HB6 := Lib.hid (HB5.out.trans (hb6.mono hz5))
    clear hb6 HE2 HB5
    go_wp2
    go_ret
    exact ⟨rfl, HB6.out⟩
  · have d3 : ((xs.length : Int) % 3 != 0) = true := by rw [bne_iff_ne]; omega
    clear h3
    go_wp2
    go_ret
    exact ⟨rfl, HB1.out⟩
end Go.Proofs.Ytcpifencjmlhaaa.B64
