/-
  The walk of the statement MacCodes: whatever the bytes it returns true, and nothing that was there before has changed.
-/
import Derived.Test.YtfkkpbfoipfekaaDoorM8
import Derived.Test.YtfkkpbfoipfekaaDoorReg8
namespace Go.Proofs.YtfkkpbfoipfekaaDoor
open Go.RowKit
theorem below_lit {w w1 w2 : World} {g : Nat} (h : Below w.heap.size w w1) (hg : w1.grownBy w2 (Value.ownBlock (.slice (some ⟨g, 0, none⟩) 0 0))) (hle : w.heap.size ≤ g) : Below w.heap.size w w2 :=
  h.grown hg h.size (fun j hj => by simp only [Value.ownBlock, Option.some.injEq] at hj; omega)
/-- A conversion under a guard that says yes. -/
theorem wpList_convertRunW {P : Program} {ops : Array Oper} {rest : List Oper} {o : Oper} {a : Act} {w : World} {Q : Exit → Act → World → Prop} (s d : TypeId) (x : Operand) (ho : o.op = .convert s d x) (hw : Region.wanted o (yielded ops a.tmps) = true) (p v : Value) (hx : a.eval x = p)
    (hrun : (convert s d p).run P w = .ok v w) (h : wpList P ops Q rest (a.put o.dst v) w) : wpList P ops Q (o :: rest) a w :=
  wpList_step fun _ hK => by
    rw [if_pos hw]
    unfold Oper.wp execOp
    simp only [ho, hx, Sem.run_bind, hrun, Result.andThen_ok, Sem.run_pure]
    exact hK _ _ h
set_option maxRecDepth 100000
set_option maxHeartbeats 1000000 in
theorem macCodes_any (w : World) (A B D : Option Addr) (c d f : Nat) (key a b : List Nat) (hRk : RdB w w.heap.size A key) (hRa : RdB w w.heap.size B a) (hRb : RdB w w.heap.size D b) (hAc : A = none → c = 0) (hBd : B = none → d = 0) (hDf : D = none → f = 0) (hc : key.length ≤ c) (hd : a.length ≤ d) (hf : b.length ≤ f)
    (hbk : Sha.Bs key) (hba : Sha.Bs a) (hbb : Sha.Bs b) (hI : Iat w) (hK : Kat w) (h2 : 2 ≤ w.heap.size) :
    Calls Tryd.prog 3 #[.slice A key.length c, .slice B a.length d, .slice D b.length f] w fun e w' => e = .returned (.bool true) ∧ Below w.heap.size w w' := by
  have HRk := Lib.hid hRk
  have HRa := Lib.hid hRa
  have HRb := Lib.hid hRb
  have HBk := Lib.hid hbk
  have HBa := Lib.hid hba
  have HBb := Lib.hid hbb
  have HI := Lib.hid hI
  have HK := Lib.hid hK
  have HAc := Lib.hid hAc
  have HBd := Lib.hid hBd
  have HDf := Lib.hid hDf
  clear hRk hRa hRb hbk hba hbb hI hK hAc hBd hDf
  go_enter Tryd.func3, Tryd.ntmps3
  go_wp2_with fail
  refine (anchor_any w HI.out HK.out h2).mono ?_
  rintro e w1 ⟨rfl, hb1⟩
  have HB1 := Lib.hid hb1
  have hz1 := hb1.size
  clear hb1
  by_cases hl1 : 200 < key.length
  · have hd1 : decide ((200 : Int) < (key.length : Int)) = true := by simp; omega
    go_wp2
    go_ret
    exact ⟨rfl, HB1.out⟩
  have hd1 : decide ((200 : Int) < (key.length : Int)) = false := by simp; omega
  by_cases hl2 : 150 < a.length
  · have hd2 : decide ((150 : Int) < (a.length : Int)) = true := by simp; omega
    go_wp2
    go_ret
    exact ⟨rfl, HB1.out⟩
  have hd2 : decide ((150 : Int) < (a.length : Int)) = false := by simp; omega
  by_cases hl3 : 150 < b.length
  · have hd3 : decide ((150 : Int) < (b.length : Int)) = true := by simp; omega
    go_wp2
    go_ret
    exact ⟨rfl, HB1.out⟩
  have hd3 : decide ((150 : Int) < (b.length : Int)) = false := by simp; omega
  have HE := Lib.hid (empty_own w1)
  have HBe : Hid (Below w.heap.size w (w1.alloc (.cells #[] 5))) := Lib.hid (HB1.out.alloc hz1 _)
  go_wp2_with (at_builtin; first
    | (refine wpList_append_bytes rfl _ (.tmp 25) rfl w1.heap.size _ [] rfl HE.out B d a rfl HBd.out ((HRa.out.below HBe.out).more (by simp; omega)) (by simp; omega) (by simp) ?_; intro v2 w2 hown2 hgrow2 _)
    | (refine wpList_append_bytes rfl _ (.tmp 27) rfl w1.heap.size _ ([] ++ a) rfl hown2 D f b rfl HDf.out ((HRb.out.below (below_lit HBe.out hgrow2 hz1)).more (below_lit HBe.out hgrow2 hz1).size) (by simp; omega) (by have := hgrow2.size; simp at this; omega) ?_; intro v3 w3 hown3 hgrow3 _))
  have HB2 : Hid (Below w.heap.size w w2) := Lib.hid (below_lit HBe.out hgrow2 hz1)
  have HB3 : Hid (Below w.heap.size w w3) := Lib.hid (HB2.out.grown hgrow3 HB2.out.size (fun j hj => Nat.le_trans hz1 (own_row hown2 j hj)))
  have hz3 : w.heap.size ≤ w3.heap.size := HB3.out.size
  simp only [List.nil_append] at hown3
  obtain ⟨X, cx, hv3, hcx, _, hXn, hXr, _⟩ := own_form hown3
  subst hv3
  have HXr := Lib.hid hXr
  have HXn := Lib.hid hXn
  have HAB := Lib.hid (HBa.out.append HBb.out)
  have HAL : Hid ((a ++ b).length ≤ 300) := Lib.hid (by rw [List.length_append]; omega)
  have HFl : Hid ([a, b].flatten = a ++ b) := Lib.hid (by simp)
  have HF1 : Hid ([a ++ b].flatten = a ++ b) := Lib.hid (by simp)
  generalize a ++ b = all at *
  clear hown2 hown3 hgrow2 hgrow3 hXr hXn HB1 HB2 HBe HE
  refine (rcode_any w3 A X c cx key all ((HRk.out.below HB3.out).more hz3) HAc.out HBk.out (by omega) HXr.out HXn.out HAB.out HAL.out).mono ?_
  rintro e w4 ⟨v4, rfl, hown4, hb4⟩
  have HC4 := Lib.hid (conv_row hown4 (by decide))
  have HB4 : Hid (Below w.heap.size w w4) := Lib.hid (HB3.out.trans (hb4.mono hz3))
  have hz4 : w.heap.size ≤ w4.heap.size := HB4.out.size
  have HX4 : Hid (RdB w4 w4.heap.size X all) := Lib.hid ((HXr.out.below hb4).more hb4.size)
  clear hown4 hb4 HXr HB3
  go_wp2_with (refine wpList_convertRun rfl 22 9 (.tmp 31) rfl v4 _ rfl HC4.out ?_)
  clear HC4
  have HP5 := Lib.hid (parts_two ((HRa.out.below HB4.out).more hz4) hd ((HRb.out.below HB4.out).more hz4) hf)
  have HB5 : Hid (Below w.heap.size w (w4.alloc (.cells #[.slice B a.length d, .slice D b.length f] 22))) := Lib.hid (HB4.out.alloc hz4 _)
  have HX5 : Hid (RdB (w4.alloc (.cells #[.slice B a.length d, .slice D b.length f] 22)) (w4.alloc (.cells #[.slice B a.length d, .slice D b.length f] 22)).heap.size X all) := Lib.hid ((HX4.out.below ((Below.refl _ _).alloc (Nat.le_refl _) _)).more (by simp))
  have hz5 : w.heap.size ≤ (w4.alloc (.cells #[.slice B a.length d, .slice D b.length f] 22)).heap.size := HB5.out.size
  clear HX4 HB4
  generalize w4.alloc (.cells #[.slice B a.length d, .slice D b.length f] 22) = w5 at *
  refine (code_any w5 A c key _ 2 [a, b] ((HRk.out.below HB5.out).more hz5) HAc.out hc HBk.out HP5.out (by intro p hp; rw [List.mem_cons, List.mem_singleton] at hp; rcases hp with rfl | rfl; exact HBa.out; exact HBb.out) (HI.out.below HB5.out (by omega)) (HK.out.below HB5.out h2) (by omega) (by omega) (by simp) (by rw [HFl.out]; have := HAL.out; omega)).mono ?_
  rintro e w6 ⟨v6, rfl, hown6, hb6⟩
  rw [HFl.out] at hown6
  have HC6 := Lib.hid (conv_row hown6 (by decide))
  have HB6 : Hid (Below w.heap.size w w6) := Lib.hid (HB5.out.trans (hb6.mono hz5))
  have hz6 : w.heap.size ≤ w6.heap.size := HB6.out.size
  have HX6 : Hid (RdB w6 w6.heap.size X all) := Lib.hid ((HX5.out.below hb6).more hb6.size)
  clear hown6 hb6 HX5 HB5 HP5
  go_wp2_with (refine wpList_convertRun rfl 22 9 (.tmp 37) rfl v6 _ rfl HC6.out ?_)
  clear HC6
  have HP7 := Lib.hid (parts_one (c := cx) HX6.out hcx)
  have HB7 : Hid (Below w.heap.size w (w6.alloc (.cells #[.slice X all.length cx] 22))) := Lib.hid (HB6.out.alloc hz6 _)
  have HX7 : Hid (RdB (w6.alloc (.cells #[.slice X all.length cx] 22)) (w6.alloc (.cells #[.slice X all.length cx] 22)).heap.size X all) := Lib.hid ((HX6.out.below ((Below.refl _ _).alloc (Nat.le_refl _) _)).more (by simp))
  have hz7 : w.heap.size ≤ (w6.alloc (.cells #[.slice X all.length cx] 22)).heap.size := HB7.out.size
  clear HX6 HB6
  generalize w6.alloc (.cells #[.slice X all.length cx] 22) = w7 at *
  refine (code_any w7 A c key _ 1 [all] ((HRk.out.below HB7.out).more hz7) HAc.out hc HBk.out HP7.out (by intro p hp; rw [List.mem_singleton] at hp; subst hp; exact HAB.out) (HI.out.below HB7.out (by omega)) (HK.out.below HB7.out h2) (by omega) (by omega) (by simp) (by rw [HF1.out]; have := HAL.out; omega)).mono ?_
  rintro e w8 ⟨v8, rfl, hown8, hb8⟩
  rw [HF1.out] at hown8
  have HC8 := Lib.hid (conv_row hown8 (by decide))
  have HB8 : Hid (Below w.heap.size w w8) := Lib.hid (HB7.out.trans (hb8.mono hz7))
  have hz8 : w.heap.size ≤ w8.heap.size := HB8.out.size
  have HX8 : Hid (RdB w8 w8.heap.size X all) := Lib.hid ((HX7.out.below hb8).more hb8.size)
  clear hown8 hb8 HX7 HB7 HP7
  go_wp2_with (refine wpList_convertRunW 22 9 (.tmp 45) rfl (by rfl) v8 _ rfl HC8.out ?_)
  clear HC8
  refine (extract_any w8 A X c cx key all ((HRk.out.below HB8.out).more hz8) HAc.out hc HBk.out HX8.out hcx HAB.out (HI.out.below HB8.out (by omega)) (HK.out.below HB8.out h2) (by omega) (by omega) (by have := HAL.out; omega)).mono ?_
  rintro e w9 ⟨v9, rfl, hown9, hb9⟩
  have HC9 := Lib.hid (conv_row hown9 (by decide))
  have HB9 : Hid (Below w.heap.size w w9) := Lib.hid (HB8.out.trans (hb9.mono hz8))
  clear hown9 hb9 HX8 HB8
  go_wp2_with (refine wpList_convertRunW 22 9 (.tmp 53) rfl (by rfl) v9 _ rfl HC9.out ?_)
  clear HC9
  go_ret
  exact ⟨rfl, HB9.out⟩
end Go.Proofs.YtfkkpbfoipfekaaDoor
