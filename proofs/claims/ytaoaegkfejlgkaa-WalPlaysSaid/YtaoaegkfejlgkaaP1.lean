/-
  The statements' told and the document's Cost of layer 8.
-/
import Derived.Test.YtaoaegkfejlgkaaL6
import Derived.Deep.QuietTactic
import Derived.BigQuiet
import Derived.Deep.CutRange
namespace Go.Proofs.Ytaoaegkfejlgkaa.Dsk
open Go.RowKit
/-- The document's cost of records. -/
noncomputable def rcost (rs : List (List UInt8)) : Int := open Classical in if ∀ x ∈ rs, Okp x then ((16 + tot rs : Nat) : Int) else -1
theorem rcost_ok {rs : List (List UInt8)} (h : ∀ x ∈ rs, Okp x) : rcost rs = ((16 + tot rs : Nat) : Int) := by unfold rcost; rw [if_pos h]
set_option maxRecDepth 100000
set_option maxHeartbeats 4000000 in
theorem rcost_any (w : World) (S0 : Nat → Prop) (A : Option Addr) (k : Nat) (ns : List (List UInt8)) (hR : RdL w S0 A ns) (hns : ns.length ≤ 100000) :
    Calls Try.prog 30 #[.slice A ns.length k] w fun e w' => e = .returned (.int .i64 (rcost ns)) ∧ w = w' := by
  obtain ⟨N, hN⟩ : ∃ N, N = ns.length := ⟨_, rfl⟩
  have HN := Lib.hid hN
  have HRL := Lib.hid hR
  rw [← hN] at hns ⊢
  have HNB := Lib.hid hns
  clear hR hns hN
  go_enter Try.func30, Try.ntmps30
  go_wp2
  go_loopw [3, 4] (fun t i wr => ∃ k : Nat, k ≤ N ∧ i = .int .i64 (k : Int) ∧ t = .int .i64 ((16 + tot (ns.take k) : Nat) : Int) ∧ (∀ x ∈ ns.take k, Okp x) ∧ wr = w) (fun _ i _ => N - (intOf i).toNat)
  case atStart => exact ⟨0, Nat.zero_le _, rfl, rfl, fun x hx => by simp at hx, rfl⟩
  case round =>
    obtain ⟨j, hj, rfl, rfl, hok, rfl⟩ := hrel
    have HOKp := Lib.hid hok
    clear hok
    by_cases hlt : j < N
    · obtain ⟨x, hx⟩ : ∃ x, ns[j]? = some x := ⟨_, List.getElem?_eq_getElem (by have := HN.out; omega)⟩
      obtain ⟨ad, B, cx, rfl, _, hb1, hcell, hxc, hrx⟩ := HRL.out j x hx
      have ht : ns.take (j + 1) = ns.take j ++ [x] := by rw [List.take_add_one, hx]; rfl
      have q3 : IntKind.i64.wrap ((j : Int) + 1) = (j : Int) + 1 := by rw [IntKind.wrap_i64]; have := HNB.out; omega
      have htl := tot_le (ns.take j) HOKp.out
      rw [List.length_take] at htl
      obtain ⟨T, hT⟩ : ∃ T, T = 16 + tot (ns.take j) := ⟨_, rfl⟩
      rw [← hT]
      have HTT := Lib.hid hT
      have HX := Lib.hid hx
      have HTK := Lib.hid ht
      have HLT := Lib.hid hlt
      have hjN : (j : Int) < N := by omega
      obtain ⟨m, hm⟩ : ∃ m, m = x.length := ⟨_, rfl⟩
      have HM := Lib.hid hm
      rw [← hm] at hcell
      have hTb : T ≤ 6554500016 := by have := HNB.out; omega
      by_cases hg' : 1 ≤ m ∧ m ≤ 65536
      · have HGm := Lib.hid hg'
        have q4 : IntKind.i64.wrap ((9 : Int) + m) = ((9 + m : Nat) : Int) := by rw [IntKind.wrap_i64]; omega
        have q5 : IntKind.i64.wrap ((T : Int) + ((9 + m : Nat) : Int)) = ((T + (9 + m) : Nat) : Int) := by rw [IntKind.wrap_i64]; omega
        have y1 : ¬ (m : Int) < 1 := by omega
        have y2 : ¬ (65536 : Int) < m := by omega
        obtain ⟨m9, hm9⟩ : ∃ m9, m9 = 9 + m := ⟨_, rfl⟩
        rw [← hm9] at q4 q5
        have HM9 := Lib.hid hm9
        clear hrx hb1 hxc hx ht hT hm hg' htl hTb hlt hm9
        go_wp2
        go_roundw
        case rel =>
          refine ⟨j + 1, by have := HLT.out; omega, by go_num, ?_, ?_, by first | rfl | trivial⟩
          · rw [HTK.out, tot_snoc]
            exact congrArg (Value.int .i64) (by have := HTT.out; have := HM9.out; have := HM.out; omega)
          · rw [HTK.out]
            intro y hy
            rcases List.mem_append.1 hy with hy | hy
            · exact HOKp.out y hy
            · rw [List.mem_singleton] at hy
              subst hy
              have := HGm.out
              rw [HM.out] at this
              exact this
        case measure => have := HLT.out; simp [intOf]; omega
      · have he : rcost ns = -1 := by
          unfold rcost
          rw [if_neg (fun h9 => hg' (by rw [hm]; exact h9 x (List.mem_of_getElem? hx)))]
        have HE := Lib.hid he
        have hbd : (m : Int) < 1 ∨ (¬ (m : Int) < 1 ∧ (65536 : Int) < m) := by omega
        clear hrx hb1 hxc hx ht hT hm hg' htl hTb hlt he
        rcases hbd with y1 | ⟨y1, y2⟩
        all_goals
          go_wp2
          go_ret
          exact ⟨by rw [HE.out]; rfl, rfl⟩
    · obtain rfl : j = N := by omega
      have htk : ns.take j = ns := List.take_of_length_le (by have := HN.out; omega)
      rw [htk] at HOKp ⊢
      have he := rcost_ok HOKp.out
      obtain ⟨T, hT⟩ : ∃ T, T = 16 + tot ns := ⟨_, rfl⟩
      rw [← hT] at he ⊢
      have HE := Lib.hid he
      clear he hT htk hlt hj
      go_wp2
      go_ret
      exact ⟨by rw [HE.out]; rfl, rfl⟩
/-- The error that an append has, but for the disk's. -/
def appErr (sz T n : Nat) : Int := if n < 1 then 11 else if sz < T + (9 + n) then 21 else 0
set_option maxHeartbeats 4000000 in
theorem told_one (w : World) (S0 : Nat → Prop) (A : Option Addr) (k : Nat) (ns : List (List UInt8)) (hR : RdL w S0 A ns) (hns : ns.length ≤ 100000) (hok : ∀ x ∈ ns, Okp x) (z1 z2 : Int) (B C : Option Addr) (n kb m kc sz : Nat) (g : Int) (hn : n ≤ 1000000) :
    Calls Try.prog 16 #[.slice A ns.length k, .agg #[.int .i64 1, .int .i64 z1, .int .i64 z2, .slice B n kb, .slice C m kc], .int .i64 (sz : Int), .int .i64 g] w fun e w' => e = .returned (.int .i64 (appErr sz (16 + tot ns) n)) ∧ Below w.heap.size w w' := by
  have htl := tot_le ns hok
  obtain ⟨N, hN⟩ : ∃ N, N = ns.length := ⟨_, rfl⟩
  obtain ⟨T, hT⟩ : ∃ T, T = 16 + tot ns := ⟨_, rfl⟩
  have HC := Lib.hid (fun W (hW : Below w.heap.size w W) => (rcost_any W S0 A k ns (hR.old hW) hns))
  rw [rcost_ok hok] at HC
  rw [← hN, ← hT] at HC
  rw [← hN, ← hT]
  have hk0 := Blk.new w 35 #[.int .i64 1, .int .i64 z1, .int .i64 z2, .slice B n kb, .slice C m kc] _ rfl
  have hb0 : Below w.heap.size w (w.alloc (.cells #[.int .i64 1, .int .i64 z1, .int .i64 z2, .slice B n kb, .slice C m kc] 35)) := (Below.refl _ _).alloc (Nat.le_refl _) _
  have HB0 := Lib.hid hb0
  have hcb := fun j => (HC.out _ (below_drewN hb0 j)).mono (fun _ _ (h : _ ∧ _) => And.intro h.1 h.2.symm)
  have q1 : IntKind.i64.wrap ((T : Int) + 9) = ((T + 9 : Nat) : Int) := by rw [IntKind.wrap_i64]; omega
  have q2 : IntKind.i64.wrap (((T + 9 : Nat) : Int) + n) = ((T + 9 + n : Nat) : Int) := by rw [IntKind.wrap_i64]; omega
  obtain ⟨T9, hT9⟩ : ∃ T9, T9 = T + 9 := ⟨_, rfl⟩
  obtain ⟨T10, hT10⟩ : ∃ T10, T10 = T + 9 + n := ⟨_, rfl⟩
  rw [← hT10, ← hT9] at q2
  rw [← hT9] at q1
  have HCb := Lib.hid hcb
  have d3 : (w.alloc (.cells #[.int .i64 1, .int .i64 z1, .int .i64 z2, .slice B n kb, .slice C m kc] 35)).cell? ⟨w.heap.size, 3, none⟩ = some (.slice B n kb) := hk0.cell 3
  have d0 : (w.alloc (.cells #[.int .i64 1, .int .i64 z1, .int .i64 z2, .slice B n kb, .slice C m kc] 35)).cell? ⟨w.heap.size, 0, none⟩ = some (.int .i64 1) := hk0.cell 0
  have HT := Lib.hid (⟨hT9, hT10⟩ : T9 = T + 9 ∧ T10 = T + 9 + n)
  have hcase : n < 1 ∨ (¬ n < 1 ∧ sz < T10) ∨ (¬ n < 1 ∧ ¬ sz < T10) := by omega
  clear hR hns hok htl hN hT hk0 hb0 hcb hn hT9 hT10
  rcases hcase with h1 | ⟨h1, h2⟩ | ⟨h1, h2⟩
  · have y1 : (n : Int) < 1 := by omega
    have he : appErr sz T n = 11 := by unfold appErr; rw [if_pos h1]
    have HE := Lib.hid he
    clear h1 he
    go_enter Try.func16, Try.ntmps16
    go_wp2
    go_ret
    exact ⟨by rw [HE.out]; rfl, HB0.out⟩
  · have y1 : ¬ (n : Int) < 1 := by omega
    have y2 : (sz : Int) < (T10 : Int) := by omega
    have he : appErr sz T n = 21 := by unfold appErr; rw [if_neg h1, if_pos (by have := HT.out; omega)]
    have HE := Lib.hid he
    clear h1 he h2
    go_enter Try.func16, Try.ntmps16
    go_wp2
    go_quiet ((go_at_call 30; with_reducible exact Calls.quiet_of_same (HCb.out _)))
    go_wp2
    go_ret
    exact ⟨by rw [HE.out]; rfl, below_drewN HB0.out _⟩
  · have y1 : ¬ (n : Int) < 1 := by omega
    have y2 : ¬ (sz : Int) < (T10 : Int) := by omega
    have he : appErr sz T n = 0 := by unfold appErr; rw [if_neg h1, if_neg (by have := HT.out; omega)]
    have HE := Lib.hid he
    clear h1 he h2
    go_enter Try.func16, Try.ntmps16
    go_wp2
    go_quiet ((go_at_call 30; with_reducible exact Calls.quiet_of_same (HCb.out _)))
    go_wp2
    go_ret
    exact ⟨by rw [HE.out]; rfl, below_drewN HB0.out _⟩
/-- The error of beginning anew, by the document. -/
noncomputable def newErr (sz : Nat) (g : Int) (rs : List (List UInt8)) : Int := if rcost rs < 0 then 11 else if (sz : Int) < rcost rs then 21 else if g = 2147483647 then 14 else 0
set_option maxHeartbeats 4000000 in
theorem told_two (w : World) (S0 : Nat → Prop) (C : Option Addr) (kc : Nat) (ns : List (List UInt8)) (hR : RdL w S0 C ns) (hns : ns.length ≤ 100000) (u : Value) (z1 z2 : Int) (B : Option Addr) (n kb sz : Nat) (g : Int) (hu : ∃ A m k, u = .slice A m k) :
    Calls Try.prog 16 #[u, .agg #[.int .i64 2, .int .i64 z1, .int .i64 z2, .slice B n kb, .slice C ns.length kc], .int .i64 (sz : Int), .int .i64 g] w fun e w' => e = .returned (.int .i64 (newErr sz g ns)) ∧ Below w.heap.size w w' := by
  obtain ⟨A, m, k, rfl⟩ := hu
  obtain ⟨N, hN⟩ : ∃ N, N = ns.length := ⟨_, rfl⟩
  have HC := Lib.hid (fun W (hW : Below w.heap.size w W) => (rcost_any W S0 C kc ns (hR.old hW) hns))
  obtain ⟨T, hT⟩ : ∃ T, T = rcost ns := ⟨_, rfl⟩
  have hE : newErr sz g ns = if T < 0 then 11 else if (sz : Int) < T then 21 else if g = 2147483647 then 14 else 0 := by rw [hT]; rfl
  rw [← hT] at HC
  rw [hE]
  rw [← hN] at HC ⊢
  have hk0 := Blk.new w 35 #[.int .i64 2, .int .i64 z1, .int .i64 z2, .slice B n kb, .slice C N kc] _ rfl
  have hb0 : Below w.heap.size w (w.alloc (.cells #[.int .i64 2, .int .i64 z1, .int .i64 z2, .slice B n kb, .slice C N kc] 35)) := (Below.refl _ _).alloc (Nat.le_refl _) _
  have HB0 := Lib.hid hb0
  have HCb := Lib.hid (HC.out _ hb0)
  have d4 : (w.alloc (.cells #[.int .i64 2, .int .i64 z1, .int .i64 z2, .slice B n kb, .slice C N kc] 35)).cell? ⟨w.heap.size, 4, none⟩ = some (.slice C N kc) := hk0.cell 4
  have d0 : (w.alloc (.cells #[.int .i64 2, .int .i64 z1, .int .i64 z2, .slice B n kb, .slice C N kc] 35)).cell? ⟨w.heap.size, 0, none⟩ = some (.int .i64 2) := hk0.cell 0
  have hcase : T < 0 ∨ (¬ T < 0 ∧ (sz : Int) < T) ∨ (¬ T < 0 ∧ ¬ (sz : Int) < T ∧ g = 2147483647) ∨ (¬ T < 0 ∧ ¬ (sz : Int) < T ∧ ¬ g = 2147483647) := by omega
  clear hR hns hN hT hk0 hb0 hE
  rcases hcase with h1 | ⟨h1, h2⟩ | ⟨h1, h2, h3⟩ | ⟨h1, h2, h3⟩
  all_goals
    have hgb : (g == 2147483647) = decide (g = 2147483647) := by by_cases h : g = 2147483647 <;> simp [h]
    go_enter Try.func16, Try.ntmps16
    go_wp2_with fail
    with_reducible refine HCb.out.mono ?_
    rintro e w1 ⟨rfl, rfl⟩
    go_wp2
    go_ret
    exact ⟨by simp_all, HB0.out⟩
end Go.Proofs.Ytaoaegkfejlgkaa.Dsk
