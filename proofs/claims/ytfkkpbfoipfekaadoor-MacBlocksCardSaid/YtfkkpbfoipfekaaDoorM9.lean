/-
  What mac.Expand makes: of any number up to 4000 so many bytes of what the key is spread to, one block behind the other; of a number that is none ErrSize.
-/
import Derived.Test.YtfkkpbfoipfekaaDoorM8
namespace Go.Proofs.YtfkkpbfoipfekaaDoor
open Go.RowKit
theorem parts_three {w : World} {A B C : Option Addr} {c d f : Nat} {l m n : List Nat} (hR : RdB w w.heap.size A l) (hc : l.length ≤ c) (hS : RdB w w.heap.size B m) (hd : m.length ≤ d) (hT : RdB w w.heap.size C n) (hf : n.length ≤ f) :
    Parts (w.alloc (.cells #[.slice A l.length c, .slice B m.length d, .slice C n.length f] 22)) (w.alloc (.cells #[.slice A l.length c, .slice B m.length d, .slice C n.length f] 22)).heap.size (some ⟨w.heap.size, 0, none⟩) [l, m, n] := by
  have hb : Below w.heap.size w (w.alloc (.cells #[.slice A l.length c, .slice B m.length d, .slice C n.length f] 22)) := (Below.refl _ _).alloc (Nat.le_refl _) _
  intro i hi
  obtain rfl | rfl | rfl : i = 0 ∨ i = 1 ∨ i = 2 := by
    simp only [List.length_cons, List.length_nil] at hi
    omega
  · refine ⟨_, A, c, rfl, by simp, ?_, hc, (hR.below hb).more (by simp)⟩
    rw [Addr.add_mid, Nat.add_zero, (Blk.new w 22 #[.slice A l.length c, .slice B m.length d, .slice C n.length f]).cell]
    rfl
  · refine ⟨_, B, d, rfl, by simp, ?_, hd, (hS.below hb).more (by simp)⟩
    rw [Addr.add_mid, Nat.zero_add, (Blk.new w 22 #[.slice A l.length c, .slice B m.length d, .slice C n.length f]).cell]
    rfl
  · refine ⟨_, C, f, rfl, by simp, ?_, hf, (hT.below hb).more (by simp)⟩
    rw [Addr.add_mid, Nat.zero_add, (Blk.new w 22 #[.slice A l.length c, .slice B m.length d, .slice C n.length f]).cell]
    rfl
/-- What is left of blocks that are cut at n bytes. -/
def spreadTo (key info : List Nat) (n : Nat) : List Nat := (Mac.spread key info ((n + 31) / 32)).take n
theorem spreadTo_length (key info : List Nat) (n : Nat) : (spreadTo key info n).length = n := by
  unfold spreadTo
  rw [List.length_take, Mac.spread_length]
  omega
theorem spreadTo_Bs (key info : List Nat) (n : Nat) : Sha.Bs (spreadTo key info n) := (Mac.spread_Bs _ _ _).take n
theorem spreadTo_of (key info : List Nat) (n j : Nat) (h : n ≤ 32 * j) : (Mac.spread key info j).take n = spreadTo key info n := by
  unfold spreadTo
  rw [← Mac.spread_take key info ((n + 31) / 32) j (by omega), List.take_take, Nat.min_eq_left (by omega)]
/-- Fewer bytes are the beginning of more. -/
theorem spreadTo_take (key info : List Nat) (m n : Nat) (h : m ≤ n) : (spreadTo key info n).take m = spreadTo key info m := by
  unfold spreadTo
  rw [List.take_take, Nat.min_eq_left h]
  exact spreadTo_of key info m _ (by omega)
theorem own_disj {w w' : World} {base : Nat} {v p : Value} {n m : Nat} {xs ys : List Value} (hv : w.ownsRow base 5 1 v n xs) (hp : w'.ownsRow w.heap.size 5 1 p m ys) : p.ownBlock = none ∨ p.ownBlock ≠ v.ownBlock := by
  by_cases h : p.ownBlock = none
  · exact .inl h
  · refine .inr fun e => ?_
    obtain ⟨q, hq⟩ := Option.ne_none_iff_exists'.1 h
    have h1 := own_row hp q hq
    have h2 := (hv.lt q (e ▸ hq)).2
    omega
set_option maxRecDepth 100000
set_option maxHeartbeats 400000 in
theorem expand_bad (w : World) (A B : Option Addr) (a b c d : Nat) (n : Int) (hn : n < 0 ∨ 8160 < n) :
    Calls Tryd.prog 13 #[.slice A a c, .slice B b d, .int .i64 n] w fun e w' => e = .returned (.tuple #[.slice none 0 0, .int .i64 11]) ∧ Below w.heap.size w w' := by
  go_enter Tryd.func13, Tryd.ntmps13
  by_cases h0 : n < 0
  · have hd : decide (n < 0) = true := by simp; omega
    go_wp2
    exact bodyPost_ret (results_tmp2 rfl _ _ _) rfl ⟨rfl, Below.refl _ _⟩
  · have hd : decide (n < 0) = false := by simp; omega
    have hd2 : decide (8160 < n) = true := by simp; omega
    go_wp2
    exact bodyPost_ret (results_tmp2 rfl _ _ _) rfl ⟨rfl, Below.refl _ _⟩
set_option maxHeartbeats 400000 in
theorem expand_any (w : World) (A B : Option Addr) (c d : Nat) (key info : List Nat) (N : Nat) (hN : N ≤ 4000) (hR : RdB w w.heap.size A key) (hAc : A = none → c = 0) (hc : key.length ≤ c) (hb : Sha.Bs key) (hRi : RdB w w.heap.size B info) (hd : info.length ≤ d) (hbi : Sha.Bs info) (hI : Iat w) (hK : Kat w) (h2 : 2 ≤ w.heap.size) (hlk : key.length ≤ 1000) (hli : info.length ≤ 1000) :
    Calls Tryd.prog 13 #[.slice A key.length c, .slice B info.length d, .int .i64 (N : Int)] w fun e w' => ∃ X cx, e = .returned (.tuple #[.slice X N cx, .int .i64 0]) ∧ RdB w' w'.heap.size X (spreadTo key info N) ∧ N ≤ cx ∧ (X = none → cx = 0) ∧ Below w.heap.size w w' := by
  have HR := Lib.hid hR
  have HB := Lib.hid hb
  have HAc := Lib.hid hAc
  have HRi := Lib.hid hRi
  have HBi := Lib.hid hbi
  have HI := Lib.hid hI
  have HK := Lib.hid hK
  clear hR hb hAc hRi hbi hI hK
  go_enter Tryd.func13, Tryd.ntmps13
  have hd1 : decide ((N : Int) < 0) = false := by simp
  have hd2 : decide ((8160 : Int) < (N : Int)) = false := by simp; omega
  go_wp2
  clear hd1 hd2
  go_loopw [8, 9, 10] (fun v p i wr => ∃ j : Nat, j ≤ 125 ∧ i = .int .u8 (j + 1 : Nat) ∧ wr.ownsRow w.heap.size 5 1 v (Mac.spread key info j).length (vals .u8 (Mac.spread key info j)) ∧ wr.ownsRow w.heap.size 5 1 p (Mac.blk key info j).length (vals .u8 (Mac.blk key info j)) ∧ Below w.heap.size w wr) (fun v _ _ _ => 5000 - lenV v)
  case atStart => exact ⟨0, by omega, rfl, World.ownsRow_nil _ _ _ _, World.ownsRow_nil _ _ _ _, Below.refl _ _⟩
  case round =>
    obtain ⟨j, hj, rfl, hv, hp, hbel⟩ := hrel
    have hsz := hbel.size
    have hsl := Mac.spread_length key info j
    obtain ⟨X, cx, hvx, hcx, hcm, hXn, hXr, _⟩ := own_form hv
    obtain ⟨Y, cy, hpy, hcy, _, hYn, hYr, _⟩ := own_form hp
    rw [hsl] at hvx
    subst hvx hpy
    have HV := Lib.hid hv
    have HP := Lib.hid hp
    have HBl := Lib.hid hbel
    have HXr := Lib.hid hXr
    have HYr := Lib.hid hYr
    have HXn := Lib.hid hXn
    have HSL := Lib.hid hsl
    clear hv hp hbel hXr hYr hYn hXn hsl
    by_cases hlt : 32 * j < N
    · have hd1 : decide (((32 * j : Nat) : Int) < (N : Int)) = true := by simp; omega
      go_wp2_with fail
      generalize hw2 : World.alloc (World.alloc wr _) _ = w2
      have hb1 : Below wr.heap.size wr (wr.alloc (.cells (Vs .u8 [j + 1]) 5)) := (Below.refl _ _).alloc (Nat.le_refl _) _
      have hz1 : (wr.alloc (.cells (Vs .u8 [j + 1]) 5)).heap.size = wr.heap.size + 1 := by simp
      have hp3 := parts_three (w := wr.alloc (.cells (Vs .u8 [j + 1]) 5)) (f := 1) ((HYr.out.below hb1).more hb1.size) hcy ((HRi.out.below (HBl.out.trans (hb1.mono hsz))).more (Nat.le_trans hsz hb1.size)) hd (new_rdb wr [j + 1]) (by simp)
      rw [hz1] at hp3
      have HP3 : Hid (Parts w2 w2.heap.size (some ⟨wr.heap.size + 1, 0, none⟩) [Mac.blk key info j, info, [j + 1]]) := Lib.hid (by rw [← hw2]; exact hp3)
      have hb2 : Below wr.heap.size wr w2 := by rw [← hw2]; exact ((Below.refl _ _).alloc (Nat.le_refl _) _).alloc (by simp) _
      have HB2 : Hid (Below w.heap.size w w2) := Lib.hid (HBl.out.trans (hb2.mono hsz))
      have hz2 : w.heap.size ≤ w2.heap.size := HB2.out.size
      have HV2 : Hid (w2.ownsRow w.heap.size 5 1 (.slice X (32 * j) cx) (Mac.spread key info j).length (vals .u8 (Mac.spread key info j))) := Lib.hid (own_below HV.out hb2)
      have hbl : (Mac.blk key info j).length ≤ 32 := by
        cases j with
        | zero => simp [Mac.blk]
        | succ j => rw [Mac.blk_length]; omega
      clear hw2 hb1 hz1 hp3 hb2 HV HBl
      refine (code_any w2 A c key _ 3 [Mac.blk key info j, info, [j + 1]] ((HR.out.below HB2.out).more hz2) HAc.out hc HB.out HP3.out (by
        intro p hp
        simp only [List.mem_cons, List.not_mem_nil, or_false] at hp
        rcases hp with rfl | rfl | rfl
        · exact Mac.blk_Bs _ _ _
        · exact HBi.out
        · intro x hx
          rw [List.mem_singleton] at hx
          omega) (HI.out.below HB2.out (by omega)) (HK.out.below HB2.out h2) (by omega) (by omega) (by simp) (by simp only [List.flatten_cons, List.flatten_nil, List.length_append, List.length_cons, List.length_nil]; omega)).mono ?_
      rintro e w3 ⟨v3, rfl, hown3, hb3⟩
      have hfl : [Mac.blk key info j, info, [j + 1]].flatten = Mac.blk key info j ++ info ++ [j + 1] := by simp
      have ebl : Mac.code key (Mac.blk key info j ++ info ++ [j + 1]) = Mac.blk key info (j + 1) := rfl
      rw [hfl, ebl] at hown3
      have hown3' : w3.ownsRow w2.heap.size 5 1 v3 (Mac.blk key info (j + 1)).length (vals .u8 (Mac.blk key info (j + 1))) := by rw [Mac.blk_length]; exact hown3
      obtain ⟨Z, cz, hvz, hcz, _, hZn, hZr, _⟩ := own_form hown3'
      subst hvz
      have HV3 := Lib.hid (own_below HV2.out hb3)
      have HO3 := Lib.hid hown3'
      have HD := Lib.hid (own_disj HV2.out hown3')
      have HB3 : Hid (Below w.heap.size w w3) := Lib.hid (HB2.out.trans (hb3.mono hz2))
      have hz3 : w.heap.size ≤ w3.heap.size := HB3.out.size
      have HZr := Lib.hid hZr
      have HZn := Lib.hid hZn
      clear hown3 hown3' hb3 hZr hZn HP3 HB2 HV2 hfl ebl
      have hnum : IntKind.u8.wrap (((j + 1 : Nat) : Int) + 1) = ((j + 1 + 1 : Nat) : Int) := by rw [IntKind.wrap_u8]; omega
      go_wp2_with (at_builtin; refine wpList_append_bytes rfl _ _ rfl w.heap.size (.slice X (32 * j) cx) _ rfl HV3.out Z cz (Mac.blk key info (j + 1)) rfl HZn.out HZr.out (by rw [HSL.out, Mac.blk_length]; omega) hz3 ?_; intro v4 w4 hown4 hgrow4 _)
      have hown4' : w4.ownsRow w.heap.size 5 1 v4 (Mac.spread key info (j + 1)).length (vals .u8 (Mac.spread key info (j + 1))) := hown4
      have hlv : lenV v4 = 32 * (j + 1) := by
        obtain ⟨_, _, e, _⟩ := own_form hown4'
        rw [e, ← Mac.spread_length key info (j + 1)]
        rfl
      refine ⟨⟨j + 1, by omega, by congr 1, hown4', own_lower (HO3.out.kept hgrow4 HD.out) hz2, HB3.out.grown hgrow4 hz3 (own_row HV3.out)⟩, ?_⟩
      rw [hlv]
      show 5000 - 32 * (j + 1) < 5000 - 32 * j
      omega
    · have hd1 : decide (((32 * j : Nat) : Int) < (N : Int)) = false := by simp; omega
      have hNc : N ≤ cx := by have := HSL.out; omega
      have hsl := slice_to X (32 * j) cx N hNc
      have HRd : Hid (RdB wr wr.heap.size X (spreadTo key info N)) := Lib.hid (by rw [← spreadTo_of key info N j (by omega)]; exact HXr.out.head N)
      clear HXr HYr HV HP
      go_wp2
      exact bodyPost_ret (results_tmp2 rfl _ _ _) rfl ⟨X, cx, rfl, HRd.out, hNc, HXn.out, HBl.out⟩
end Go.Proofs.YtfkkpbfoipfekaaDoor
