/-
  What the document's Encode does: the same letters; nothing that was there before is changed.
-/
import Derived.Test.YtcpifencjmlhaaaDoorQ2
import Derived.OwnWalk
namespace Go.Proofs.YtcpifencjmlhaaaDoor.B64
open Go.RowKit
/-- A row of one's own lies in no block of another type. -/
theorem own_ne {w : World} {base : Nat} {v : Value} {l : List Nat} {g : Nat} {t : TypeId} {cs : Array Value} (h : Own w base v l) (hb : Blk w g t cs) (ht : t ≠ 5) : some g ≠ v.ownBlock := by
  rcases h.2 with ⟨rfl, _⟩ | ⟨q, cap, cur, rfl, _, hg, _⟩
  · simp [Value.ownBlock]
  · simp only [Value.ownBlock]
    intro e
    injection e with e
    subst e
    unfold Blk at hb
    rw [hb] at hg
    injection hg with hg
    injection hg with _ h2
    exact ht h2
theorem encU_group (bs : List Nat) (i : Nat) (h3 : i % 3 = 0) (hi : i ≤ bs.length) : encU (bs.take (i + 3)) = encU (bs.take i) ++ lets url (enc ((bs.drop i).take 3)) := by
  unfold encU
  rw [List.take_add, enc_append _ (by rw [List.length_take]; omega), lets_append]
theorem drop_one (bs : List Nat) (i : Nat) (h : i + 1 = bs.length) : (bs.drop i).take 3 = [bs.getD i 0] := by
  rw [List.drop_eq_getElem_cons (by omega), List.drop_eq_nil_of_le (by omega), List.getD_eq_getElem?_getD, List.getElem?_eq_getElem (by omega)]
  rfl
theorem drop_two (bs : List Nat) (i : Nat) (h : i + 2 = bs.length) : (bs.drop i).take 3 = [bs.getD i 0, bs.getD (i + 1) 0] := by
  rw [List.drop_eq_getElem_cons (by omega), List.drop_eq_getElem_cons (by omega), List.drop_eq_nil_of_le (by omega), List.getD_eq_getElem?_getD, List.getElem?_eq_getElem (by omega), List.getD_eq_getElem?_getD, List.getElem?_eq_getElem (by omega)]
  rfl
theorem drop_three (bs : List Nat) (i : Nat) (h : i + 3 ≤ bs.length) : (bs.drop i).take 3 = [bs.getD i 0, bs.getD (i + 1) 0, bs.getD (i + 2) 0] := by
  rw [List.drop_eq_getElem_cons (by omega), List.drop_eq_getElem_cons (by omega), List.drop_eq_getElem_cons (by omega), List.getD_eq_getElem?_getD, List.getElem?_eq_getElem (by omega), List.getD_eq_getElem?_getD, List.getElem?_eq_getElem (by omega), List.getD_eq_getElem?_getD, List.getElem?_eq_getElem (by omega)]
  rfl
theorem take_lets (o q : List Nat) (j : Nat) (h : j < q.length) : o ++ lets url (q.take (j + 1)) = (o ++ lets url (q.take j)) ++ [url.getD (q.getD j 0) 0] := by
  rw [List.take_add_one, List.getElem?_eq_getElem h, Option.toList_some, lets_append, List.append_assoc, List.getD_eq_getElem?_getD (l := q), List.getElem?_eq_getElem h, Option.getD_some]
  rfl
/-- Four times six bits. -/
def four4 (n : Nat) : List Nat := [n / 262144, n / 4096 % 64, n / 64 % 64, n % 64]
def four4V (n : Int) : Array Value := #[.int .i64 (n / 262144), .int .i64 (n / 4096 % 64), .int .i64 (n / 64 % 64), .int .i64 (n % 64)]
theorem four4_val (n : Nat) : four4V (n : Int) = Vs .i64 (four4 n) := by simp [four4V, four4, Vs, vals]
theorem four4_lt (n : Nat) (h : n < 16777216) : (four4 n).length = 4 ∧ Ls (four4 n) :=
  ⟨rfl, .cons (by omega) (.cons (by omega) (.cons (by omega) (.cons (by omega) .nil)))⟩
set_option maxRecDepth 100000
set_option maxHeartbeats 1000000 in
theorem rEncode_any (w : World) (A : Option Addr) (c : Nat) (bs : List Nat) (hR : RdB w w.heap.size A bs) (hb : Bs bs) (hm : bs.length ≤ 100000) :
    Calls Tryd.prog 15 #[.slice A bs.length c] w fun e w' => e = .returned (.string (str (encU bs))) ∧ Below w.heap.size w w' := by
  have HR := Lib.hid hR
  have HBs := Lib.hid hb
  clear hR hb
  go_enter Tryd.func15, Tryd.ntmps15
  go_wp2
  go_loopw [3, 4] (fun v i wr => ∃ k : Nat, k < bs.length + 3 ∧ k % 3 = 0 ∧ i = .int .i64 k ∧ (encU (bs.take k)).length ≤ 2 * k ∧ Own wr w.heap.size v (encU (bs.take k)) ∧ Below w.heap.size w wr) (fun _ i _ => bs.length + 3 - (intOf i).toNat)
  case atStart => exact ⟨0, by omega, rfl, rfl, by simp [encU, lets, enc], own_nil _ _, Below.refl _ _⟩
  case round =>
    obtain ⟨k, hk, hk3, rfl, hlen, hO, hbel⟩ := hrel
    by_cases hlt : k < bs.length
    · have HG := Lib.hid (encU_group bs k hk3 (by omega))
      obtain ⟨ad, rfl, hadb, hcs⟩ := (HR.out.below hbel) (by omega)
      have hc0 : wr.cell? (ad.add k) = some (.int .u8 (bs.getD k 0 : Nat)) := hcs k _ (vals_get _ _ _ hlt)
      have hx0 := HBs.out.getD k
      have HO := Lib.hid hO
      have HB := Lib.hid hbel
      have HC := Lib.hid hcs
      clear hO hbel hcs
      generalize encU (bs.take k) = o at *
      rcases (by omega : k + 1 = bs.length ∨ k + 2 = bs.length ∨ k + 3 ≤ bs.length) with hr | hr | hr
      · rw [drop_one bs k hr] at HG
        have hd1 : decide ((k : Int) + 1 < (bs.length : Int)) = false := decide_eq_false (by omega)
        have hd2 : decide ((k : Int) + 2 < (bs.length : Int)) = false := decide_eq_false (by omega)
        generalize bs.getD k 0 = a at *
        have hK : lets url (enc [a]) = lets url ((four4 (a * 65536)).take 2) := by
          have e : enc [a] = (four4 (a * 65536)).take 2 := by
            show [a / 4, a % 4 * 16] = [_, _]
            congr 1
            · omega
            congr 1; omega
          rw [e]
        have HK := Lib.hid hK
        clear hK
        have hfour : four4V ((a : Int) * 65536) = Vs .i64 (four4 (a * 65536)) := by
          rw [show (a : Int) * 65536 = ((a * 65536 : Nat) : Int) by omega]
          exact four4_val _
        have HV : Hid _ := Lib.hid hfour
        have hql := four4_lt (a * 65536) (by omega)
        have HQ := Lib.hid hql
        clear hfour hql
        go_wp2
        generalize hw4 : wr.alloc _ = w4
        have HBk : Hid (Blk w4 wr.heap.size 59 (Vs .i64 (four4 (a * 65536)))) := Lib.hid (by
          rw [← hw4, ← HV.out]
          exact Blk.new wr 59 _)
        have HO4 : Hid (Own w4 w.heap.size u3 o) := Lib.hid (by rw [← hw4]; exact own_alloc HO.out _)
        have HB4 : Hid (Below w.heap.size w w4) := Lib.hid (by rw [← hw4]; exact HB.out.alloc HB.out.size _)
        clear hw4 HO HB HV
        generalize hq : four4 (a * 65536) = q at *
        clear hq
        generalize wr.heap.size = g4 at *
        generalize (a : Int) * 65536 = nI
        go_loopw [3, 8] (fun v i wi => ∃ j : Nat, j ≤ 2 ∧ i = .int .i64 j ∧ Own wi w.heap.size v (o ++ lets url (q.take j)) ∧ Blk wi g4 59 (Vs .i64 q) ∧ Below w.heap.size w wi) (fun _ i _ => 2 - (intOf i).toNat)
        case atStart => exact ⟨0, by omega, rfl, by simpa [lets] using HO4.out, HBk.out, HB4.out⟩
        case round =>
          obtain ⟨j, hj, rfl, hO5, hk5, hb5⟩ := hrel
          clear HO4 HBk HB4
          have HO5 := Lib.hid hO5
          have HK5 := Lib.hid hk5
          have HB5 := Lib.hid hb5
          by_cases hjK : j < 2
          · have hcell : wr.cell? ⟨g4, j, none⟩ = some (.int .i64 (q.getD j 0 : Nat)) := by
              rw [hk5.cell]
              exact Vs_get _ _ _ (by rw [HQ.out.1]; omega)
            have hqv := HQ.out.2.getD j
            have HY : Hid (o ++ lets url (q.take (j + 1)) = (o ++ lets url (q.take j)) ++ [url.getD (q.getD j 0) 0]) := Lib.hid (take_lets o q j (by rw [HQ.out.1]; omega))
            have hol : (o ++ lets url (q.take j)).length + 1 ≤ 1000000 := by rw [List.length_append, lets_length, List.length_take]; omega
            clear hO5 hk5 hb5
            generalize q.getD j 0 = qv at *
            go_wp2_with fail
            refine (letter_any qv _ hqv).mono ?_
            rintro e w6 ⟨rfl, rfl⟩
            generalize url.getD qv 0 = y at *
            go_wp2_with (at_builtin; refine wpList_append_one rfl _ _ rfl w.heap.size _ (o ++ lets url (q.take j)) rfl HO5.out y rfl hol HB5.out.size ?_; intro v6 w6 hown6 hbel6 hblk6)
            have HO6 : Hid (Own w6 w.heap.size v6 (o ++ lets url (q.take (j + 1)))) := Lib.hid (by rw [HY.out]; exact hown6)
            have HB6 : Hid (Below w.heap.size w w6) := Lib.hid (HB5.out.trans hbel6)
            have HK6 : Hid (Blk w6 g4 59 (Vs .i64 q)) := Lib.hid (hblk6 _ _ _ HK5.out (own_ne HO5.out HK5.out (by decide)))
            clear hown6 hbel6 hblk6 HO5 HB5 HK5
            go_wp2
            go_roundw
            case rel => exact ⟨j + 1, by omega, by go_num, HO6.out, HK6.out, HB6.out⟩
            case measure => simp [intOf]; omega
          · obtain rfl : j = 2 := by omega
            rw [show ((2 : Nat) : Int) = (2 : Int) from rfl]
            clear hO5 hk5 hb5 hjK hj
            go_wp2
            go_roundw
            case rel => exact ⟨k + 3, by omega, by omega, by go_num, by rw [HG.out, HK.out, List.length_append, lets_length, List.length_take]; omega, by rw [HG.out, HK.out]; exact HO5.out, HB5.out⟩
            case measure => simp [intOf]; omega
      · rw [drop_two bs k hr] at HG
        have hc1 : wr.cell? ⟨ad.block, ad.off + (k + 1), none⟩ = some (.int .u8 (bs.getD (k + 1) 0 : Nat)) := HC.out (k + 1) _ (vals_get _ _ _ (by omega))
        have hx1 := HBs.out.getD (k + 1)
        have hd1 : decide ((k : Int) + 1 < (bs.length : Int)) = true := decide_eq_true (by omega)
        have hd2 : decide ((k : Int) + 2 < (bs.length : Int)) = false := decide_eq_false (by omega)
        generalize bs.getD k 0 = a at *
        generalize bs.getD (k + 1) 0 = b at *
        have hK : lets url (enc [a, b]) = lets url ((four4 (a * 65536 + b * 256)).take 3) := by
          have e : enc [a, b] = (four4 (a * 65536 + b * 256)).take 3 := by
            show [a / 4, a % 4 * 16 + b / 16, b % 16 * 4] = [_, _, _]
            congr 1
            · omega
            congr 1
            · omega
            congr 1; omega
          rw [e]
        have HK := Lib.hid hK
        clear hK
        have hfour : four4V ((a : Int) * 65536 + (b : Int) * 256) = Vs .i64 (four4 (a * 65536 + b * 256)) := by
          rw [show (a : Int) * 65536 + (b : Int) * 256 = ((a * 65536 + b * 256 : Nat) : Int) by omega]
          exact four4_val _
        have HV : Hid _ := Lib.hid hfour
        have hql := four4_lt (a * 65536 + b * 256) (by omega)
        have HQ := Lib.hid hql
        clear hfour hql
        go_wp2
        generalize hw4 : wr.alloc _ = w4
        have HBk : Hid (Blk w4 wr.heap.size 59 (Vs .i64 (four4 (a * 65536 + b * 256)))) := Lib.hid (by
          rw [← hw4, ← HV.out]
          exact Blk.new wr 59 _)
        have HO4 : Hid (Own w4 w.heap.size u3 o) := Lib.hid (by rw [← hw4]; exact own_alloc HO.out _)
        have HB4 : Hid (Below w.heap.size w w4) := Lib.hid (by rw [← hw4]; exact HB.out.alloc HB.out.size _)
        clear hw4 HO HB HV
        generalize hq : four4 (a * 65536 + b * 256) = q at *
        clear hq
        generalize wr.heap.size = g4 at *
        generalize (a : Int) * 65536 + (b : Int) * 256 = nI
        go_loopw [3, 8] (fun v i wi => ∃ j : Nat, j ≤ 3 ∧ i = .int .i64 j ∧ Own wi w.heap.size v (o ++ lets url (q.take j)) ∧ Blk wi g4 59 (Vs .i64 q) ∧ Below w.heap.size w wi) (fun _ i _ => 3 - (intOf i).toNat)
        case atStart => exact ⟨0, by omega, rfl, by simpa [lets] using HO4.out, HBk.out, HB4.out⟩
        case round =>
          obtain ⟨j, hj, rfl, hO5, hk5, hb5⟩ := hrel
          clear HO4 HBk HB4
          have HO5 := Lib.hid hO5
          have HK5 := Lib.hid hk5
          have HB5 := Lib.hid hb5
          by_cases hjK : j < 3
          · have hcell : wr.cell? ⟨g4, j, none⟩ = some (.int .i64 (q.getD j 0 : Nat)) := by
              rw [hk5.cell]
              exact Vs_get _ _ _ (by rw [HQ.out.1]; omega)
            have hqv := HQ.out.2.getD j
            have HY : Hid (o ++ lets url (q.take (j + 1)) = (o ++ lets url (q.take j)) ++ [url.getD (q.getD j 0) 0]) := Lib.hid (take_lets o q j (by rw [HQ.out.1]; omega))
            have hol : (o ++ lets url (q.take j)).length + 1 ≤ 1000000 := by rw [List.length_append, lets_length, List.length_take]; omega
            clear hO5 hk5 hb5
            generalize q.getD j 0 = qv at *
            go_wp2_with fail
            refine (letter_any qv _ hqv).mono ?_
            rintro e w6 ⟨rfl, rfl⟩
            generalize url.getD qv 0 = y at *
            go_wp2_with (at_builtin; refine wpList_append_one rfl _ _ rfl w.heap.size _ (o ++ lets url (q.take j)) rfl HO5.out y rfl hol HB5.out.size ?_; intro v6 w6 hown6 hbel6 hblk6)
            have HO6 : Hid (Own w6 w.heap.size v6 (o ++ lets url (q.take (j + 1)))) := Lib.hid (by rw [HY.out]; exact hown6)
            have HB6 : Hid (Below w.heap.size w w6) := Lib.hid (HB5.out.trans hbel6)
            have HK6 : Hid (Blk w6 g4 59 (Vs .i64 q)) := Lib.hid (hblk6 _ _ _ HK5.out (own_ne HO5.out HK5.out (by decide)))
            clear hown6 hbel6 hblk6 HO5 HB5 HK5
            go_wp2
            go_roundw
            case rel => exact ⟨j + 1, by omega, by go_num, HO6.out, HK6.out, HB6.out⟩
            case measure => simp [intOf]; omega
          · obtain rfl : j = 3 := by omega
            rw [show ((3 : Nat) : Int) = (3 : Int) from rfl]
            clear hO5 hk5 hb5 hjK hj
            go_wp2
            go_roundw
            case rel => exact ⟨k + 3, by omega, by omega, by go_num, by rw [HG.out, HK.out, List.length_append, lets_length, List.length_take]; omega, by rw [HG.out, HK.out]; exact HO5.out, HB5.out⟩
            case measure => simp [intOf]; omega
      · rw [drop_three bs k hr] at HG
        have hc1 : wr.cell? ⟨ad.block, ad.off + (k + 1), none⟩ = some (.int .u8 (bs.getD (k + 1) 0 : Nat)) := HC.out (k + 1) _ (vals_get _ _ _ (by omega))
        have hx1 := HBs.out.getD (k + 1)
        have hc2 : wr.cell? ⟨ad.block, ad.off + (k + 2), none⟩ = some (.int .u8 (bs.getD (k + 2) 0 : Nat)) := HC.out (k + 2) _ (vals_get _ _ _ (by omega))
        have hx2 := HBs.out.getD (k + 2)
        have hd1 : decide ((k : Int) + 1 < (bs.length : Int)) = true := decide_eq_true (by omega)
        have hd2 : decide ((k : Int) + 2 < (bs.length : Int)) = true := decide_eq_true (by omega)
        generalize bs.getD k 0 = a at *
        generalize bs.getD (k + 1) 0 = b at *
        generalize bs.getD (k + 2) 0 = d at *
        have hK : lets url (enc [a, b, d]) = lets url ((four4 (a * 65536 + b * 256 + d)).take 4) := by
          have e : enc [a, b, d] = (four4 (a * 65536 + b * 256 + d)).take 4 := by
            show [a / 4, a % 4 * 16 + b / 16, b % 16 * 4 + d / 64, d % 64] = [_, _, _, _]
            congr 1
            · omega
            congr 1
            · omega
            congr 1
            · omega
            congr 1; omega
          rw [e]
        have HK := Lib.hid hK
        clear hK
        have hfour : four4V ((a : Int) * 65536 + (b : Int) * 256 + (d : Int)) = Vs .i64 (four4 (a * 65536 + b * 256 + d)) := by
          rw [show (a : Int) * 65536 + (b : Int) * 256 + (d : Int) = ((a * 65536 + b * 256 + d : Nat) : Int) by omega]
          exact four4_val _
        have HV : Hid _ := Lib.hid hfour
        have hql := four4_lt (a * 65536 + b * 256 + d) (by omega)
        have HQ := Lib.hid hql
        clear hfour hql
        go_wp2
        generalize hw4 : wr.alloc _ = w4
        have HBk : Hid (Blk w4 wr.heap.size 59 (Vs .i64 (four4 (a * 65536 + b * 256 + d)))) := Lib.hid (by
          rw [← hw4, ← HV.out]
          exact Blk.new wr 59 _)
        have HO4 : Hid (Own w4 w.heap.size u3 o) := Lib.hid (by rw [← hw4]; exact own_alloc HO.out _)
        have HB4 : Hid (Below w.heap.size w w4) := Lib.hid (by rw [← hw4]; exact HB.out.alloc HB.out.size _)
        clear hw4 HO HB HV
        generalize hq : four4 (a * 65536 + b * 256 + d) = q at *
        clear hq
        generalize wr.heap.size = g4 at *
        generalize (a : Int) * 65536 + (b : Int) * 256 + (d : Int) = nI
        generalize ad.add (k + 2) = p2
        go_loopw [3, 8] (fun v i wi => ∃ j : Nat, j ≤ 4 ∧ i = .int .i64 j ∧ Own wi w.heap.size v (o ++ lets url (q.take j)) ∧ Blk wi g4 59 (Vs .i64 q) ∧ Below w.heap.size w wi) (fun _ i _ => 4 - (intOf i).toNat)
        case atStart => exact ⟨0, by omega, rfl, by simpa [lets] using HO4.out, HBk.out, HB4.out⟩
        case round =>
          obtain ⟨j, hj, rfl, hO5, hk5, hb5⟩ := hrel
          clear HO4 HBk HB4
          have HO5 := Lib.hid hO5
          have HK5 := Lib.hid hk5
          have HB5 := Lib.hid hb5
          by_cases hjK : j < 4
          · have hcell : wr.cell? ⟨g4, j, none⟩ = some (.int .i64 (q.getD j 0 : Nat)) := by
              rw [hk5.cell]
              exact Vs_get _ _ _ (by rw [HQ.out.1]; omega)
            have hqv := HQ.out.2.getD j
            have HY : Hid (o ++ lets url (q.take (j + 1)) = (o ++ lets url (q.take j)) ++ [url.getD (q.getD j 0) 0]) := Lib.hid (take_lets o q j (by rw [HQ.out.1]; omega))
            have hol : (o ++ lets url (q.take j)).length + 1 ≤ 1000000 := by rw [List.length_append, lets_length, List.length_take]; omega
            clear hO5 hk5 hb5
            generalize q.getD j 0 = qv at *
            go_wp2_with fail
            refine (letter_any qv _ hqv).mono ?_
            rintro e w6 ⟨rfl, rfl⟩
            generalize url.getD qv 0 = y at *
            go_wp2_with (at_builtin; refine wpList_append_one rfl _ _ rfl w.heap.size _ (o ++ lets url (q.take j)) rfl HO5.out y rfl hol HB5.out.size ?_; intro v6 w6 hown6 hbel6 hblk6)
            have HO6 : Hid (Own w6 w.heap.size v6 (o ++ lets url (q.take (j + 1)))) := Lib.hid (by rw [HY.out]; exact hown6)
            have HB6 : Hid (Below w.heap.size w w6) := Lib.hid (HB5.out.trans hbel6)
            have HK6 : Hid (Blk w6 g4 59 (Vs .i64 q)) := Lib.hid (hblk6 _ _ _ HK5.out (own_ne HO5.out HK5.out (by decide)))
            clear hown6 hbel6 hblk6 HO5 HB5 HK5
            go_wp2
            go_roundw
            case rel => exact ⟨j + 1, by omega, by go_num, HO6.out, HK6.out, HB6.out⟩
            case measure => simp [intOf]; omega
          · obtain rfl : j = 4 := by omega
            rw [show ((4 : Nat) : Int) = (4 : Int) from rfl]
            clear hO5 hk5 hb5 hjK hj
            go_wp2
            go_roundw
            case rel => exact ⟨k + 3, by omega, by omega, by go_num, by rw [HG.out, HK.out, List.length_append, lets_length, List.length_take]; omega, by rw [HG.out, HK.out]; exact HO5.out, HB5.out⟩
            case measure => simp [intOf]; omega
    · have HE : Hid (bs.take k = bs) := Lib.hid (List.take_of_length_le (by omega))
      rw [HE.out] at hO
      have hd : decide ((k : Int) < (bs.length : Int)) = false := decide_eq_false (by omega)
      have hcv : (convert 22 9 u3).run Tryd.prog wr = .ok (.string (str (encU bs))) wr := conv_own hO
      have HB := Lib.hid hbel
      clear hbel HE hO hlen
      go_wp2
      go_ret
      exact ⟨rfl, HB.out⟩
end Go.Proofs.YtcpifencjmlhaaaDoor.B64
