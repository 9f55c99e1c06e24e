/-
  What the document's Decode does: the same bytes, or none; nothing that was there before is changed.
-/
import Derived.Test.YtcpifencjmlhaaaQ3
import Derived.Test.YtcpifencjmlhaaaQ4
namespace Go.Proofs.Ytcpifencjmlhaaa.B64
open Go.RowKit
theorem dec_append : ∀ l, l.length % 4 = 0 → ∀ m, dec (l ++ m) = (dec l).bind fun d => (dec m).map (d ++ ·) := by
  refine four (fun _ m => ?_) (fun a h => ?_) (fun a b h => ?_) (fun a b c h => ?_) (fun a b c d r ih h m => ?_)
  · show dec m = (dec m).map ([] ++ ·)
    cases dec m <;> rfl
  · simp at h
  · simp at h
  · simp at h
  · show (dec (r ++ m)).map _ = ((dec r).map _).bind _
    rw [ih (by simp only [List.length_cons] at h; omega)]
    cases dec r with
    | none => rfl
    | some x => cases dec m <;> rfl
/-- Letter t of the group from i on; 0: there is none. -/
def lt (cs : List Nat) (i t : Nat) : Nat := if i + t < cs.length then (ixI url (cs.getD (i + t) 0)).toNat else 0
theorem lt_lt (cs : List Nat) (i t : Nat) : lt cs i t < 64 := by
  unfold lt
  split
  · have := ixI_lt url (cs.getD (i + t) 0)
    rw [url_len] at this
    omega
  · decide
def acc (cs : List Nat) (i : Nat) : Nat → Nat
  | 0 => 0
  | t + 1 => acc cs i t * 64 + lt cs i t
theorem acc_lt (cs : List Nat) (i : Nat) : ∀ t, acc cs i t < 64 ^ t
  | 0 => Nat.zero_lt_one
  | t + 1 => by
    have h1 := acc_lt cs i t
    have h2 := lt_lt cs i t
    show acc cs i t * 64 + lt cs i t < _
    rw [Nat.pow_succ]
    omega
/-- The three bytes of a number. -/
def b3 (n : Nat) : List Nat := [n / 65536, n / 256 % 256, n % 256]
theorem acc4 (cs : List Nat) (i : Nat) : acc cs i 4 = ((lt cs i 0 * 64 + lt cs i 1) * 64 + lt cs i 2) * 64 + lt cs i 3 := by
  show (((0 * 64 + lt cs i 0) * 64 + lt cs i 1) * 64 + lt cs i 2) * 64 + lt cs i 3 = _
  rw [Nat.zero_mul, Nat.zero_add]
theorem lt_in {cs : List Nat} {i t : Nat} (h : i + t < cs.length) : lt cs i t = (ixI url cs[i + t]).toNat := by
  unfold lt
  rw [if_pos h, List.getD_eq_getElem?_getD, List.getElem?_eq_getElem h, Option.getD_some]
theorem lt_out {cs : List Nat} {i t : Nat} (h : cs.length ≤ i + t) : lt cs i t = 0 := by
  unfold lt
  rw [if_neg (by omega)]
/-- A group's bytes. -/
theorem group {cs : List Nat} {i r : Nat} (hr : r = 2 ∨ r = 3 ∨ r = 4) (hl : r < 4 → i + r = cs.length) (hl4 : r = 4 → i + 4 ≤ cs.length) :
    ((∀ t, t < 3 → r - 1 ≤ t → (b3 (acc cs i 4)).getD t 0 = 0) → dec (nums url ((cs.drop i).take 4)) = some ((b3 (acc cs i 4)).take (r - 1))) ∧
    (∀ t, t < 3 → r - 1 ≤ t → (b3 (acc cs i 4)).getD t 0 ≠ 0 → dec (nums url ((cs.drop i).take 4)) = none ∧ i + r = cs.length ∧ r < 4) := by
  have h0 := lt_lt cs i 0
  have h1 := lt_lt cs i 1
  have h2 := lt_lt cs i 2
  have h3 := lt_lt cs i 3
  rcases hr with rfl | rfl | rfl
  · have hlen := hl (by omega)
    have e : nums url ((cs.drop i).take 4) = [lt cs i 0, lt cs i 1] := by
      rw [List.drop_eq_getElem_cons (by omega), List.drop_eq_getElem_cons (by omega), List.drop_eq_nil_of_le (by omega), lt_in (by omega), lt_in (by omega)]
      rfl
    have z2 : lt cs i 2 = 0 := lt_out (by omega)
    have z3 : lt cs i 3 = 0 := lt_out (by omega)
    rw [e, acc4, z2, z3]
    generalize lt cs i 0 = x at *; generalize lt cs i 1 = y at *
    have hd : dec [x, y] = if y % 16 = 0 then some [x * 4 + y / 16] else none := rfl
    rw [hd]
    refine ⟨fun h => ?_, fun t ht hrt hne => ?_⟩
    · have := h 1 (by omega) (by omega)
      have this : (((x * 64 + y) * 64 + 0) * 64 + 0) / 256 % 256 = 0 := this
      rw [if_pos (by omega)]
      show _ = some [(((x * 64 + y) * 64 + 0) * 64 + 0) / 65536]
      congr 2; omega
    · rcases (by omega : t = 1 ∨ t = 2) with rfl | rfl
      · have hne : (((x * 64 + y) * 64 + 0) * 64 + 0) / 256 % 256 ≠ 0 := hne
        rw [if_neg (by omega)]
        exact ⟨rfl, hlen, by omega⟩
      · have hne : (((x * 64 + y) * 64 + 0) * 64 + 0) % 256 ≠ 0 := hne
        omega
  · have hlen := hl (by omega)
    have e : nums url ((cs.drop i).take 4) = [lt cs i 0, lt cs i 1, lt cs i 2] := by
      rw [List.drop_eq_getElem_cons (by omega), List.drop_eq_getElem_cons (by omega), List.drop_eq_getElem_cons (by omega), List.drop_eq_nil_of_le (by omega), lt_in (by omega), lt_in (by omega), lt_in (by omega)]
      rfl
    have z3 : lt cs i 3 = 0 := lt_out (by omega)
    rw [e, acc4, z3]
    generalize lt cs i 0 = x at *; generalize lt cs i 1 = y at *; generalize lt cs i 2 = z at *
    have hd : dec [x, y, z] = if z % 4 = 0 then some [x * 4 + y / 16, y % 16 * 16 + z / 4] else none := rfl
    rw [hd]
    refine ⟨fun h => ?_, fun t ht hrt hne => ?_⟩
    · have := h 2 (by omega) (by omega)
      have this : (((x * 64 + y) * 64 + z) * 64 + 0) % 256 = 0 := this
      rw [if_pos (by omega)]
      show _ = some [(((x * 64 + y) * 64 + z) * 64 + 0) / 65536, (((x * 64 + y) * 64 + z) * 64 + 0) / 256 % 256]
      congr 2
      · omega
      · congr 1; omega
    · obtain rfl : t = 2 := by omega
      have hne : (((x * 64 + y) * 64 + z) * 64 + 0) % 256 ≠ 0 := hne
      rw [if_neg (by omega)]
      exact ⟨rfl, hlen, by omega⟩
  · have hlen := hl4 rfl
    have e : nums url ((cs.drop i).take 4) = [lt cs i 0, lt cs i 1, lt cs i 2, lt cs i 3] := by
      rw [List.drop_eq_getElem_cons (by omega), List.drop_eq_getElem_cons (by omega), List.drop_eq_getElem_cons (by omega), List.drop_eq_getElem_cons (by omega), lt_in (by omega), lt_in (by omega), lt_in (by omega), lt_in (by omega)]
      rfl
    rw [e, acc4]
    generalize lt cs i 0 = x at *; generalize lt cs i 1 = y at *; generalize lt cs i 2 = z at *; generalize lt cs i 3 = u at *
    have hd : dec [x, y, z, u] = some [x * 4 + y / 16, y % 16 * 16 + z / 4, z % 4 * 64 + u] := rfl
    rw [hd]
    refine ⟨fun h => ?_, fun t ht hrt hne => by omega⟩
    show _ = some [(((x * 64 + y) * 64 + z) * 64 + u) / 65536, (((x * 64 + y) * 64 + z) * 64 + u) / 256 % 256, (((x * 64 + y) * 64 + z) * 64 + u) % 256]
    congr 2
    · omega
    · congr 1
      · omega
      · congr 1; omega
theorem nums_append (al l m : List Nat) : nums al (l ++ m) = nums al l ++ nums al m := by simp [nums]
theorem dec_more {cs : List Nat} {i : Nat} {d g : List Nat} (h4 : i % 4 = 0) (hi : i ≤ cs.length) (h : dec (nums url (cs.take i)) = some d) (hg : dec (nums url ((cs.drop i).take 4)) = some g) : dec (nums url (cs.take (i + 4))) = some (d ++ g) := by
  rw [List.take_add, nums_append, dec_append _ (by rw [nums_length, List.length_take]; omega), h, Option.bind_some, hg]
  rfl
theorem dec_bad {cs : List Nat} {i : Nat} {d : List Nat} (h4 : i % 4 = 0) (hi : i ≤ cs.length) (hl : cs.length ≤ i + 4) (h : dec (nums url (cs.take i)) = some d) (hg : dec (nums url ((cs.drop i).take 4)) = none) : decO url cs = none := by
  unfold decO
  split
  · rw [← List.take_of_length_le (l := cs) hl, List.take_add, nums_append, dec_append _ (by rw [nums_length, List.length_take]; omega), h, Option.bind_some, hg]
    rfl
  · rfl
/-- A length of 1 modulo 4 is no code's. -/
theorem dec_one : ∀ l, l.length % 4 = 1 → dec l = none := by
  refine four (fun h => ?_) (fun a h => rfl) (fun a b h => ?_) (fun a b c h => ?_) (fun a b c d r ih h => ?_)
  · simp at h
  · simp at h
  · simp at h
  · show (dec r).map _ = none
    rw [ih (by simp only [List.length_cons] at h; omega)]
    rfl
theorem decO_one {cs : List Nat} (h : cs.length % 4 = 1) : decO url cs = none := by
  unfold decO
  split
  · exact dec_one _ (by rw [nums_length]; exact h)
  · rfl
/-- What is answered: the bytes, in a row of one's own, or none. -/
def RTold (w : World) (base : Nat) (o : Option (List Nat)) (e : Ending) : Prop := match o with
  | some d => ∃ v, e = .returned (.tuple #[v, .bool true]) ∧ Own w base v d
  | none => e = .returned (.tuple #[.slice none 0 0, .bool false])
def b3V (n : Int) : Array Value := #[.int .u8 (n / 65536), .int .u8 (n / 256 % 256), .int .u8 (n % 256)]
theorem b3_val (n : Nat) : b3V (n : Int) = Vs .u8 (b3 n) := by simp [b3V, b3, Vs, vals]
theorem b3_Bs (n : Nat) (h : n < 16777216) : Bs (b3 n) := .cons (by omega) (.cons (by omega) (.cons (by omega) .nil))
theorem take_more (d bb : List Nat) (j m : Nat) (h : j < bb.length) (hm : j < m) : d ++ bb.take (min (j + 1) m) = (d ++ bb.take (min j m)) ++ [bb.getD j 0] := by
  rw [Nat.min_eq_left (by omega), Nat.min_eq_left (by omega), List.take_add_one, List.getElem?_eq_getElem h, Option.toList_some, List.append_assoc, List.getD_eq_getElem?_getD, List.getElem?_eq_getElem h, Option.getD_some]
theorem acc_le (cs : List Nat) (i t : Nat) (h : t ≤ 4) : acc cs i t < 16777216 :=
  Nat.lt_of_lt_of_le (acc_lt cs i t) (Nat.pow_le_pow_right (n := 64) (by decide) h)
set_option maxRecDepth 100000
set_option maxHeartbeats 1000000 in
theorem rDecode_any (w : World) (cs : List Nat) (hb : Bs cs) (hm : cs.length ≤ 100000) :
    Calls Try.prog 11 #[.string (str cs)] w fun e w' => RTold w' w.heap.size (decO url cs) e ∧ Below w.heap.size w w' := by
  have HBs := Lib.hid hb
  have hsz := str_size cs
  have HIX : Hid (∀ (k : Nat), k < cs.length → ∀ w, (Instr.index 9 (.string (str cs)) (.int .i64 (k : Int))).run Try.prog w = .ok (.int .u8 (cs.getD k 0 : Nat)) w) := Lib.hid fun k hk w => run_idx w cs hb .i64 k hk
  clear hb
  generalize str cs = scs at *
  go_enter Try.func11, Try.ntmps11
  by_cases h1 : cs.length % 4 = 1
  · have HD := Lib.hid (decO_one h1)
    have hd : ((cs.length : Int) % 4 == 1) = true := by rw [beq_iff_eq]; omega
    go_wp2
    go_ret2
    rw [HD.out]
    exact ⟨rfl, Below.refl _ _⟩
  have hd : ((cs.length : Int) % 4 == 1) = false := by rw [beq_eq_false_iff_ne]; omega
  go_wp2
  clear hd
  go_loopw [4, 5] (fun v i wr => ∃ (k : Nat) (d : List Nat), k < cs.length + 4 ∧ k % 4 = 0 ∧ i = .int .i64 k ∧ AllIn url (cs.take k) ∧ dec (nums url (cs.take k)) = some d ∧ d.length ≤ k ∧ Own wr w.heap.size v d ∧ Below w.heap.size w wr) (fun _ i _ => cs.length + 4 - (intOf i).toNat)
  case atStart => exact ⟨0, [], by omega, rfl, rfl, (fun c hc => by cases hc), rfl, by simp, own_nil _ _, Below.refl _ _⟩
  case round =>
    obtain ⟨k, d, hk, hk4, rfl, hall, hdec, hdl, hO, hbel⟩ := hrel
    have HO := Lib.hid hO
    have HB := Lib.hid hbel
    have HA := Lib.hid hall
    have HD := Lib.hid hdec
    clear hO hbel hall hdec
    by_cases hlt : k < cs.length
    · go_wp2
      go_loop [6, 7, 8] (fun n c i => ∃ t j m q : Nat, t ≤ 4 ∧ j = k + t ∧ m = min t (cs.length - k) ∧ q = acc cs k t ∧ i = .int .i64 j ∧ n = .int .i64 q ∧ c = .int .i64 m ∧ AllIn url (cs.take j)) (fun _ _ i => k + 4 - (intOf i).toNat)
      case atStart => exact ⟨0, k, 0, 0, by omega, by omega, by omega, rfl, rfl, rfl, rfl, HA.out⟩
      case round =>
        obtain ⟨t, j, m, q, ht, hj, hmm, hq, rfl, rfl, rfl, hall2⟩ := hrel
        have HA2 := Lib.hid hall2
        have HQ := Lib.hid hq
        have HM := Lib.hid hmm
        have hql : q < 16777216 := by rw [hq]; exact acc_le cs k t ht
        have hml : m ≤ 4 := by omega
        have hj1 : j ≤ k + t := by omega
        have hj2 : k + t ≤ j := by omega
        have HJ := Lib.hid hj
        clear hall2 hmm hj
        by_cases ht4 : t < 4
        · have hq64 : q < 262144 := by
            rw [hq]
            exact Nat.lt_of_lt_of_le (acc_lt cs k t) (Nat.pow_le_pow_right (n := 64) (by decide) (show t ≤ 3 by omega))
          have HS : Hid (acc cs k (t + 1) = q * 64 + lt cs k t) := Lib.hid (by rw [HQ.out]; rfl)
          clear hq
          by_cases hjl : j < cs.length
          · have hix := HIX.out j hjl
            have hx := HBs.out.getD j
            have HX : Hid (0 ≤ ixI url (cs.getD j 0) → AllIn url (cs.take (j + 1))) := Lib.hid (HA2.out.snoc hjl)
            have HY : Hid (ixI url (cs.getD j 0) < 0 → ¬ AllIn url cs) := Lib.hid (notIn hjl)
            have HL : Hid (lt cs k t = (ixI url (cs.getD j 0)).toNat) := Lib.hid (by unfold lt; rw [← HJ.out, if_pos hjl])
            have hil := ixI_lt url (cs.getD j 0)
            rw [url_len] at hil
            generalize cs.getD j 0 = x at *
            have HNc : Hid (∀ w, Calls Try.prog 16 #[.int .u8 (x : Int)] w fun e w' => e = .returned (.int .i64 (ixI url x)) ∧ w = w') := Lib.hid fun w => number_any x w hx
            generalize ixI url x = ix at *
            go_wp2_with fail
            refine (HNc.out _).mono ?_
            rintro e w3 ⟨rfl, rfl⟩
            clear HNc hix
            by_cases hneg : ix < 0
            · have HDN : Hid (decO url cs = none) := Lib.hid (by unfold decO; rw [if_neg (HY.out hneg)])
              go_wp2
              go_ret2
              rw [HDN.out]
              exact ⟨rfl, HB.out⟩
            · obtain ⟨v, rfl⟩ : ∃ v : Nat, ix = (v : Int) := ⟨ix.toNat, by omega⟩
              have hdv : decide ((v : Int) < 0) = false := decide_eq_false (by omega)
              have HA3 := Lib.hid (HX.out (by omega))
              rw [Int.toNat_natCast] at HL
              clear HX HY hneg
              go_wp2
              go_round
              case rel => exact ⟨t + 1, j + 1, m + 1, q * 64 + v, by omega, by omega, by rw [HM.out]; omega, by rw [HS.out, HL.out], by go_num, by go_num, by go_num, HA3.out⟩
              case measure => simp [intOf]; omega
          · have hdj : decide ((j : Int) < (cs.length : Int)) = false := decide_eq_false (by omega)
            have HL : Hid (lt cs k t = 0) := Lib.hid (lt_out (by omega))
            have HA3 : Hid (AllIn url (cs.take (j + 1))) := Lib.hid (by rw [List.take_of_length_le (by omega)]; have := HA2.out; rwa [List.take_of_length_le (by omega)] at this)
            go_wp2
            go_round
            case rel => exact ⟨t + 1, j + 1, m, q * 64, by omega, by omega, by rw [HM.out]; omega, by rw [HS.out, HL.out]; rfl, by go_num, by go_num, rfl, HA3.out⟩
            case measure => simp [intOf]; omega
        · obtain rfl : t = 4 := by omega
          have hm2 := HM.out
          have hdj : decide ((j : Int) < (k : Int) + 4) = false := decide_eq_false (by omega)
          have hr : m = 2 ∨ m = 3 ∨ m = 4 := by omega
          have HGr := Lib.hid (group (cs := cs) (i := k) (r := m) hr (by omega) (by omega))
          rw [← hq] at HGr
          have hV : b3V (q : Int) = Vs .u8 (b3 q) := b3_val q
          have HV := Lib.hid hV
          clear hq hm2 hV hml
          go_wp2
          generalize hw4 : wr.alloc _ = w4
          have HBk : Hid (Blk w4 wr.heap.size 42 (Vs .u8 (b3 q))) := Lib.hid (by
            rw [← hw4, ← HV.out]
            exact Blk.new wr 42 _)
          have HO4 : Hid (Own w4 w.heap.size u4 d) := Lib.hid (by rw [← hw4]; exact own_alloc HO.out _)
          have HB4 : Hid (Below w.heap.size w w4) := Lib.hid (by rw [← hw4]; exact HB.out.alloc HB.out.size _)
          clear hw4 HO HB HV
          generalize wr.heap.size = g4 at *
          have hbl : (b3 q).length = 3 := rfl
          have HBL := Lib.hid hbl
          have HBb : Hid (Bs (b3 q)) := Lib.hid (b3_Bs q hql)
          clear hbl
          generalize b3 q = bb at *
          go_loopw [4, 11] (fun v i wi => ∃ j2 : Nat, j2 ≤ 3 ∧ i = .int .i64 j2 ∧ Own wi w.heap.size v (d ++ bb.take (min j2 (m - 1))) ∧ (∀ t, t < j2 → m - 1 ≤ t → bb.getD t 0 = 0) ∧ Blk wi g4 42 (Vs .u8 bb) ∧ Below w.heap.size w wi) (fun _ i _ => 3 - (intOf i).toNat)
          case atStart => exact ⟨0, by omega, rfl, by rw [Nat.zero_min, List.take_zero, List.append_nil]; exact HO4.out, (fun t ht _ => by omega), HBk.out, HB4.out⟩
          case round =>
            obtain ⟨j2, hj3, rfl, hO5, hz5, hk5, hb5⟩ := hrel
            clear HO4 HBk HB4
            have HO5 := Lib.hid hO5
            have HK5 := Lib.hid hk5
            have HB5 := Lib.hid hb5
            have HZ5 := Lib.hid hz5
            by_cases hjK : j2 < 3
            · have hcell : wr.cell? ⟨g4, j2, none⟩ = some (.int .u8 (bb.getD j2 0 : Nat)) := by
                rw [hk5.cell]
                exact Vs_get _ _ _ (by rw [HBL.out]; omega)
              clear hO5 hk5 hb5 hz5
              by_cases hin : j2 < m - 1
              · have HY : Hid (d ++ bb.take (min (j2 + 1) (m - 1)) = (d ++ bb.take (min j2 (m - 1))) ++ [bb.getD j2 0]) := Lib.hid (take_more d bb j2 (m - 1) (by rw [HBL.out]; omega) hin)
                have hol : (d ++ bb.take (min j2 (m - 1))).length + 1 ≤ 1000000 := by rw [List.length_append, List.length_take]; omega
                have hdm : decide ((j2 : Int) < (m : Int) - 1) = true := decide_eq_true (by omega)
                have hyl := HBb.out.getD j2
                generalize bb.getD j2 0 = y at *
                go_wp2_with (at_builtin; refine wpList_append_one rfl _ _ rfl w.heap.size _ (d ++ bb.take (min j2 (m - 1))) rfl HO5.out y rfl hol HB5.out.size ?_; intro v6 w6 hown6 hbel6 hblk6)
                have HO6 : Hid (Own w6 w.heap.size v6 (d ++ bb.take (min (j2 + 1) (m - 1)))) := Lib.hid (by rw [HY.out]; exact hown6)
                have HB6 : Hid (Below w.heap.size w w6) := Lib.hid (HB5.out.trans hbel6)
                have HK6 : Hid (Blk w6 g4 42 (Vs .u8 bb)) := Lib.hid (hblk6 _ _ _ HK5.out (own_ne HO5.out HK5.out (by decide)))
                clear hown6 hbel6 hblk6 HO5 HB5 HK5
                go_wp2
                go_roundw
                case rel => exact ⟨j2 + 1, by omega, by go_num, HO6.out, (fun t ht htm => by omega), HK6.out, HB6.out⟩
                case measure => simp [intOf]; omega
              · have hdm : decide ((j2 : Int) < (m : Int) - 1) = false := decide_eq_false (by omega)
                have HE : Hid (bb.getD j2 0 ≠ 0 → decO url cs = none) := Lib.hid (fun hne => by
                  obtain ⟨e1, e2, e3⟩ := HGr.out.2 j2 hjK (by omega) hne
                  exact dec_bad hk4 (by omega) (by omega) HD.out e1)
                have HW : Hid (bb.getD j2 0 = 0 → ∀ t, t < j2 + 1 → m - 1 ≤ t → bb.getD t 0 = 0) := Lib.hid (fun hz t ht htm => by
                  rcases (by omega : t < j2 ∨ t = j2) with h | h
                  · exact HZ5.out t h htm
                  · rw [h]; exact hz)
                have HM2 : Hid (min (j2 + 1) (m - 1) = min j2 (m - 1)) := Lib.hid (by omega)
                generalize bb.getD j2 0 = y at *
                by_cases hy : y = 0
                · have HW2 := Lib.hid (HW.out hy)
                  subst hy
                  clear HE HW
                  rw [show ((0 : Nat) : Int) = (0 : Int) from rfl] at hcell
                  go_wp2
                  go_roundw
                  case rel => exact ⟨j2 + 1, by omega, by go_num, by rw [HM2.out]; exact HO5.out, HW2.out, HK5.out, HB5.out⟩
                  case measure => simp [intOf]; omega
                · have HE2 := Lib.hid (HE.out hy)
                  have hyn : ((y : Int) != 0) = true := by rw [bne_iff_ne]; omega
                  clear HE HW
                  go_wp2
                  go_ret2
                  rw [HE2.out]
                  exact ⟨rfl, HB5.out⟩
            · obtain rfl : j2 = 3 := by omega
              have HX : Hid (dec (nums url (cs.take (k + 4))) = some (d ++ bb.take (min 3 (m - 1)))) := Lib.hid (by
                rw [show min 3 (m - 1) = m - 1 by omega]
                exact dec_more hk4 (by omega) HD.out (HGr.out.1 HZ5.out))
              have HA4 : Hid (AllIn url (cs.take (k + 4))) := Lib.hid (by have := HA2.out; rw [HJ.out] at this; exact this)
              rw [show ((3 : Nat) : Int) = (3 : Int) from rfl]
              clear hO5 hk5 hb5 hjK hj3 hz5
              go_wp2
              go_roundw
              case rel => exact ⟨k + 4, d ++ bb.take (min 3 (m - 1)), by omega, by omega, by go_num, HA4.out, HX.out, by rw [List.length_append, List.length_take]; omega, HO5.out, HB5.out⟩
              case measure => simp [intOf]; omega
    · have HDN : Hid (decO url cs = some d) := Lib.hid (by
        have h1 := HA.out
        have h2 := HD.out
        rw [List.take_of_length_le (by omega)] at h1 h2
        unfold decO
        rw [if_pos h1, h2])
      have hdk : decide ((k : Int) < (cs.length : Int)) = false := decide_eq_false (by omega)
      go_wp2
      go_ret2
      rw [HDN.out]
      exact ⟨⟨_, rfl, HO.out⟩, HB.out⟩
end Go.Proofs.Ytcpifencjmlhaaa.B64
