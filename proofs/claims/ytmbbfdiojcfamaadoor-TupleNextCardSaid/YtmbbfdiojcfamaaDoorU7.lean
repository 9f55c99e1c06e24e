/-
  What the document's own Key answers: its bytes; nothing that was there before is changed.
-/
import Derived.Test.YtmbbfdiojcfamaaDoorU6
import Derived.Laws.BitsAllLaws
namespace Go.Proofs.YtmbbfdiojcfamaaDoor.Txt
open Go.RowKit Tup
set_option maxRecDepth 100000
theorem and255 (n : Int) : bits .and .i64 n 255 = n % 256 := by
  have h255 : (BitVec.ofInt 64 255).toNat = 2 ^ 8 - 1 := by decide
  have key : (BitVec.ofInt 64 n &&& BitVec.ofInt 64 255).toNat = (n % ((2 ^ 64 : Nat) : Int)).toNat % 2 ^ 8 := by
    rw [BitVec.toNat_and, BitVec.toNat_ofInt, h255, Nat.and_two_pow_sub_one_eq_mod]
  show IntKind.i64.wrap ((BitVec.ofInt 64 n &&& BitVec.ofInt 64 255).toNat : Nat) = n % 256
  rw [key, IntKind.wrap_i64]
  omega
theorem xor128 : ∀ x : Fin 256, bits .xor .u8 (x.val : Int) 128 = (((UInt8.ofNat (x.val + 128)).toNat : Nat) : Int) := by decide +kernel
/-- What blocks of another type than bytes keep. -/
def KeepB (w w' : World) : Prop := ∀ g t cs, t ≠ 5 → Blk w g t cs → Blk w' g t cs
theorem KeepB.refl (w : World) : KeepB w w := fun _ _ _ _ h => h
theorem KeepB.trans {a b c : World} (h : KeepB a b) (k : KeepB b c) : KeepB a c := fun g t cs ht hb => k g t cs ht (h g t cs ht hb)
theorem own_type {w : World} {base : Nat} {v : Value} {l : List UInt8} (h : Own w base v l) {g : Nat} {t : TypeId} {cs : Array Value} (hb : Blk w g t cs) (ht : t ≠ 5) : some g ≠ v.ownBlock := by
  rcases h.2 with ⟨rfl, _⟩ | ⟨p, cap, cur, rfl, _, hg, _⟩
  · simp [Value.ownBlock]
  · intro e
    simp only [Value.ownBlock, Option.some.injEq] at e
    subst e
    unfold Blk at hb
    rw [hb] at hg
    injection hg with hg
    injection hg with _ h2 _
    exact ht h2
/-- append of bytes, in a slice that was made for them. -/
theorem wpList_append_byK {w : World} {ops : Array Oper} {rest : List Oper} {o : Oper} {a : Act} {Q : Exit → Act → World → Prop} (hgd : o.guard = none) (s x : Operand)
    (ho : o.op = .call { callee := .builtin .append, args := #[s, x], argTypes := #[47, 47] }) (base : Nat) (v : Value) (l : List UInt8) (hs : a.eval s = v) (hown : Own w base v l)
    (y : List UInt8) (C : Array Value) (hC : C = (Lib.byteCells y).toArray) (m : Nat) (hm : m = y.length) (hx : a.eval x = .slice (some ⟨w.heap.size, 0, none⟩) m m) (hb : l.length + y.length ≤ 1000000) (hbase : base ≤ w.heap.size)
    (h : ∀ v' w', Own w' base v' (l ++ y) → Below base w w' → KeepB w w' → wpList Tryd.prog ops Q rest (a.put o.dst v') w') :
    wpList Tryd.prog ops Q (o :: rest) a (w.alloc (.cells C 5)) := by
  subst hC hm
  obtain ⟨i0, hi0, hz0, hz1, hz2⟩ := info_parts info5
  have hown' : (w.alloc (.cells (Lib.byteCells y).toArray 5)).ownsRow base 5 1 v l.length (Lib.byteCells l) := row_below hown ((Below.refl _ _).alloc (Nat.le_refl _) _)
  refine wpList_append_own _ hgd s x 47 ho base 5 i0 _ 1 1 Tryd.underlying47 hi0 hz0 hz1 hz2 rfl (by decide) v l.length (Lib.byteCells l) hs hown' _ y.length y.length (Lib.byteCells y) hx (by rw [Lib.byteCells_length]; omega) (fun j u hu => ?_) (fun u hu => ?_) (by unfold maxLen; omega) ?_ (by simp; omega) (fun v' w' h2 h3 _ => h v' w' ?_ ?_ ?_)
  · rw [Addr.add_mid, Nat.zero_add, (Blk.new w 5 (Lib.byteCells y).toArray).cell]
    simpa using hu
  · simp only [Lib.byteCells, List.mem_map] at hu
    obtain ⟨_, _, rfl⟩ := hu
    rfl
  · omega
  · unfold Own
    rw [byteCells_append, List.length_append]
    exact h2
  · exact ((Below.refl base w).alloc hbase _).grown h3 (by simp; omega) (fun k hk => row_base hown k hk)
  · intro g t cs ht hk
    exact Blk.grown (w := w.alloc _) ((Below.heap_alloc w _ g hk.lt).trans hk) h3 (own_type hown hk ht)
/-! A number's bytes, as the document has them. -/
def uOf (n : Int) : Nat := (n % 18446744073709551616).toNat
theorem byte_at (n : Int) (k : Nat) (hk : k < 8) : (n / (256 ^ (7 - k) : Nat)) % 256 = ((UInt8.ofNat (uOf n / 256 ^ (7 - k))).toNat : Nat) := by
  have hu : (uOf n : Int) = n % 18446744073709551616 := by unfold uOf; omega
  simp only [UInt8.toNat_ofNat']
  generalize uOf n = u at *
  rcases (by omega : k = 0 ∨ k = 1 ∨ k = 2 ∨ k = 3 ∨ k = 4 ∨ k = 5 ∨ k = 6 ∨ k = 7) with rfl | rfl | rfl | rfl | rfl | rfl | rfl | rfl
  all_goals (simp only [Nat.reduceSub, Nat.reducePow]; omega)
/-- The array behind the bytes from k on. -/
def arr (n : Int) (k : Nat) : List UInt8 := List.replicate k 0 ++ (be 8 (uOf n)).drop k
theorem arr_len (n : Int) (k : Nat) (hk : k ≤ 8) : (arr n k).length = 8 := by
  unfold arr
  rw [List.length_append, List.length_replicate, List.length_drop, be_length]
  omega
theorem arr_set (n : Int) (k : Nat) (hk : k < 8) : (arr n (k + 1)).set k (UInt8.ofNat (uOf n / 256 ^ (7 - k))) = arr n k := by
  unfold arr
  have hl := be_length 8 (uOf n)
  have hd : (be 8 (uOf n)).drop k = UInt8.ofNat (uOf n / 256 ^ (7 - k)) :: (be 8 (uOf n)).drop (k + 1) := by
    rw [List.drop_eq_getElem_cons (by omega)]
    congr 1
    rw [← be_getD 8 (uOf n) k hk, List.getD_eq_getElem?_getD, List.getElem?_eq_getElem (by omega)]
    rfl
  rw [hd, List.replicate_succ', List.append_assoc, List.set_append_right _ _ (by simp)]
  simp
theorem arr_last (n : Int) (hn : -9223372036854775808 ≤ n ∧ n ≤ 9223372036854775807) : (arr n 0).set 0 (UInt8.ofNat (((arr n 0).getD 0 0).toNat + 128)) = be 8 (n + 9223372036854775808).toNat := by
  have hu : (uOf n : Int) = n % 18446744073709551616 := by unfold uOf; omega
  have e : arr n 0 = be 8 (uOf n) := by unfold arr; simp
  rw [e, be_getD 8 _ 0 (by decide)]
  generalize uOf n = u at *
  obtain ⟨V, hV⟩ : ∃ V : Nat, (n + 9223372036854775808).toNat = V := ⟨_, rfl⟩
  have hVn : (V : Int) = n + 9223372036854775808 := by omega
  rw [hV]
  rw [be, be, List.set_cons_zero]
  congr 1
  · apply UInt8.toNat_inj.1
    simp only [UInt8.toNat_ofNat', Nat.reduceSub, Nat.reducePow]
    omega
  · refine be_congr 7 _ _ ?_
    simp only [Nat.reducePow]
    omega
theorem byte_cell {w : World} {g : Nat} {t : TypeId} {T : List UInt8} (h : Blk w g t (Lib.byteCells T).toArray) (m : Nat) (hm : m < T.length) : w.cell? ⟨g, m, none⟩ = some (.int .u8 ((T.getD m 0).toNat : Nat)) := by
  rw [h.cell]
  simp [Lib.byteCells, List.getD_eq_getElem?_getD, List.getElem?_eq_getElem hm]
theorem byteCells_set (l : List UInt8) (k : Nat) (x : UInt8) : (Lib.byteCells l).toArray.setIfInBounds k (.int .u8 (x.toNat : Nat)) = (Lib.byteCells (l.set k x)).toArray := by
  simp [Lib.byteCells, List.map_set]
theorem own_set {w : World} {base : Nat} {v : Value} {l : List UInt8} (h : Own w base v l) {g i : Nat} {u : Value} (hg : some g ≠ v.ownBlock) : Own (w.setCell ⟨g, i, none⟩ u) base v l := by
  obtain ⟨h1, h2⟩ := h
  refine ⟨h1, ?_⟩
  rcases h2 with h2 | ⟨p, cap, cur, rfl, hb, hh, hr⟩
  · exact .inl h2
  · refine .inr ⟨p, cap, cur, rfl, hb, ?_, hr⟩
    have hne : g ≠ p := fun e => hg (by rw [e]; rfl)
    simpa [World.setCell, Array.getElem?_modify, hne] using hh
/-- A row of bytes, as a slice. -/
theorem own_form {w : World} {base : Nat} {v : Value} {l : List UInt8} (h : Own w base v l) : ∃ A c, v = .slice A l.length c := by
  obtain ⟨A, c, e, _⟩ := row_form (by rw [Lib.byteCells_length]; omega) h
  exact ⟨A, c, e⟩
set_option maxHeartbeats 8000000 in
theorem rkey_any (l : List Pt) (A : Option Addr) (c : Nat) (w : World) (hR : Rd w w.heap.size A (cells3 l)) (hF : Few l) (hk12 : l.length ≤ 12) (hk60 : ∀ p ∈ l, p.t.length ≤ 60) :
    Calls Tryd.prog 12 #[.slice A l.length c] w fun e w' => e = .returned (.string (mk (key l))) ∧ Below w.heap.size w w' := by
  have HR := Lib.hid hR
  have HF := Lib.hid hF
  have H60 := Lib.hid hk60
  clear hR hF hk60
  have hms := mk_size
  have hmt := mk_toList
  go_enter Tryd.func12, Tryd.ntmps12
  go_wp2
  go_loopw [3, 4] (fun v u wr => ∃ k : Nat, k ≤ l.length ∧ u = .int .i64 k ∧ Own wr w.heap.size v (key (l.take k)) ∧ Below w.heap.size w wr) (fun _ u _ => l.length - (intOf u).toNat)
  case atStart => exact ⟨0, by omega, rfl, ⟨rfl, .inl ⟨rfl, rfl⟩⟩, Below.refl _ _⟩
  case round =>
    obtain ⟨k, hk, rfl, hrow, hb⟩ := hrel
    obtain ⟨A3, c3, rfl⟩ := own_form hrow
    have HO := Lib.hid hrow
    have HB := Lib.hid hb
    have hz := hb.size
    clear hrow hb
    by_cases hlt : k < l.length
    · obtain ⟨ad, rfl, hadb, hcs⟩ := HR.out.below HB.out (by rw [cells3_length]; omega)
      obtain ⟨q, hq⟩ : ∃ q, l[k]? = some q := ⟨l[k], List.getElem?_eq_getElem hlt⟩
      obtain ⟨e0, e1, e2⟩ := cells3_get l k q hq
      have hc0 := hcs _ _ e0
      have hc1 : wr.cell? ⟨(ad.add (k * 3)).block, (ad.add (k * 3)).off + 1, none⟩ = some (.int .i64 q.n) := by have := hcs _ _ e1; rw [← add_add] at this; exact this
      have hc2 : wr.cell? ⟨(ad.add (k * 3)).block, (ad.add (k * 3)).off + 2, none⟩ = some (.string (mk q.t)) := by have := hcs _ _ e2; rw [← add_add] at this; exact this
      obtain ⟨hqo, hqt⟩ := HF.out.2 q (List.mem_of_getElem? hq)
      have hq60 := H60.out q (List.mem_of_getElem? hq)
      have HQ := Lib.hid hqo
      have HN : Hid (key (l.take (k + 1)) = key (l.take k) ++ kb q) := Lib.hid (by rw [take_part l k q hq, key_snoc])
      have hkl : (key (l.take k)).length ≤ 12 * 129 := by
        have := key_len (M := 60) (l.take k) (fun p hp => H60.out p (List.mem_of_mem_take hp))
        have h2 : (l.take k).length * (2 * 60 + 9) ≤ 12 * (2 * 60 + 9) := Nat.mul_le_mul_right _ (by rw [List.length_take]; omega)
        omega
      have HK0 := Lib.hid (Blk.new wr 45 #[.bool q.num, .int .i64 q.n, .string (mk q.t)])
      have HB0 : Hid (Below w.heap.size w (wr.alloc (.cells #[.bool q.num, .int .i64 q.n, .string (mk q.t)] 45))) := Lib.hid (HB.out.alloc hz _)
      have HO0 : Hid (Own (wr.alloc (.cells #[.bool q.num, .int .i64 q.n, .string (mk q.t)] 45)) w.heap.size _ (key (l.take k))) := Lib.hid (row_below HO.out ((Below.refl _ _).alloc (Nat.le_refl _) _))
      have hz0 : w.heap.size ≤ (wr.alloc (.cells #[.bool q.num, .int .i64 q.n, .string (mk q.t)] 45)).heap.size := HB0.out.size
      clear hcs e0 e1 e2 hq hqo hadb HO
      generalize key (l.take k) = p at *
      unfold kb at HN
      obtain ⟨qb, qn, qt⟩ := q
      simp only at *
      cases qb with
      | true =>
        simp only [if_true] at HN
        go_wp2_with (at_builtin; go_loud (refine wpList_append_byK rfl _ _ rfl w.heap.size _ p rfl HO0.out [2] _ rfl 1 rfl (by show Value.slice (some ⟨wr.heap.size + 1, 0, none⟩) 1 1 = _; simp) (by simp; omega) hz0 ?_); intro v6 w6 hown6 hbel6 hkb6; have HK6 := Lib.hid (hkb6 _ _ _ (by decide) HK0.out); have k1 : w6.cell? ⟨wr.heap.size, 1, none⟩ = some (.int .i64 qn) := HK6.out.cell 1)
        obtain ⟨A6, c6, rfl⟩ := own_form hown6
        have HO6 := Lib.hid hown6
        have HB6 : Hid (Below w.heap.size w w6) := Lib.hid (HB0.out.trans hbel6)
        have hz6 := HB6.out.size
        clear hown6 hbel6 hkb6 HO0 HB0 HK0
        -- the array
        have hz7 : (w6.alloc (.cells #[.int .u8 0, .int .u8 0, .int .u8 0, .int .u8 0, .int .u8 0, .int .u8 0, .int .u8 0, .int .u8 0] 55)).heap.size = w6.heap.size + 1 := by simp
        go_wp2
        obtain ⟨wo, hwo⟩ : ∃ wo, wo = wr := ⟨_, rfl⟩
        subst hwo
        generalize hp' : p ++ [2] = p' at *
        have hpl' : p'.length ≤ 1549 := by rw [← hp']; simp; omega
        have HP := Lib.hid hp'
        clear hp'
        go_loopw [6, 8] (fun u v wx => ∃ j : Nat, j ≤ 8 ∧ v = .int .i64 ((j : Int) - 1) ∧ u = .int .i64 (qn / (256 ^ (8 - j) : Nat)) ∧ Own wx w.heap.size (.slice A6 p'.length c6) p' ∧ Below w.heap.size w wx ∧ Blk wx w6.heap.size 55 (Lib.byteCells (arr qn j)).toArray) (fun _ v _ => (intOf v + 1).toNat)
        case atStart => exact ⟨8, by omega, rfl, by simp, row_below HO6.out ((Below.refl _ _).alloc (Nat.le_refl _) _), HB6.out.alloc hz6 _, Blk.new w6 _ _⟩
        case round =>
          obtain ⟨j, hj, rfl, rfl, hown, hbel, hblk⟩ := hrel
          have HOw := Lib.hid hown
          have HBw := Lib.hid hbel
          have HAr := Lib.hid hblk
          have hzw := hbel.size
          clear hown hbel hblk
          rcases j with _ | i
          · rw [show (((0 : Nat) : Int) - 1) = -1 from rfl]
            generalize qn / ((256 ^ (8 - 0) : Nat) : Int) = nq
            have hl8 := arr_len qn 0 (by omega)
            have hcell := byte_cell HAr.out 0 (by omega)
            have hfz := HAr.out.frozen 0
            have hlast := arr_last qn ⟨HQ.out.1, HQ.out.2⟩
            have hxor : bits .xor .u8 (((arr qn 0).getD 0 0).toNat : Nat) 128 = ((UInt8.ofNat (((arr qn 0).getD 0 0).toNat + 128)).toNat : Nat) := xor128 ⟨((arr qn 0).getD 0 0).toNat, ((arr qn 0).getD 0 0).toNat_lt⟩
            have hput := HAr.out.put 0 (.int .u8 ((UInt8.ofNat (((arr qn 0).getD 0 0).toNat + 128)).toNat : Nat))
            rw [byteCells_set, hlast] at hput
            have HPu := Lib.hid hput
            have HOp := Lib.hid (own_set (u := .int .u8 ((UInt8.ofNat (((arr qn 0).getD 0 0).toNat + 128)).toNat : Nat)) (i := 0) HOw.out (own_type HOw.out HAr.out (by decide)))
            have HBp : Hid (Below w.heap.size w (wr.setCell ⟨w6.heap.size, 0, none⟩ (.int .u8 ((UInt8.ofNat (((arr qn 0).getD 0 0).toNat + 128)).toNat : Nat)))) := Lib.hid (HBw.out.setCell (by omega) _)
            have hT := be_length 8 (qn + 9223372036854775808).toNat
            clear hlast hput hl8
            generalize be 8 (qn + 9223372036854775808).toNat = T at *
            generalize ((arr qn 0).getD 0 0).toNat = x at *
            generalize (UInt8.ofNat (x + 128)).toNat = y at *
            go_wp2
            obtain ⟨wa, hwa⟩ : ∃ wa, wa = wr := ⟨_, rfl⟩
            subst hwa
            go_loopw [3, 9] (fun v u wx => ∃ m : Nat, m ≤ 8 ∧ u = .int .i64 m ∧ Own wx w.heap.size v (p' ++ T.take m) ∧ Below w.heap.size w wx ∧ Blk wx w6.heap.size 55 (Lib.byteCells T).toArray) (fun _ u _ => 8 - (intOf u).toNat)
            case atStart => exact ⟨0, by omega, rfl, by rw [List.take_zero, List.append_nil]; exact HOp.out, HBp.out, HPu.out⟩
            case round =>
              obtain ⟨m, hm, rfl, hown, hbel, hblk⟩ := hrel
              obtain ⟨A9, c9, rfl⟩ := own_form hown
              have HOm := Lib.hid hown
              have HBm := Lib.hid hbel
              have HAm := Lib.hid hblk
              have hzm := hbel.size
              clear hown hbel hblk HOp HBp HPu HOw HBw HAr
              by_cases hm8 : m < 8
              · have hcm := byte_cell HAm.out m (by omega)
                have hpl2 : (p' ++ T.take m).length ≤ 1557 := by rw [List.length_append, List.length_take]; omega
                have HTk : Hid ((p' ++ T.take m) ++ [T.getD m 0] = p' ++ T.take (m + 1)) := Lib.hid (by rw [take_snoc T m (by omega), List.append_assoc])
                generalize p' ++ T.take m = p2 at *
                generalize T.getD m 0 = z at *
                have hmi : (m : Int) < 8 := by omega
                go_wp2_with (at_builtin; go_loud (refine wpList_append_byK rfl _ _ rfl w.heap.size _ p2 rfl HOm.out [z] _ rfl 1 rfl rfl (by simp; omega) hzm ?_); intro v8 w8 hown8 hbel8 hkb8)
                have HO8 : Hid (Own w8 w.heap.size v8 (p' ++ T.take (m + 1))) := Lib.hid (by rw [← HTk.out]; exact hown8)
                have HB8 : Hid (Below w.heap.size w w8) := Lib.hid (HBm.out.trans hbel8)
                have HA8 := Lib.hid (hkb8 _ _ _ (by decide) HAm.out)
                clear hown8 hbel8 hkb8
                go_wp2
                go_roundw
                case rel => exact ⟨m + 1, by omega, by go_num, HO8.out, HB8.out, HA8.out⟩
                case measure => simp [intOf]; omega
              · obtain rfl : m = 8 := by omega
                have HTk : Hid (p' ++ T.take 8 = key (l.take (k + 1))) := Lib.hid (by rw [HN.out, List.take_of_length_le (by omega), ← HP.out]; simp)
                rw [HTk.out] at HOm
                rw [HTk.out]
                rw [show ((8 : Nat) : Int) = (8 : Int) from rfl]
                go_wp2
                go_roundw
                case rel => exact ⟨k + 1, by omega, by go_num, HOm.out, HBm.out⟩
                case measure => simp [intOf]; omega
          · rw [show (((i + 1 : Nat) : Int) - 1) = (i : Int) by omega]
            have ha := and255 (qn / (256 ^ (8 - (i + 1)) : Nat))
            have hi8 : (i : Int) < 8 := by omega
            have hlen := arr_len qn (i + 1) (by omega)
            have hcell : wr.cell? ⟨w6.heap.size, i, none⟩ = some (.int .u8 (((arr qn (i + 1)).getD i 0).toNat : Nat)) := by
              rw [HAr.out.cell]
              simp [Lib.byteCells, List.getD_eq_getElem?_getD, List.getElem?_eq_getElem (show i < (arr qn (i + 1)).length by omega)]
            have hfz := HAr.out.frozen i
            go_wp2
            have hval : bits .and .i64 (qn / 256 ^ (7 - i)) 255 % 256 = ((UInt8.ofNat (uOf qn / 256 ^ (7 - i))).toNat : Nat) := by
              have h1 := byte_at qn i (by omega)
              rw [and255, ← h1, Int.natCast_pow]
              simp
            have hdiv : qn / 256 ^ (7 - i) / 256 = qn / (256 ^ (8 - i) : Nat) := by
              rw [Int.ediv_ediv, if_neg (fun h => absurd h.1 (by have : (0 : Int) ≤ 256 ^ (7 - i) := Int.pow_nonneg (by decide); omega)), Int.sub_zero, Int.natCast_pow, show 8 - i = (7 - i) + 1 by omega, Int.pow_succ]
              rfl
            rw [hval, hdiv]
            go_roundw
            case rel => exact ⟨i, by omega, rfl, rfl, own_set HOw.out (own_type HOw.out HAr.out (by decide)), HBw.out.setCell (by omega) _, by have := HAr.out.put i (.int .u8 ((UInt8.ofNat (uOf qn / 256 ^ (7 - i))).toNat : Nat)); rw [byteCells_set, arr_set qn i (by omega)] at this; exact this⟩
            case measure => show ((i : Int) - 1 + 1).toNat < ((i : Int) + 1).toNat; omega
      | false =>
        simp only [Bool.false_eq_true, if_false] at HN
        go_wp2_with (at_builtin; go_loud (refine wpList_append_byK rfl _ _ rfl w.heap.size _ p rfl HO0.out [1] _ rfl 1 rfl (by show Value.slice (some ⟨wr.heap.size + 1, 0, none⟩) 1 1 = _; simp) (by simp; omega) hz0 ?_); intro v6 w6 hown6 hbel6 hkb6)
        obtain ⟨A6, c6, rfl⟩ := own_form hown6
        have HO6 := Lib.hid hown6
        have HB6 : Hid (Below w.heap.size w w6) := Lib.hid (HB0.out.trans hbel6)
        have HK6 := Lib.hid (hkb6 _ _ _ (by decide) HK0.out)
        have hz6 := HB6.out.size
        clear hown6 hbel6 hkb6 HO0 HB0 HK0
        obtain ⟨wo, hwo⟩ : ∃ wo, wo = wr := ⟨_, rfl⟩
        subst hwo
        generalize hp' : p ++ [1] = p' at *
        have hpl' : p'.length ≤ 1549 := by rw [← hp']; simp; omega
        have HP := Lib.hid hp'
        clear hp'
        go_loopw [3, 10] (fun v u wx => ∃ m : Nat, m ≤ qt.length ∧ u = .int .i64 m ∧ Own wx w.heap.size v (p' ++ esc0 (qt.take m)) ∧ Below w.heap.size w wx ∧ Blk wx wo.heap.size 45 #[.bool false, .int .i64 qn, .string (mk qt)]) (fun _ u _ => qt.length - (intOf u).toNat)
        case atStart => exact ⟨0, by omega, rfl, by simpa [esc0] using HO6.out, HB6.out, HK6.out⟩
        case round =>
          obtain ⟨m, hm, rfl, hown, hbel, hblk⟩ := hrel
          obtain ⟨A9, c9, rfl⟩ := own_form hown
          have HOm := Lib.hid hown
          have HBm := Lib.hid hbel
          have HAm := Lib.hid hblk
          have hzm := hbel.size
          have k2 : wr.cell? ⟨wo.heap.size, 2, none⟩ = some (.string (mk qt)) := hblk.cell 2
          have hpl2 : (p' ++ esc0 (qt.take m)).length ≤ 1669 := by
            have := esc0_len (qt.take m)
            rw [List.length_take] at this
            rw [List.length_append]; omega
          clear hown hbel hblk HO6 HB6 HK6
          by_cases hml : m < qt.length
          · have hmi : (m : Int) < (qt.length : Int) := by omega
            have hix : ∀ w, (Instr.index 9 (.string (mk qt)) (.int .i64 (m : Int))).run Tryd.prog w = .ok (.int .u8 ((qt.getD m 0).toNat : Nat)) w := fun w => run_idx w qt .i64 m hml
            have HE : Hid (p' ++ esc0 (qt.take (m + 1)) = (p' ++ esc0 (qt.take m)) ++ esc1 (qt.getD m 0)) := Lib.hid (by rw [take_snoc qt m hml, esc0_append, ← List.append_assoc]; simp [esc0])
            generalize p' ++ esc0 (qt.take m) = p2 at *
            generalize qt.getD m 0 = z at *
            by_cases hz0' : z.toNat = 0
            · have hzz : z = 0 := UInt8.toNat_inj.1 hz0'
              have hq : ((z.toNat : Int) == 0) = true := by rw [beq_iff_eq]; omega
              rw [hzz, esc1, if_pos rfl] at HE
              have HZ := Lib.hid hzz
              clear hz0' hzz
              go_wp2_with (first
                | (at_builtin; refine wpList_append_byK rfl _ _ rfl w.heap.size _ p2 rfl HOm.out [z] _ rfl 1 rfl rfl (by simp; omega) hzm ?_; intro v8 w8 hown8 hbel8 hkb8; have HK8 := Lib.hid (hkb8 _ _ _ (by decide) HAm.out); have k8 : w8.cell? ⟨wo.heap.size, 2, none⟩ = some (.string (mk qt)) := HK8.out.cell 2; obtain ⟨A8, c8, hv8⟩ := own_form hown8; rw [List.length_append, List.length_singleton] at hv8; subst hv8; have hz8 : w.heap.size ≤ w8.heap.size := Nat.le_trans hzm hbel8.size)
                | (at_builtin; refine wpList_append_byK rfl _ _ rfl w.heap.size _ (p2 ++ [z]) rfl hown8 [255] _ rfl 1 rfl rfl (by simp; omega) hz8 ?_; intro v10 w10 hown10 hbel10 hkb10))
              have HO8 : Hid (Own w10 w.heap.size v10 (p' ++ esc0 (qt.take (m + 1)))) := Lib.hid (by rw [HE.out]; have := hown10; rw [HZ.out, List.append_assoc] at this; exact this)
              have HB8 : Hid (Below w.heap.size w w10) := Lib.hid ((HBm.out.trans hbel8).trans hbel10)
              have HA8 := Lib.hid (hkb10 _ _ _ (by decide) HK8.out)
              clear hown8 hbel8 hkb8 hown10 hbel10 hkb10
              go_wp2
              go_roundw
              case rel => exact ⟨m + 1, by omega, by go_num, HO8.out, HB8.out, HA8.out⟩
              case measure => simp [intOf]; omega
            · have hzz : z ≠ 0 := fun h => hz0' (by rw [h]; rfl)
              have hq : ((z.toNat : Int) == 0) = false := by rw [beq_eq_false_iff_ne]; omega
              rw [esc1, if_neg hzz] at HE
              clear hz0' hzz
              go_wp2_with (at_builtin; refine wpList_append_byK rfl _ _ rfl w.heap.size _ p2 rfl HOm.out [z] _ rfl 1 rfl rfl (by simp; omega) hzm ?_; intro v8 w8 hown8 hbel8 hkb8; have HK8 := Lib.hid (hkb8 _ _ _ (by decide) HAm.out); have k8 : w8.cell? ⟨wo.heap.size, 2, none⟩ = some (.string (mk qt)) := HK8.out.cell 2)
              have HO8 : Hid (Own w8 w.heap.size v8 (p' ++ esc0 (qt.take (m + 1)))) := Lib.hid (by rw [HE.out]; exact hown8)
              have HB8 : Hid (Below w.heap.size w w8) := Lib.hid (HBm.out.trans hbel8)
              clear hown8 hbel8 hkb8
              go_wp2
              go_roundw
              case rel => exact ⟨m + 1, by omega, by go_num, HO8.out, HB8.out, HK8.out⟩
              case measure => simp [intOf]; omega
          · obtain rfl : m = qt.length := by omega
            have HX : Hid ((p' ++ esc0 (qt.take qt.length)) ++ [0, 0] = key (l.take (k + 1))) := Lib.hid (by rw [HN.out, List.take_length, ← HP.out]; simp)
            generalize p' ++ esc0 (qt.take qt.length) = p2 at *
            go_wp2_with (at_builtin; refine wpList_append_byK rfl _ _ rfl w.heap.size _ p2 rfl HOm.out [0, 0] _ rfl 2 rfl rfl (by simp; omega) hzm ?_; intro v8 w8 hown8 hbel8 hkb8)
            have HO8 : Hid (Own w8 w.heap.size v8 (key (l.take (k + 1)))) := Lib.hid (by rw [← HX.out]; exact hown8)
            have HB8 : Hid (Below w.heap.size w w8) := Lib.hid (HBm.out.trans hbel8)
            clear hown8 hbel8 hkb8
            go_wp2
            go_roundw
            case rel => exact ⟨k + 1, by omega, by go_num, HO8.out, HB8.out⟩
            case measure => simp [intOf]; omega
    · obtain rfl : k = l.length := by omega
      rw [List.take_length] at HO ⊢
      have hcv := conv_own HO.out
      generalize (key l).length = kn at *
      go_wp2
      go_ret
      exact ⟨rfl, HB.out⟩
end Go.Proofs.YtmbbfdiojcfamaaDoor.Txt
