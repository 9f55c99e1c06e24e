/-
  What Standard and FromStandard do: letters of the common alphabet, padded; the bytes for which Standard answers a text, or none.
-/
import Derived.Test.YtcpifencjmlhaaaDoorQ3
import Derived.Test.YtcpifencjmlhaaaDoorQ9
import Derived.Test.YtcpifencjmlhaaaDoorQShelf2
namespace Go.Proofs.YtcpifencjmlhaaaDoor.B64
open Go.RowKit
/-! Without what stands behind. -/
def rtrim (l : List Nat) : List Nat := (l.reverse.dropWhile (· == 61)).reverse
theorem drop_map (l : List Nat) (h : Bs l) : (l.map UInt8.ofNat).dropWhile (· == 61) = (l.dropWhile (· == 61)).map UInt8.ofNat := by
  induction l with
  | nil => rfl
  | cons x l ih =>
    have hx := h.head
    rw [List.map_cons, List.dropWhile_cons, List.dropWhile_cons]
    by_cases e : x = 61
    · subst e
      rw [if_pos (by decide), if_pos (by decide), ih h.tail]
    · have h1 : (UInt8.ofNat x == (61 : UInt8)) = false := beq_false_of_ne fun hh => e (ofNat_inj hx (by decide) hh)
      have h2 : (x == 61) = false := beq_false_of_ne e
      rw [h1, h2]
      rfl
theorem Bs.reverse {l : List Nat} (h : Bs l) : Bs l.reverse := fun x hx => h x (List.mem_reverse.1 hx)
theorem trim_str (cs : List Nat) (h : Bs cs) : (⟨(Lib.trimRightB (str cs).data.toList 61).toArray⟩ : ByteArray) = str (rtrim cs) := by
  unfold Lib.trimRightB
  rw [str_list, ← List.map_reverse, drop_map _ h.reverse, ← List.map_reverse]
  rfl
theorem drop_all (l : List Nat) : (l.takeWhile (· == 61)) = List.replicate (l.takeWhile (· == 61)).length 61 := by
  rw [List.eq_replicate_iff]
  refine ⟨rfl, fun x hx => ?_⟩
  induction l with
  | nil => cases hx
  | cons y l ih =>
    rw [List.takeWhile_cons] at hx
    split at hx
    · rename_i hy
      rcases List.mem_cons.1 hx with rfl | hx
      · simpa using hy
      · exact ih hx
    · cases hx
theorem rtrim_back (l : List Nat) : l = rtrim l ++ List.replicate (l.length - (rtrim l).length) 61 := by
  have h1 := List.takeWhile_append_dropWhile (p := (· == 61)) (l := l.reverse)
  have h2 : l = rtrim l ++ (l.reverse.takeWhile (· == 61)).reverse := by
    unfold rtrim
    rw [← List.reverse_append, h1, List.reverse_reverse]
  have h3 : (l.reverse.takeWhile (· == 61)).reverse = List.replicate (l.reverse.takeWhile (· == 61)).length 61 := by
    rw [drop_all l.reverse, List.reverse_replicate, List.length_replicate]
  rw [h3] at h2
  have h4 := congrArg List.length h2
  rw [List.length_append, List.length_replicate] at h4
  rw [show l.length - (rtrim l).length = (l.reverse.takeWhile (· == 61)).length by omega]
  exact h2
theorem rtrim_len (l : List Nat) : (rtrim l).length ≤ l.length := by
  have := congrArg List.length (rtrim_back l)
  rw [List.length_append] at this
  omega
theorem drop_none (l : List Nat) (h : 61 ∉ l) : l.dropWhile (· == 61) = l := by
  cases l with
  | nil => rfl
  | cons x l =>
    have : (x == 61) = false := beq_false_of_ne fun e => h (by rw [e]; exact List.mem_cons_self)
    rw [List.dropWhile_cons, this]
    rfl
theorem rtrim_pad (x : List Nat) (p : Nat) (h : 61 ∉ x) : rtrim (x ++ List.replicate p 61) = x := by
  unfold rtrim
  rw [List.reverse_append, List.reverse_replicate]
  have : ∀ p, (List.replicate p 61 ++ x.reverse).dropWhile (· == 61) = x.reverse.dropWhile (· == 61) := fun p => by
    induction p with
    | zero => rfl
    | succ p ih =>
      rw [List.replicate_succ, List.cons_append, List.dropWhile_cons, if_pos (by decide), ih]
  rw [this, drop_none _ (fun hh => h (List.mem_reverse.1 hh)), List.reverse_reverse]
theorem rtrim_none (x : List Nat) (h : 61 ∉ x) : rtrim x = x := by
  have := rtrim_pad x 0 h
  rwa [List.replicate_zero, List.append_nil] at this
theorem Bs.rtrim {l : List Nat} (h : Bs l) : Bs (rtrim l) := fun x hx => h x (by rw [rtrim_back l]; exact List.mem_append_left _ hx)
/-- The bytes for which Standard answers this, if there are any. -/
def fromS (cs : List Nat) : Option (List Nat) := if cs.length - (rtrim cs).length = pad (rtrim cs).length then decO std (rtrim cs) else none
theorem std_no (v : Nat) : std.getD v 0 ≠ 61 := by
  by_cases h : v < 64
  · exact (by decide +kernel : ∀ v, v < 64 → std.getD v 0 ≠ 61) v h
  · rw [List.getD_eq_getElem?_getD, List.getElem?_eq_none (by simpa [std] using h)]
    decide
theorem lets_no (l : List Nat) : 61 ∉ lets std l := fun h => by
  simp only [lets, List.mem_map] at h
  obtain ⟨v, _, e⟩ := h
  exact std_no v e
theorem fromS_std (bs : List Nat) (h : Bs bs) : fromS (stdL bs) = some bs := by
  have h1 : rtrim (stdL bs) = lets std (enc bs) := rtrim_pad _ _ (lets_no _)
  unfold fromS
  rw [h1, stdL_length, lets_length, enc_length, if_pos (by omega)]
  exact decO_enc std_alpha bs h
theorem std_fromS {cs d : List Nat} (h : Bs cs) (hd : fromS cs = some d) : stdL d = cs ∧ Bs d := by
  unfold fromS at hd
  split at hd
  · rename_i hp
    obtain ⟨h1, h2⟩ := enc_decO std_alpha h.rtrim hd
    refine ⟨?_, h2⟩
    have h3 : len d.length = (rtrim cs).length := by rw [← h1, lets_length, enc_length]
    unfold stdL
    rw [h1, h3, ← hp]
    exact (rtrim_back cs).symm
  · cases hd
theorem dec_some : ∀ l, l.length % 4 = 0 → ∃ d, dec l = some d := by
  refine four (fun _ => ⟨[], rfl⟩) (fun a h => ?_) (fun a b h => ?_) (fun a b c h => ?_) (fun a b c d r ih h => ?_)
  · simp at h
  · simp at h
  · simp at h
  · obtain ⟨x, hx⟩ := ih (by simp only [List.length_cons] at h; omega)
    rw [show dec (a :: b :: c :: d :: r) = (dec r).map fun e => (a * 4 + b / 16) :: (b % 16 * 16 + c / 4) :: (c % 4 * 64 + d) :: e from rfl, hx]
    exact ⟨_, rfl⟩
theorem fromS_plain {cs : List Nat} (h4 : cs.length % 4 = 0) (ha : AllIn std cs) : fromS cs ≠ none := by
  have h61 : 61 ∉ cs := fun h => by
    have := ha 61 h
    exact absurd this (by decide +kernel)
  unfold fromS
  rw [rtrim_none cs h61, if_pos (by unfold pad; omega)]
  unfold decO
  rw [if_pos ha]
  obtain ⟨d, hd⟩ := dec_some (nums std cs) (by rw [nums_length]; exact h4)
  rw [hd]
  intro e
  cases e
theorem fromS_len {cs d : List Nat} (h : fromS cs = some d) : d.length ≤ cs.length := by
  unfold fromS at h
  split at h
  · exact Nat.le_trans (decO_len h) (rtrim_len cs)
  · cases h
theorem str_append (l m : List Nat) : str (l ++ m) = str l ++ str m := by
  apply ByteArray.ext
  simp [str]
theorem repeat_str (c : Nat) : (⟨(Lib.repeatL (⟨#[61]⟩ : ByteArray).data.toList c).toArray⟩ : ByteArray) = str (List.replicate c 61) := by
  have : ∀ c, Lib.repeatL [61] c = (List.replicate c 61).map UInt8.ofNat := fun c => by
    induction c with
    | zero => rfl
    | succ c ih =>
      show [61] ++ Lib.repeatL [61] c = _
      rw [ih, List.replicate_succ]
      rfl
  show (⟨(Lib.repeatL [61] c).toArray⟩ : ByteArray) = _
  rw [this]
  rfl
set_option maxHeartbeats 400000 in
theorem paddingSize_any (n : Nat) (w : World) (hn : n ≤ 4611686018427387904) :
    Calls Tryd.prog 12 #[.int .i64 n] w fun e w' => e = .returned (.int .i64 (pad n : Nat)) ∧ w = w' := by
  have h4 : (n : Int) % 4 ≤ 4 := by omega
  go_enter Tryd.func12, Tryd.ntmps12
  go_wp2
  go_ret
  exact ⟨ret_num (by unfold pad; omega), rfl⟩
set_option maxRecDepth 100000
set_option maxHeartbeats 1000000 in
theorem Standard_any (w : World) (A : Option Addr) (c : Nat) (bs : List Nat) (hR : RdB w w.heap.size A bs) (hb : Bs bs) (hm : bs.length ≤ 100000) :
    Calls Tryd.prog 6 #[.slice A bs.length c] w fun e w' => e = .returned (.string (str (stdL bs))) ∧ Below w.heap.size w w' := by
  have HC := Lib.hid (encode_any w A c bs std hR hb std_alpha.1 std_alpha.2.1 (by omega))
  rw [std_str] at HC
  clear hR hb
  have hsz : (str (lets std (enc bs))).size = len bs.length := by rw [str_size, lets_length, enc_length]
  have hll : len bs.length ≤ 200000 := by unfold len; omega
  have hpl : pad (len bs.length) ≤ 3 := by unfold pad; omega
  have HP : Hid (∀ w, Calls Tryd.prog 11 #[.string ⟨#[61]⟩, .int .i64 (pad (len bs.length) : Nat)] w fun e w' => e = .returned (.string (str (List.replicate (pad (len bs.length)) 61))) ∧ Below w.heap.size w w') := Lib.hid fun w => by
    have h := repeat_any ⟨#[61]⟩ (pad (len bs.length)) w (by omega) (by show 1 * _ ≤ _; omega)
    rw [repeat_str] at h
    exact h
  have hs2 : (str (List.replicate (pad (len bs.length)) 61)).size = pad (len bs.length) := by rw [str_size, List.length_replicate]
  have HF : Hid (str (stdL bs) = str (lets std (enc bs)) ++ str (List.replicate (pad (len bs.length)) 61)) := Lib.hid (by unfold stdL; rw [str_append])
  generalize str (lets std (enc bs)) = s1 at *
  generalize str (List.replicate (pad (len bs.length)) 61) = s2 at *
  generalize len bs.length = n at *
  go_enter Tryd.func6, Tryd.ntmps6
  go_wp2_with fail
  refine HC.out.mono ?_
  rintro e w1 ⟨rfl, hb1⟩
  clear HC
  have HB := Lib.hid hb1
  have hz1 := hb1.size
  clear hb1
  go_wp2_with fail
  refine (paddingSize_any n _ (by omega)).mono ?_
  rintro e w2 ⟨rfl, rfl⟩
  generalize pad n = p at *
  go_wp2_with fail
  refine (HP.out w1).mono ?_
  rintro e w2 ⟨rfl, hb2⟩
  have HB2 := Lib.hid (HB.out.trans (hb2.mono hz1))
  have hsum : ¬ 9223372036854775807 < s1.size + s2.size := by omega
  clear hb2 HB HP hsz hs2
  go_wp2
  go_ret
  exact ⟨by rw [HF.out]; rfl, HB2.out⟩
set_option maxHeartbeats 1000000 in
theorem FromStandard_any (w : World) (cs : List Nat) (hb : Bs cs) (hm : cs.length ≤ 100000) :
    Calls Tryd.prog 7 #[.string (str cs)] w fun e w' => Told w' w.heap.size (fromS cs) e ∧ Below w.heap.size w w' := by
  have hsz := str_size cs
  have hst := str_size (rtrim cs)
  have hle := rtrim_len cs
  have HT : Hid (∀ w, Calls Tryd.prog 13 #[.string (str cs), .string ⟨#[61]⟩] w fun e w' => e = .returned (.string (str (rtrim cs))) ∧ w' = w) := Lib.hid fun w => by
    have h := trimRight_any (str cs) 61 (by decide) w (by rw [hsz]; omega)
    rw [trim_str cs hb] at h
    exact h
  have HC := Lib.hid (decode_any w (rtrim cs) std hb.rtrim std_alpha.1 std_alpha.2.1 (by omega))
  rw [std_str] at HC
  clear hb
  generalize str cs = scs at *
  generalize str (rtrim cs) = srt at *
  have hpad : pad (rtrim cs).length ≤ 3 := by unfold pad; omega
  have HF : Hid (fromS cs = if cs.length - (rtrim cs).length = pad (rtrim cs).length then decO std (rtrim cs) else none) := Lib.hid rfl
  generalize rtrim cs = rt at *
  go_enter Tryd.func7, Tryd.ntmps7
  go_wp2_with fail
  refine (HT.out w).mono ?_
  rintro e w1 ⟨rfl, rfl⟩
  go_wp2_with fail
  refine (paddingSize_any rt.length _ (by omega)).mono ?_
  rintro e w2 ⟨rfl, rfl⟩
  generalize pad rt.length = p at *
  clear HT
  by_cases hp : cs.length - rt.length = p
  · rw [if_pos hp] at HF
    have hd : ((cs.length : Int) - (rt.length : Int) != (p : Int)) = false := by rw [bne_eq_false_iff_eq]; omega
    clear hp
    go_wp2_with fail
    refine HC.out.mono ?_
    rintro e w2 ⟨he, hb2⟩
    have HB := Lib.hid hb2
    clear hb2 HC
    cases hD : decO std rt with
    | none =>
      rw [hD] at he HF
      have he : e = .returned (.tuple #[.slice none 0 0, .int .i64 10]) := he
      subst he
      clear hD
      go_wp2
      go_ret2
      rw [HF.out]
      exact ⟨rfl, HB.out⟩
    | some d =>
      rw [hD] at he HF
      obtain ⟨v, rfl, ho⟩ := he
      have HO := Lib.hid ho
      clear hD ho
      go_wp2
      go_ret2
      rw [HF.out]
      exact ⟨⟨v, rfl, HO.out⟩, HB.out⟩
  · rw [if_neg hp] at HF
    have hd : ((cs.length : Int) - (rt.length : Int) != (p : Int)) = true := by rw [bne_iff_ne]; omega
    clear hp HC
    go_wp2
    go_ret2
    rw [HF.out]
    exact ⟨rfl, Below.refl _ _⟩
end Go.Proofs.YtcpifencjmlhaaaDoor.B64
