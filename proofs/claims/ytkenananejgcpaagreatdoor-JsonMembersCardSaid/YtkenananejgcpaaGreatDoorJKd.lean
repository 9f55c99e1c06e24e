/-
  The statement JsonMembers in mathematics: members of names and their numbers.
  Members of names in memory.
  Int of any number's value, and of what is none.
-/
import Derived.Test.YtkenananejgcpaaGreatDoorJKc
import Derived.Test.YtkenananejgcpaaGreatDoorJNMath2
import Derived.Lib.ItoaLen
import Derived.Test.YtkenananejgcpaaGreatDoorJNm1
namespace Go.Proofs.YtkenananejgcpaaGreatDoor.Jsn
open Go.RowKit Txt
/-- A number's value. -/
def nv (i : Nat) : V := .mk 3 false (Lib.itoa (i : Int)) [] []
/-- The members of the names, numbered from o on. -/
def memsOf : List (List UInt8) → Nat → List M
  | [], _ => []
  | n :: ns, o => .mk n (nv o) :: memsOf ns (o + 1)
theorem memsOf_length : ∀ (ns : List (List UInt8)) (o : Nat), (memsOf ns o).length = ns.length
  | [], _ => rfl
  | n :: ns, o => by simp [memsOf, memsOf_length ns (o + 1)]
theorem memsOf_get : ∀ (ns : List (List UInt8)) (o i : Nat), (memsOf ns o)[i]? = (ns[i]?).map fun n => M.mk n (nv (o + i))
  | [], _, _ => by simp [memsOf]
  | n :: ns, o, 0 => by simp [memsOf]
  | n :: ns, o, i + 1 => by
    simp only [memsOf, List.getElem?_cons_succ, memsOf_get ns (o + 1) i]
    rw [show o + 1 + i = o + (i + 1) by omega]
theorem memsOf_snoc : ∀ (ns : List (List UInt8)) (n : List UInt8) (o : Nat), memsOf (ns ++ [n]) o = memsOf ns o ++ [.mk n (nv (o + ns.length))]
  | [], n, o => rfl
  | m :: ns, n, o => by
    simp only [List.cons_append, memsOf, memsOf_snoc ns n (o + 1), List.length_cons]
    rw [show o + 1 + ns.length = o + (ns.length + 1) by omega]
theorem memsOf_names : ∀ (ns : List (List UInt8)) (o : Nat), (memsOf ns o).map M.name = ns
  | [], _ => rfl
  | n :: ns, o => by simp [memsOf, M.name, memsOf_names ns (o + 1)]
theorem findAt_snoc (nm : List UInt8) (x : M) : ∀ (m : List M) (i : Nat), findAt nm (m ++ [x]) i = if findAt nm m i = -1 then (if x.name = nm then ((i + m.length : Nat) : Int) else -1) else findAt nm m i
  | [], i => by simp [findAt]
  | y :: m, i => by
    have e1 : findAt nm (y :: m ++ [x]) i = if y.name = nm then (i : Int) else findAt nm (m ++ [x]) (i + 1) := rfl
    have e2 : findAt nm (y :: m) i = if y.name = nm then (i : Int) else findAt nm m (i + 1) := rfl
    rw [e1, findAt_snoc nm x m (i + 1), List.length_cons, show i + 1 + m.length = i + (m.length + 1) by omega]
    generalize findAt nm (y :: m) i = z at *
    subst e2
    by_cases h : y.name = nm
    · simp only [if_pos h]
      rw [if_neg (by omega)]
    · simp only [if_neg h]
theorem namesOk_snoc (x : M) : ∀ (m : List M) (seen : List (List UInt8)), namesOk seen (m ++ [x]) = (namesOk seen m && (decide (wrong x.name 0 < 0) && (seen ++ m.map M.name).all fun n => !(n == x.name)))
  | [], seen => by
    simp only [List.nil_append, namesOk, List.map_nil, List.append_nil, Bool.and_true, Bool.true_and]
    have : (!(seen.contains x.name)) = seen.all fun n => !(n == x.name) := by
      rw [Bool.eq_iff_iff]
      simp [List.all_eq_true]
      constructor
      · intro h n hn e; exact h (e ▸ hn)
      · intro h hc; exact h _ hc rfl
    rw [this, Bool.and_comm]
  | y :: m, seen => by
    simp only [List.cons_append, namesOk, namesOk_snoc x m (seen ++ [y.name]), List.map_cons, List.append_assoc, List.nil_append, Bool.and_assoc]
theorem nv_right (i : Nat) : (nv i).right = true := by
  rw [V.right_eq]
  simp [nv, rightSelf, foreign, V.kind, V.yes, V.text, V.list, V.mem, V.kids, itoa_num]
theorem nv_size (i : Nat) : (nv i).size = 1 := by simp [nv, V.size, sizeL, sizeM]
theorem memsOf_size : ∀ (ns : List (List UInt8)) (o : Nat), sizeM (memsOf ns o) = ns.length
  | [], _ => rfl
  | n :: ns, o => by simp only [memsOf, sizeM, nv_size, memsOf_size ns (o + 1), List.length_cons]; omega
/-- The object of the names. -/
def objOf (ns : List (List UInt8)) : V := .mk 6 false [] [] (memsOf ns 0)
theorem objOf_size (ns : List (List UInt8)) : (objOf ns).size = 1 + ns.length := by simp [objOf, V.size, sizeL, memsOf_size]
theorem objOf_right (ns : List (List UInt8)) : (objOf ns).right = namesOk [] (memsOf ns 0) := by
  have hk : ((objOf ns).kids false).all V.right = true := by
    unfold V.kids objOf
    simp only [V.kind, V.list, V.mem]
    simp only [Bool.false_or]
    rw [List.all_eq_true]
    intro x hx
    simp at hx
    obtain ⟨m, hm, rfl⟩ := hx
    obtain ⟨i, hi⟩ := List.mem_iff_getElem?.1 hm
    rw [memsOf_get] at hi
    cases hn : ns[i]? with
    | none => rw [hn] at hi; cases hi
    | some n => rw [hn] at hi; simp at hi; rw [← hi]; exact nv_right _
  rw [V.right_eq, hk, Bool.and_true]
  simp [rightSelf, foreign, objOf, V.kind, V.yes, V.text, V.list, V.mem]
theorem objOf_loose (ns : List (List UInt8)) (hn : ∀ n ∈ ns, n.length ≤ 140737488351232) (hlen : ns.length ≤ 1000) : (objOf ns).loose := by
  rw [V.loose_eq]
  refine ⟨by simp [objOf, V.text], fun x hx => ?_, fun x hx => ?_⟩
  · have : x.name ∈ (memsOf ns 0).map M.name := List.mem_map.2 ⟨x, hx, rfl⟩
    rw [memsOf_names] at this
    exact hn _ this
  · unfold V.kids objOf at hx
    simp [V.kind, V.list, V.mem] at hx
    obtain ⟨m, hm, rfl⟩ := hx
    obtain ⟨i, hi⟩ := List.mem_iff_getElem?.1 hm
    rw [memsOf_get] at hi
    cases hq : ns[i]? with
    | none => rw [hq] at hi; cases hi
    | some n =>
      have hil : i < ns.length := (List.getElem?_eq_some_iff.1 hq).1
      rw [hq] at hi
      simp at hi
      rw [← hi]
      simp only [M.val]
      rw [V.loose_eq]
      have := Lib.itoa_length_le (i : Int) (by omega) (by omega)
      exact ⟨by simp [nv, V.text]; omega, by simp [nv, V.mem], by simp [nv, V.kids, V.kind, V.list, V.mem]⟩
/-- What Get tells of it. -/
theorem objOf_got (ns : List (List UInt8)) (nm : List UInt8) : ((objOf ns).got nm = none ∧ findAt nm (memsOf ns 0) 0 = -1) ∨ ∃ j : Nat, j < ns.length ∧ (objOf ns).got nm = some (nv j) ∧ findAt nm (memsOf ns 0) 0 = (j : Int) := by
  have hg : (objOf ns).got nm = ((memsOf ns 0).find? fun x => decide (x.name = nm)).map M.val := by unfold V.got objOf; simp [V.kind, V.mem]
  rcases findAt_spec nm (memsOf ns 0) 0 with ⟨h1, h2⟩ | ⟨j, x, h1, h2, h3, h4⟩
  · exact .inl ⟨by rw [hg, h1]; rfl, h2⟩
  · rw [memsOf_get] at h2
    cases hq : ns[j]? with
    | none => rw [hq] at h2; cases h2
    | some n =>
      rw [hq] at h2
      simp at h2
      refine .inr ⟨j, (List.getElem?_eq_some_iff.1 hq).1, by rw [hg, h3, ← h2]; rfl, by rw [h1, Nat.zero_add]⟩
end Go.Proofs.YtkenananejgcpaaGreatDoor.Jsn
namespace Go.Proofs.YtkenananejgcpaaGreatDoor.Jsn
open Go.RowKit Txt
/-- A member's cells. -/
abbrev row6 (n : List UInt8) (i : Nat) : List Value := [.string (mk n), .int .i64 3, .bool false, .string (mk (Lib.itoa (i : Int))), .slice none 0 0, .slice none 0 0]
def rowsOf : List (List UInt8) → Nat → List Value
  | [], _ => []
  | n :: ns, o => row6 n o ++ rowsOf ns (o + 1)
theorem rowsOf_snoc : ∀ (ns : List (List UInt8)) (n : List UInt8) (o : Nat), rowsOf (ns ++ [n]) o = rowsOf ns o ++ row6 n (o + ns.length)
  | [], n, o => by simp [rowsOf]
  | m :: ns, n, o => by
    rw [List.cons_append]
    show row6 m o ++ rowsOf (ns ++ [n]) (o + 1) = (row6 m o ++ rowsOf ns (o + 1)) ++ row6 n (o + (m :: ns).length)
    rw [rowsOf_snoc ns n (o + 1), List.append_assoc, List.length_cons, show o + 1 + ns.length = o + (ns.length + 1) by omega]
theorem rowsOf_get : ∀ (ns : List (List UInt8)) (o i j : Nat) (n : List UInt8), ns[i]? = some n → j < 6 → (rowsOf ns o)[i * 6 + j]? = (row6 n (o + i))[j]?
  | [], _, _, _, _, h, _ => by simp at h
  | m :: ns, o, 0, j, n, h, hj => by
    simp at h
    subst h
    rw [Nat.zero_mul, Nat.zero_add, Nat.add_zero]
    show (row6 m o ++ rowsOf ns (o + 1))[j]? = _
    rw [List.getElem?_append_left (by simpa using hj)]
  | m :: ns, o, i + 1, j, n, h, hj => by
    show (row6 m o ++ rowsOf ns (o + 1))[(i + 1) * 6 + j]? = _
    rw [List.getElem?_append_right (by simp; omega)]
    rw [show (i + 1) * 6 + j - (row6 m o).length = i * 6 + j by simp; omega, rowsOf_get ns (o + 1) i j n (by simpa using h) hj, show o + 1 + i = o + (i + 1) by omega]
theorem own_mems {w : World} {base : Nat} {v : Value} {ns : List (List UInt8)} (h : w.ownsRow base MT 6 v ns.length (rowsOf ns 0)) : ∃ B c, v = .slice B (ns.length : Nat) c ∧ Mems w B (memsOf ns 0) := by
  obtain ⟨hlen, ⟨rfl, h0⟩ | ⟨g, cap, cur, rfl, _, hg, _, _, hsz, htk⟩⟩ := h
  · have : ns = [] := List.length_eq_zero_iff.1 h0
    subst this
    exact ⟨none, 0, rfl, fun h => absurd h (by simp [memsOf]), fun i x h => by simp [memsOf] at h, fun i x h => by simp [memsOf] at h⟩
  · refine ⟨some ⟨g, 0, none⟩, cap, rfl, fun _ => rfl, ?_, ?_⟩
    all_goals
      intro i x hx
      rw [memsOf_get] at hx
      cases hn : ns[i]? with
      | none => rw [hn] at hx; cases hx
      | some n => ?_
    all_goals
      rw [hn] at hx
      simp only [Option.map_some, Option.some.injEq, Nat.zero_add] at hx
      subst hx
      have hil : i < ns.length := (List.getElem?_eq_some_iff.1 hn).1
      have hc : ∀ j, j < 6 → w.cell? ⟨g, i * 6 + j, none⟩ = (row6 n i)[j]? := fun j hj => by
        have h1 := rowsOf_get ns 0 i j n hn hj
        rw [Nat.zero_add] at h1
        rw [← h1, ← htk, List.getElem?_take_of_lt (by omega), (show Blk w g MT cur from hg).cell]
        simp
    · have := hc 0 (by omega)
      simp only [Option.getD_some, add0, M.name]
      simp
    · have c0 := hc 1 (by omega)
      have c1 := hc 2 (by omega)
      have c2 := hc 3 (by omega)
      have c3 := hc 4 (by omega)
      have c4 := hc 5 (by omega)
      simp only [Option.getD_some, add0, M.val]
      refine .mk _ 3 false (Lib.itoa (i : Int)) [] [] none 0 none 0 ?_ ?_ ?_ ?_ ?_ (fun h => absurd h (by simp)) (fun h => absurd h (by simp)) (fun i x h => by simp at h) (fun i x h => by simp at h) (fun i x h => by simp at h)
      · simp
      · simp [Addr.add_mid]
      · simp [Addr.add_mid]
      · simp [Addr.add_mid]
      · simp [Addr.add_mid]
end Go.Proofs.YtkenananejgcpaaGreatDoor.Jsn
namespace Go.Proofs.YtkenananejgcpaaGreatDoor.Jsn
open Go.RowKit Txt
/-- A number's value, with any slices that are empty. -/
abbrev numW (l : List UInt8) (A : Option Addr) (ca : Nat) (B : Option Addr) (cb : Nat) : Value := .agg #[.int .i64 3, .bool false, .string (mk l), .slice A 0 ca, .slice B 0 cb]
set_option maxRecDepth 100000
set_option maxHeartbeats 2000000 in
theorem int_of (l : List UInt8) (A : Option Addr) (ca : Nat) (B : Option Addr) (cb : Nat) (hl : l.length ≤ 1000000) (w : World) (he : Env w) :
    Calls Tryz.prog 8 #[numW l A ca B cb] w fun e w' => e = .returned (intR l) ∧ Below w.heap.size w w' := by
  have HE := Lib.hid he
  clear he
  have hms := mk_size
  have hmt := mk_toList
  cases hn : isNum l with
  | false =>
    have HR : Hid (intR l = .tuple #[.int .i64 0, .bool false]) := Lib.hid (by unfold intR jInt; rw [hn]; rfl)
    have HC := Lib.hid (fun w => isNumber_any l w (by omega))
    rw [hn] at HC
    clear hn
    go_enter Tryz.func8, Tryz.ntmps8
    go_wp2_with fail
    refine (HC.out _).mono ?_
    rintro e w1 ⟨rfl, hb1⟩
    have HB := Lib.hid (((Below.refl w.heap.size w).alloc (Nat.le_refl _) _).trans (hb1.mono (by simp)))
    clear hb1
    go_wp2
    go_ret2
    exact ⟨by rw [HR.out]; rfl, HB.out⟩
  | true =>
    have HC := Lib.hid (fun w => isNumber_any l w (by omega))
    rw [hn] at HC
    have HN := Lib.hid hn
    clear hn
    go_enter Tryz.func8, Tryz.ntmps8
    go_wp2_with fail
    generalize hw : w.alloc _ = w0
    have hb0 : Below w.heap.size w w0 := by rw [← hw]; exact (Below.refl _ _).alloc (Nat.le_refl _) _
    have hk : Blk w0 w.heap.size 27 #[.int .i64 3, .bool false, .string (mk l), .slice A 0 ca, .slice B 0 cb] := by rw [← hw]; exact Blk.new w _ _
    clear hw
    refine (HC.out _).mono ?_
    rintro e w1 ⟨rfl, hb1⟩
    have hk1 := hk.below hb1 hk.lt
    have c2 : w1.cell? ⟨w.heap.size, 2, none⟩ = some (.string (mk l)) := hk1.cell 2
    have HB := Lib.hid (hb0.trans (hb1.mono hb0.size))
    clear hb0 hb1 hk hk1
    go_wp2_with fail
    refine (parseInt_any l hl w1 (HE.out.below HB.out HE.out.size)).mono ?_
    rintro e w2 ⟨hcase, hb2⟩
    have HB2 := Lib.hid (HB.out.trans (hb2.mono HB.out.size))
    clear hb2 c2 HB
    rcases hcase with ⟨v, hp, rfl⟩ | ⟨hp, v, t, N, rfl⟩
    · by_cases hv : -9007199254740992 ≤ v ∧ v ≤ 9007199254740992
      · have HR : Hid (intR l = .tuple #[.int .i64 v, .bool true]) := Lib.hid (by unfold intR jInt; rw [HN.out, hp]; simp [hv])
        obtain ⟨h3, h4⟩ := hv
        have h3' : ¬ v < -9007199254740992 := by omega
        have h4' : ¬ (9007199254740992 : Int) < v := by omega
        clear hp
        go_wp2
        go_ret2
        exact ⟨by rw [HR.out]; rfl, HB2.out⟩
      · have HR : Hid (intR l = .tuple #[.int .i64 0, .bool false]) := Lib.hid (by unfold intR jInt; rw [HN.out, hp]; simp [hv])
        have hx : v < -9007199254740992 ∨ (¬ v < -9007199254740992 ∧ (9007199254740992 : Int) < v) := by omega
        clear hp hv
        rcases hx with h3 | ⟨h3, h4⟩
        all_goals
          go_wp2
          go_ret2
          exact ⟨by rw [HR.out]; rfl, HB2.out⟩
    · have HR : Hid (intR l = .tuple #[.int .i64 0, .bool false]) := Lib.hid (by
        unfold intR jInt
        rw [HN.out]
        cases hx : Lib.parseIntB 64 l with
        | ok n => exact absurd hx (hp n)
        | _ => rfl)
      clear hp
      go_wp2
      go_ret2
      exact ⟨by rw [HR.out]; rfl, HB2.out⟩
set_option maxHeartbeats 2000000 in
theorem int_none (A : Option Addr) (ca : Nat) (B : Option Addr) (cb : Nat) (w : World) :
    Calls Tryz.prog 8 #[.agg #[.int .i64 0, .bool false, .string (mk []), .slice A 0 ca, .slice B 0 cb]] w fun e w' => e = .returned (.tuple #[.int .i64 0, .bool false]) ∧ Below w.heap.size w w' := by
  have HB := Lib.hid ((Below.refl w.heap.size w).alloc (Nat.le_refl _) (.cells #[.int .i64 0, .bool false, .string (mk []), .slice A 0 ca, .slice B 0 cb] 27))
  go_enter Tryz.func8, Tryz.ntmps8
  go_wp2
  go_ret2
  exact ⟨rfl, HB.out⟩
/-- The object's own part of what Int tells. -/
theorem int_num (j : Nat) (hj : j ≤ 1000) (val : Value) (w : World) (he : Env w) {Pd : Nat → Prop} (hv : HoldsP Pd w val (nv j)) :
    Calls Tryz.prog 8 #[val] w fun e w' => e = .returned (.tuple #[.int .i64 (j : Int), .bool true]) ∧ Below w.heap.size w w' := by
  obtain ⟨A, ca, B, cb, rfl, -⟩ := hv
  have h := int_of (Lib.itoa (j : Int)) A ca B cb (by have := Lib.itoa_length_le (j : Int) (by omega) (by omega); omega) w he
  unfold intR at h
  rw [jInt_itoa (j : Int) (by omega) (by omega), if_pos ⟨by omega, by omega⟩] at h
  exact h
theorem int_zero (val : Value) (w : World) {Pd : Nat → Prop} (hv : HoldsP Pd w val V.zero) :
    Calls Tryz.prog 8 #[val] w fun e w' => e = .returned (.tuple #[.int .i64 0, .bool false]) ∧ Below w.heap.size w w' := by
  obtain ⟨A, ca, B, cb, rfl, -⟩ := hv
  exact int_none A ca B cb w
end Go.Proofs.YtkenananejgcpaaGreatDoor.Jsn
