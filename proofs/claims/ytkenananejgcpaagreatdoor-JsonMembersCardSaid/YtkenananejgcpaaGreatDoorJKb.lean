/-
  copyOf: a value in new memory.
  A region that draws its order within a round of a loop over a function: one walk of the text's order serves every order, over the worlds that keep what lay below a number.
  copyOf: what one round leaves.
  copyOf: a value in new memory (the walk).
-/
import Derived.Test.YtkenananejgcpaaGreatDoorJKa
import Derived.Test.YtkenananejgcpaaGreatDoorJPa8
import Derived.Maps.AppendAt
import Derived.Shelf.RegionOpen
namespace Go.Proofs.YtkenananejgcpaaGreatDoor.Jsn
open Go.RowKit Txt
attribute [local go_sem] Oper.semAt_some
/-- append onto nil. -/
theorem run_append_nil {w : World} (t ty e : TypeId) (i : TypeInfo) (z : Value) (size bytes : Nat) (ht : Tryz.prog.underlying t = some (.slice e)) (hi : Tryz.prog.info? e = some i) (hz : i.zero = some z)
    (hsize : i.size = size) (hby : i.bytes = bytes) (hzs : z.cells.size = size) (hsz : 0 < size) (A : Option Addr) (m c : Nat) (news : List Value) (hl : news.length = m * size) (hA : 0 < m → A.isSome = true)
    (hnews : ∀ j u, news[j]? = some u → w.cell? ((A.getD default).add j) = some u) (h1 : ∀ u ∈ news, u.oneCell' = true) (h63 : m ≤ maxLen) (hbytes : m * bytes ≤ 140737488355328) :
    ∃ v' w', (Builtin.append_ #[t, t] ty #[.slice none 0 0, .slice A m c]).run Tryz.prog w = .ok v' w' ∧ w'.ownsRow w.heap.size e size v' m news ∧ w.grownBy w' none := by
  have hnil : w.ownsRow w.heap.size e size (.slice none 0 0) 0 [] := ⟨by simp, .inl ⟨rfl, rfl⟩⟩
  cases A with
  | some ad =>
    obtain ⟨v', w', h2, h3, h4, _⟩ := run_append_own_at (P := Tryz.prog) (w := w) w.heap.size t ty e i z size bytes ht hi hz hsize hby hzs hsz (.slice none 0 0) 0 [] hnil ad m c news hl hnews h1 (by omega) (by rw [Nat.zero_add]; exact hbytes) (Nat.le_refl _)
    exact ⟨v', w', h2, by simpa using h3, h4⟩
  | none =>
    have hm : m = 0 := by
      cases m with
      | zero => rfl
      | succ m => exact absurd (hA (by omega)) (by simp)
    subst hm
    have hn : news = [] := List.length_eq_zero_iff.1 (by simpa using hl)
    subst hn
    refine ⟨.slice none 0 0, w, ?_, hnil, World.grownBy.refl _ _⟩
    simp [Builtin.append_, run_underlying ht, sizeOf, typeInfo, hi, Builtin.lenOf, Builtin.firstCells]
theorem wpListIn_append_nil {F : Fence} {n : Nat} {w : World} {ops : Array Oper} {rest : List Oper} {o : Oper} {a : Act} {Q : Exit → Act → World → Prop} (hg : o.guard = none) (s x : Operand) (t : TypeId)
    (hop : o.op = Op.call { callee := Callee.builtin Builtin.append, args := #[s, x], argTypes := #[t, t] }) (hs : a.eval s = .slice none 0 0)
    (e : TypeId) (i : TypeInfo) (z : Value) (size bytes : Nat) (ht : Tryz.prog.underlying t = some (.slice e)) (hi : Tryz.prog.info? e = some i) (hz : i.zero = some z)
    (hsize : i.size = size) (hby : i.bytes = bytes) (hzs : z.cells.size = size) (hsz : 0 < size) (A : Option Addr) (m c : Nat) (hx : a.eval x = .slice A m c) (news : List Value) (hl : news.length = m * size) (hA : 0 < m → A.isSome = true)
    (hnews : ∀ j u, news[j]? = some u → w.cell? ((A.getD default).add j) = some u) (h1 : ∀ u ∈ news, u.oneCell' = true) (h63 : m ≤ maxLen) (hbytes : m * bytes ≤ 140737488355328)
    (hK : ∀ v' w', w'.ownsRow w.heap.size e size v' m news → w.grownBy w' none → wpListIn F n Tryz.prog ops Q rest (a.put o.dst v') w') :
    wpListIn F n Tryz.prog ops Q (o :: rest) a w := by
  refine wpListIn_plain hg fun K hK' => ?_
  obtain ⟨v', w', hrun, r1, r2⟩ := run_append_nil (w := w) t o.type e i z size bytes ht hi hz hsize hby hzs hsz A m c news hl hA hnews h1 h63 hbytes
  unfold Oper.wpIn
  refine ⟨?_, ?_⟩
  · simp [Oper.about, hop, resolve, Target.leads, Sem.run_pure]
  · rw [Oper.semAt_plain F _ _ (by rw [hop]; intro c hc'; cases hc')]
    simp [execOp, hop, resolve, invoke, builtin, hs, hx, hrun, Result.andThen]
    exact hK' _ _ (hK v' w' r1 r2)
theorem grown_below0 {w w' : World} (h : w.grownBy w' none) : Below w.heap.size w w' := ⟨h.os, h.tape, h.output, h.size, fun k hk => h.block k hk (by simp)⟩
/-- A row of one's own, as a slice whose block is told. -/
theorem row_told {w : World} {base : Nat} {e : TypeId} {size m : Nat} {v : Value} {xs : List Value} (h : w.ownsRow base e size v m xs) : ∃ A c, v = .slice A (m : Nat) c ∧ (0 < m → ∃ g cs, A = some ⟨g, 0, none⟩ ∧ base ≤ g ∧ Blk w g e cs ∧ m * size ≤ cs.size ∧ ∀ j u, xs[j]? = some u → w.cell? ⟨g, j, none⟩ = some u) := by
  have hx := h
  rcases h.2 with ⟨rfl, h0⟩ | ⟨g, cap, cur, rfl, hb, hg, hc, hm, hs, ht⟩
  · exact ⟨none, 0, by rw [h0], fun h => by omega⟩
  · refine ⟨some ⟨g, 0, none⟩, cap, rfl, fun _ => ⟨g, cur, rfl, hb, hg, by rw [hs]; exact Nat.mul_le_mul_right _ hc, fun j u hu => ?_⟩⟩
    have hj : j < m * size := by rw [← hx.1]; exact (List.getElem?_eq_some_iff.1 hu).1
    rw [hx.cellAt j hj, hu]
theorem rowL_of {W0 w W : World} {lo : Nat} {A : Option Addr} {l : List V} {news : List Value} (hlo : 0 < l.length → ∃ g cs, A = some ⟨g, 0, none⟩ ∧ lo ≤ g ∧ Blk w g VT cs ∧ l.length * 5 ≤ cs.size ∧ ∀ j u, news[j]? = some u → w.cell? ⟨g, j, none⟩ = some u)
    (hat : ∀ i x, l[i]? = some x → At5 W0 news (i * 5) x) (hk : ∀ g, lo ≤ g → g < w.heap.size → W.heap[g]? = w.heap[g]?) : RowL W0 W lo A l := ⟨fun h0 => by
  obtain ⟨g, cs, e, hg, hb, hs, hc⟩ := hlo h0
  have hb' : W.heap[g]? = w.heap[g]? := hk g hg hb.lt
  exact ⟨g, cs, e, hg, hb'.trans hb, hs, fun i x hx => (hat i x hx).wait (fun j u hu => (World.cell?_of_block (a := ⟨g, j, none⟩) hb').trans (hc j u hu))⟩⟩
theorem rowM_of {W0 w W : World} {lo : Nat} {B : Option Addr} {l : List M} {news : List Value} (hlo : 0 < l.length → ∃ g cs, B = some ⟨g, 0, none⟩ ∧ lo ≤ g ∧ Blk w g MT cs ∧ l.length * 6 ≤ cs.size ∧ ∀ j u, news[j]? = some u → w.cell? ⟨g, j, none⟩ = some u)
    (hat : ∀ i x, l[i]? = some x → news[i * 6]? = some (.string (mk x.name)) ∧ At5 W0 news (i * 6 + 1) x.val) (hk : ∀ g, lo ≤ g → g < w.heap.size → W.heap[g]? = w.heap[g]?) : RowM W0 W lo B l := ⟨fun h0 => by
  obtain ⟨g, cs, e, hg, hb, hs, hc⟩ := hlo h0
  have hb' : W.heap[g]? = w.heap[g]? := hk g hg hb.lt
  exact ⟨g, cs, e, hg, hb'.trans hb, hs, fun i x hx => ⟨(World.cell?_of_block (a := ⟨g, i * 6, none⟩) hb').trans (hc _ _ (hat i x hx).1), (hat i x hx).2.wait (fun j u hu => (World.cell?_of_block (a := ⟨g, j, none⟩) hb').trans (hc j u hu))⟩⟩⟩
theorem Five.put3 {W : World} {x : Addr} {t : V} {A : Option Addr} {ca : Nat} {B : Option Addr} {cb : Nat} (h : Five W x t A ca B cb) (A' : Option Addr) (ca' : Nat) : Five (W.setCell ⟨x.block, x.off + 3, none⟩ (.slice A' (t.list.length : Nat) ca')) x t A' ca' B cb :=
  ⟨cell_set_ne h.c0 (by simp), cell_set_ne h.c1 (by simp), cell_set_ne h.c2 (by simp), World.cell?_setCell_same' _ _ _ (by rw [h.c3]; rfl), cell_set_ne h.c4 (by simp)⟩
theorem Five.put4 {W : World} {x : Addr} {t : V} {A : Option Addr} {ca : Nat} {B : Option Addr} {cb : Nat} (h : Five W x t A ca B cb) (B' : Option Addr) (cb' : Nat) : Five (W.setCell ⟨x.block, x.off + 4, none⟩ (.slice B' (t.mem.length : Nat) cb')) x t A ca B' cb' :=
  ⟨cell_set_ne h.c0 (by simp), cell_set_ne h.c1 (by simp), cell_set_ne h.c2 (by simp), cell_set_ne h.c3 (by simp), World.cell?_setCell_same' _ _ _ (by rw [h.c4]; rfl)⟩
/-- What holds between two rounds, and the result's cell. -/
structure CR (W0 : World) (T : V) (n0 r : Nat) (root : Addr) (m : Nat) (st : List It) (O : Blocks) (W : World) : Prop where
  cj : CJ W0 T n0 root m st (fun k => O k ∨ k = r) W
  res : W.heap[r]? = some (.cells #[.int .i64 0, .bool false, .string ⟨#[]⟩, .slice none 0 0, .slice none 0 0] VT (0, 0))
  no : ¬ O r
theorem CR.abide {W0 : World} {T : V} {n0 r : Nat} {root : Addr} {m : Nat} {st : List It} : Abide (CR W0 T n0 r root m st) := by
  intro O W W' row h hg hr
  have hrl : r < W.heap.size := (Array.getElem?_eq_some_iff.1 h.res).1
  have hne : some r ≠ row := fun e => h.no (hr r e.symm)
  refine ⟨?_, (hg.block r hrl hne).trans h.res, ?_⟩
  · have := CJ.abide _ _ _ _ h.cj hg (fun g e => .inl (hr g e))
    have e : (Blocks.plus (fun k => O k ∨ k = r) W W') = (fun k => O.plus W W' k ∨ k = r) := by
      funext k
      apply propext
      unfold Blocks.plus
      constructor
      · rintro ((h | h) | h)
        · exact .inl (.inl h)
        · exact .inr h
        · exact .inl (.inr h)
      · rintro ((h | h) | h)
        · exact .inl (.inl h)
        · exact .inr h
        · exact .inl (.inr h)
    rw [e] at this
    exact this
  · rintro (h' | h')
    · exact h.no h'
    · omega
end Go.Proofs.YtkenananejgcpaaGreatDoor.Jsn
namespace Go.Proofs.YtkenananejgcpaaGreatDoor.Jsn
open Go.RowKit Txt
section
variable {F : Fence} {n l : Nat} {P : Program} {md : Region.Mode} {ops : Array Oper} {Q : Exit → Act → World → Prop}
theorem wpOper_round {o : Oper} {a : Act} {w : World} {K K' : Act → World → Prop} (hd : ∀ c, o.op ≠ .defer c) (hK : ∀ a w, K a w → K' a w) (h : o.wpIn F n P a w K Q) : o.wpIn (F.inRound l) n P a w K' Q := by
  have h := Oper.wpIn_mono hK h
  unfold Oper.wpIn at h ⊢
  rw [Oper.semAt_plain _ _ _ hd] at h ⊢
  refine ⟨h.1, ?_⟩
  have h := h.2
  generalize (execOp a.eval o).run P w = r at h ⊢
  cases r with
  | ok x w' => cases x <;> exact h
  | halt x w' => cases x <;> exact h
theorem wpAny_round (hd : ∀ (i : Nat) (o : Oper), ops[i]? = some o → ∀ c, o.op ≠ .defer c) : ∀ (fuel : Nat) (listed : Array Bool) (a : Act) (w : World), wpAnyIn F n P md ops Q fuel listed a w → wpAnyIn (F.inRound l) n P md ops Q fuel listed a w
  | 0, _, _, _, h => h
  | fuel + 1, listed, a, w, h => ⟨h.1, fun i hi => by
      have h2 := h.2 i hi
      unfold wpOpIn at h2 ⊢
      split
      · rename_i ho; simp only [ho] at h2; exact wpAny_round hd fuel _ _ _ h2
      · rename_i o ho
        simp only [ho] at h2
        split
        · rename_i hw
          simp only [hw, if_true] at h2
          exact wpOper_round (hd i o ho) (fun a w h => wpAny_round hd fuel _ a w h) h2
        · rename_i hw
          simp only [hw] at h2
          exact ⟨h2.1, wpAny_round hd fuel _ _ _ h2.2⟩⟩
/-- No operation is a defer statement. -/
def noDefer (l : List Oper) : Bool := l.all fun o => match o.op with | .defer _ => false | _ => true
theorem noDefer_spec {l : List Oper} (h : noDefer l = true) (i : Nat) (o : Oper) (ho : l.toArray[i]? = some o) : ∀ c, o.op ≠ .defer c := by
  intro c hc
  have h1 := List.all_eq_true.1 h o (List.mem_of_getElem? (by simpa using ho))
  rw [hc] at h1
  cases h1
/-- The worlds that keep what lay below a number. -/
structure Wb (s : Nat) (w0 : World) where
  w : World
  h : Below s w0 w
instance {s : Nat} {w0 : World} : Nonempty (Wb s w0) := ⟨⟨w0, Below.refl _ _⟩⟩
theorem wpIn_region_round {id s : Nat} {os : List Oper} {w0 : World} {a : Act} {w : World} (hm : P.follows .mixedOrders = true) (hB : Region.lexB .any os.toArray = true) (hd : noDefer os = true) (hw : Below s w0 w)
    (h : wpQuietIn Fence.wide n P os.toArray (fun w' => ∃ u : Wb s w0, w' = u.w) (fun a' => ∀ w', (∃ u : Wb s w0, w' = u.w) → Q .normal a' w') os a) : (Code.region id os.toArray true).wpIn (Fence.wide.inRound l) n P Q a w := by
  simp only [Region.lexB, Bool.and_eq_true] at hB
  refine wpIn_region_any hm (wpAny_round (noDefer_spec hd) _ _ _ _ (wpAnyIn_of_quiet (C := fun w' => ∃ u : Wb s w0, w' = u.w) (Q := fun a' => ∀ w', (∃ u : Wb s w0, w' = u.w) → Q .normal a' w') rfl (fun _ w' hw' h => h w' hw') _ _ _ _ ⟨⟨_, hw.drew⟩, rfl⟩ ?_))
  have := wpAnyQIn_lex (F := Fence.wide) (n := n) (P := P) (C := fun w' => ∃ u : Wb s w0, w' = u.w) (Q := fun a' => ∀ w', (∃ u : Wb s w0, w' = u.w) → Q .normal a' w') (md := .any) (ops := os.toArray) hB.1 os 0 (Array.replicate os.toArray.size false) a (by simp) (by simpa using hB.2) (by simpa using h)
  simpa using this
end
end Go.Proofs.YtkenananejgcpaaGreatDoor.Jsn
namespace Go.Proofs.YtkenananejgcpaaGreatDoor.Jsn
open Go.RowKit Txt
theorem said_end {w W w1 w2 w3 w4 w5 wr : World} {v t : V} {root : Addr} {m r : Nat} {st : List It} {x : It} {O : Blocks} {ss : List (It × V)} {fin : List Nd} {A' B' : Option Addr} {ca' cb' : Nat} {n1 n2 : List Value} {Jx : Blocks → World → Prop}
    (hsz : v.size ≤ 90000) (e1 : st = ss.map Prod.fst) (e2 : m = (ss.map fun s => s.2.size).sum + t.size) (e3 : m ≤ v.size) (e4 : x.2 + t.size ≤ 1 + v.size) (e5 : t.loose) (e6 : ∀ s ∈ ss, s.1.2 + s.2.size ≤ 1 + v.size ∧ s.2.loose)
    (hnd : ((fin ++ wt ss ++ [(x.1, t)]).map Prod.fst).Nodup) (hroot : (root, v) ∈ fin ++ wt ss ++ [(x.1, t)]) (hOn : ∀ k, O k ∨ k = r → ∀ n ∈ fin ++ wt ss ++ [(x.1, t)], n.1.block ≠ k)
    (hown : ∀ k, O k ∨ k = r → w.heap.size ≤ k) (holt : ∀ k, O k ∨ k = r → k < W.heap.size) (hres : W.heap[r]? = some (.cells #[.int .i64 0, .bool false, .string ⟨#[]⟩, .slice none 0 0, .slice none 0 0] VT (0, 0))) (hno : ¬ O r)
    (hWn : w.heap.size ≤ W.heap.size) (hR0 : ∀ n ∈ fin ++ wt ss ++ [(x.1, t)], n.1.block < W.heap.size)
    (hb1 : Below W.heap.size W w1) (hb2 : Below w1.heap.size w1 w2) (hw3 : w2.setCell ⟨x.1.block, x.1.off + 3, none⟩ (.slice A' (t.list.length : Nat) ca') = w3)
    (hb4 : Below w3.heap.size w3 w4) (hw5 : w4.setCell ⟨x.1.block, x.1.off + 4, none⟩ (.slice B' (t.mem.length : Nat) cb') = w5) (hb : Below w5.heap.size w5 wr)
    (hA' : 0 < t.list.length → ∃ g cs, A' = some ⟨g, 0, none⟩ ∧ w1.heap.size ≤ g ∧ Blk w2 g VT cs ∧ t.list.length * 5 ≤ cs.size ∧ ∀ j u, n1[j]? = some u → w2.cell? ⟨g, j, none⟩ = some u)
    (hB' : 0 < t.mem.length → ∃ h cs, B' = some ⟨h, 0, none⟩ ∧ w3.heap.size ≤ h ∧ Blk w4 h MT cs ∧ t.mem.length * 6 ≤ cs.size ∧ ∀ j u, n2[j]? = some u → w4.cell? ⟨h, j, none⟩ = some u)
    (n1a : ∀ i x, t.list[i]? = some x → At5 w n1 (i * 5) x) (n2a : ∀ i x, t.mem[i]? = some x → n2[i * 6]? = some (.string (mk x.name)) ∧ At5 w n2 (i * 6 + 1) x.val)
    (hr5 : Rest w w.heap.size x.1 (fin ++ wt ss ++ [(x.1, t)]) fin (wt ss) w5) (hf5 : Five w5 x.1 t A' ca' B' cb') :
    Said true (CR w v w.heap.size r root) Jx m st x O W (.returned (.bool true)) wr := by
  have hr := hr5.grow hb
  have hf := hf5.below hb hr5.px.lt
  have hxW : x.1.block < W.heap.size := hR0 (x.1, t) (by simp)
  have s3 : w3.heap.size = w2.heap.size := by rw [← hw3]; simp [World.setCell]
  have s5 : w5.heap.size = w4.heap.size := by rw [← hw5]; simp [World.setCell]
  have z1 := hb1.size
  have z2 := hb2.size
  have z4 := hb4.size
  have z5 := hb.size
  have k3 : ∀ k, k ≠ x.1.block → w3.heap[k]? = w2.heap[k]? := fun k hk => by rw [← hw3]; exact Below.heap_setCell _ _ _ _ (by simpa using hk)
  have k5 : ∀ k, k ≠ x.1.block → w5.heap[k]? = w4.heap[k]? := fun k hk => by rw [← hw5]; exact Below.heap_setCell _ _ _ _ (by simpa using hk)
  have q5 : ∀ k, k ≠ x.1.block → k < w4.heap.size → wr.heap[k]? = w4.heap[k]? := fun k hk hl => (hb.block k (by omega)).trans (k5 k hk)
  have q2 : ∀ k, k ≠ x.1.block → k < w2.heap.size → wr.heap[k]? = w2.heap[k]? := fun k hk hl => (q5 k hk (by omega)).trans ((hb4.block k (by omega)).trans (k3 k hk))
  have q0 : ∀ k, k ≠ x.1.block → k < W.heap.size → wr.heap[k]? = W.heap[k]? := fun k hk hl => (q2 k hk (by omega)).trans ((hb2.block k (by omega)).trans (hb1.block k hl))
  have hxr : ∀ k, O k ∨ k = r → k ≠ x.1.block := fun k hk e => hOn k hk (x.1, t) (by simp) e.symm
  have hRL : RowL w wr W.heap.size A' t.list := rowL_of (w := w2) (fun h0 => by
    obtain ⟨g, cs, a, b, c, d, e⟩ := hA' h0
    exact ⟨g, cs, a, by omega, c, d, e⟩) n1a (fun g hg hl => q2 g (by omega) hl)
  have hRM : RowM w wr W.heap.size B' t.mem := rowM_of (w := w4) (fun h0 => by
    obtain ⟨g, cs, a, b, c, d, e⟩ := hB' h0
    exact ⟨g, cs, a, by omega, c, d, e⟩) n2a (fun g hg hl => q5 g (by omega) hl)
  have hAB : ∀ g h, A' = some ⟨g, 0, none⟩ → B' = some ⟨h, 0, none⟩ → 0 < t.list.length → 0 < t.mem.length → g ≠ h := by
    intro g h ea eb h1 h2
    obtain ⟨g', cs, a, _, c, _, _⟩ := hA' h1
    obtain ⟨h', cs', a', b', _, _, _⟩ := hB' h2
    rw [ea] at a
    rw [eb] at a'
    cases a
    cases a'
    have := c.lt
    omega
  obtain ⟨m', hm', hcj⟩ := CJ.give (O := fun k => O k ∨ k = r) e2 e3 e4 e5 e6 hnd hroot hOn hown holt hR0 hWn (by omega) hr hf hRL hRM hAB
  rw [← e1] at hcj
  have hsp : x.1.spot = none := hr.px.1
  obtain ⟨⟨xb, xo, xs⟩, xd⟩ := x
  simp only at hsp hf
  subst hsp
  have l1 := sum_len (fun s : It × V => s.2.size) (fun s => s.2.size_pos) ss
  have hsl : st.length = ss.length := by rw [e1]; simp
  have htp := t.size_eq
  have l2 := sum_len V.size V.size_pos t.list
  have l3 := sum_len (fun m : M => m.val.size) (fun m => m.val.size_pos) t.mem
  rw [← sizeL_sum] at l2
  rw [← sizeM_sum] at l3
  refine .inl ⟨rfl, ⟨by omega, fun k hk hl => q0 k (hxr k (.inl hk)) hl⟩, t.kind, A', t.list.length, ca', B', t.mem.length, cb', m', hm', ?_, ?_, ?_, ?_, ⟨hf.c0, ?_, ?_⟩, ⟨hcj, ?_, hno⟩⟩
  · intro h0
    obtain ⟨g, cs, a, _⟩ := hA' h0
    rw [a]; rfl
  · intro h0
    obtain ⟨g, cs, a, _⟩ := hB' h0
    rw [a]; rfl
  · omega
  · simp only at e4 ⊢; omega
  · exact hf.c3
  · exact hf.c4
  · exact (q0 r (hxr r (.inr rfl)) (holt r (.inr rfl))).trans hres
end Go.Proofs.YtkenananejgcpaaGreatDoor.Jsn
namespace Go.Proofs.YtkenananejgcpaaGreatDoor.Jsn
open Go.RowKit Txt Go.BigFrame
attribute [local go_sem] Oper.semAt_some
set_option maxRecDepth 100000
set_option maxHeartbeats 8000000 in
theorem copy_any (v : V) (val : Value) (w : World) (hv : Holds w val v) (hsz : v.size ≤ 90000) (hloose : v.loose) :
    Calls Tryz.prog 31 #[val] w fun e w' => ∃ val', e = .returned val' ∧ HoldsP (fun k => w.heap.size ≤ k) w' val' v ∧ Below w.heap.size w w' := by
  obtain ⟨A, ca, B, cb, rfl, hA0, hB0, hl0, hn0, hm0⟩ := id hv
  have hsrc : Src w v A B := ⟨hA0, hB0, hl0, hn0, hm0⟩
  clear hv hA0 hB0 hl0 hn0 hm0
  have HSRC := Lib.hid hsrc
  clear hsrc
  refine (callsIn_wide (n := 3)).1 ?_
  refine callsIn_of_wp_marks Tryz.func31 rfl trivial ?_ rfl
  simp only [Tryz.ntmps31, List.size_toArray, List.length_cons, List.length_nil, Nat.reduceAdd, Nat.reduceSub, Array.replicate_succ, Array.replicate_zero, List.push_toArray, List.append_toArray, List.nil_append, List.cons_append]
  gi_wp2_with (refine ⟨trivial, ?_⟩; gi_at_call 27; refine (callsIn_wide.2 (walk_any _ _ _)).mono ?_; rintro e w' ⟨rfl, rfl⟩)
  -- the memory as the loop finds it
  obtain ⟨W1, hW1⟩ : ∃ W1, W1 = (((w.alloc (.cells #[.int .i64 v.kind, .bool v.yes, .string (mk v.text), .slice A v.list.length ca, .slice B v.mem.length cb] 27)).alloc (.cells #[.int .i64 0, .bool false, .string ⟨#[]⟩, .slice none 0 0, .slice none 0 0] 27)).alloc (.cells #[.pointer (some ⟨w.heap.size, 0, none⟩)] 65)).alloc (.cells #[.func (.func 51) #[] #[]] 66) := ⟨_, rfl⟩
  have s1 : W1.heap.size = w.heap.size + 4 := by rw [hW1]; simp
  have hb1 : Below w.heap.size w W1 := by rw [hW1]; exact ((((Below.refl _ _).alloc (Nat.le_refl _) _).alloc (by simp) _).alloc (by simp; omega) _).alloc (by simp; omega) _
  have hat : ∀ (w : World) (o0 o1 o2 o3 : Obj), ((((w.alloc o0).alloc o1).alloc o2).alloc o3).heap[w.heap.size]? = some o0 ∧ ((((w.alloc o0).alloc o1).alloc o2).alloc o3).heap[w.heap.size + 1]? = some o1 ∧ ((((w.alloc o0).alloc o1).alloc o2).alloc o3).heap[w.heap.size + 2]? = some o2 ∧ ((((w.alloc o0).alloc o1).alloc o2).alloc o3).heap[w.heap.size + 3]? = some o3 := by
    intro w o0 o1 o2 o3
    have k1 := heap_alloc_new w o0
    have k2 := heap_alloc_new (w.alloc o0) o1
    have k3 := heap_alloc_new ((w.alloc o0).alloc o1) o2
    have k4 := heap_alloc_new (((w.alloc o0).alloc o1).alloc o2) o3
    simp only [World.size_alloc] at k2 k3 k4
    exact ⟨by rw [Below.heap_alloc _ _ _ (by simp only [World.size_alloc]; omega), Below.heap_alloc _ _ _ (by simp only [World.size_alloc]; omega), Below.heap_alloc _ _ _ (by simp only [World.size_alloc]; omega)]; exact k1, by rw [Below.heap_alloc _ _ _ (by simp only [World.size_alloc]; omega), Below.heap_alloc _ _ _ (by simp only [World.size_alloc]; omega)]; exact k2, by rw [Below.heap_alloc _ _ _ (by simp only [World.size_alloc]; omega)]; exact k3, k4⟩
  obtain ⟨q0, q1, q2, q3⟩ := hat w (.cells #[.int .i64 v.kind, .bool v.yes, .string (mk v.text), .slice A v.list.length ca, .slice B v.mem.length cb] 27) (.cells #[.int .i64 0, .bool false, .string ⟨#[]⟩, .slice none 0 0, .slice none 0 0] 27) (.cells #[.pointer (some ⟨w.heap.size, 0, none⟩)] 65) (.cells #[.func (.func 51) #[] #[]] 66)
  rw [← hW1] at q0 q1 q2 q3 ⊢
  clear hW1 hat
  have hstart : CR w v w.heap.size (w.heap.size + 1) ⟨w.heap.size, 0, none⟩ v.size [(⟨w.heap.size, 0, none⟩, 1)] (fun k => k = w.heap.size + 2 ∨ k = w.heap.size + 3) W1 :=
    ⟨CJ.start hb1 (Nat.le_refl _) q0 HSRC.out hloose (fun k hk => by omega), q1, by omega⟩
  have HST := Lib.hid hstart
  clear hstart q0 q1 hloose
  refine range_walk rfl (by decide) (gf := 46) (lb := #[.pointer (some ⟨w.heap.size + 2, 0, none⟩), .pointer (some ⟨w.heap.size + 3, 0, none⟩)]) rfl trivial (enters_of Tryz.func46 (by kernel_rfl) rfl) rfl true
    (fun k => k = w.heap.size + 2 ∨ k = w.heap.size + 3) (⟨w.heap.size, 0, none⟩, 1) (walk1 2 true 51 fields_ins (enters_of Tryz.func51 (by kernel_rfl) rfl) _ _ _ _ (cell_of_row _ _ 0 _ _ _ q2) (cell_of_row _ _ 0 _ _ _ q3)) (by omega)
    (CR w v w.heap.size (w.heap.size + 1) ⟨w.heap.size, 0, none⟩) (fun _ _ _ => False) (fun m st => CR.abide) (fun _ _ _ _ _ h _ _ => h) v.size HST.out
    (fun x => { tmps := #[.agg #[.int .i64 v.kind, .bool v.yes, .string (mk v.text), .slice A v.list.length ca, .slice B v.mem.length cb], .pointer (some ⟨w.heap.size, 0, none⟩), .pointer (some ⟨w.heap.size + 1, 0, none⟩), .pointer (some x.1), undef,
      .func (.func 46) #[] #[.pointer (some ⟨w.heap.size + 2, 0, none⟩), .pointer (some ⟨w.heap.size + 3, 0, none⟩)], .pointer (some x.1), .int .i64 x.2, undef, undef, undef, undef, undef, undef, undef, undef, undef, undef, undef, undef, undef, undef, undef, undef, undef, undef, undef, undef, undef, undef, undef, undef, undef, undef, undef, undef, undef, undef, undef, undef, undef, undef, undef, undef, undef, undef, undef, undef, undef, undef, undef, undef, undef, undef, undef, undef, undef, undef], defers := [] }) ?assign ?body ?done ?stop
  case assign =>
    intro l x W K hK
    gi_wp2
    exact hK
  case body =>
    clear HST HSRC q2 q3 s1 hb1
    intro l m st x O W hJ
    obtain ⟨ss, t, fin, e1, e2, e3, e4, e5, e6, ⟨A, ca, B, cb, hf, hsr⟩, hrest, hnd, hroot, hOn⟩ := hJ.cj.take
    have hown := hJ.cj.own
    have holt := hJ.cj.olt
    have hres := hJ.res
    have hno := hJ.no
    have htx : t.text.length ≤ 140737488351232 := by have := ((V.loose_eq t).1 e5).1; omega
    have hmx : ∀ y ∈ t.mem, y.name.length ≤ 140737488351232 := fun y hy => by have := ((V.loose_eq t).1 e5).2.1 y hy; omega
    have hWn : w.heap.size ≤ W.heap.size := hrest.below.size
    -- the rows that are copied
    obtain ⟨n1, n1l, n1c, n1o, n1a⟩ := list_cells w (A.getD default) t.list 0 (fun i y hy => by rw [Nat.zero_add]; exact hsr.hl i y hy)
    obtain ⟨n2, n2l, n2c, n2o, n2a⟩ := mem_cells w (B.getD default) t.mem 0 (fun i y hy => by rw [Nat.zero_add]; exact ⟨hsr.hn i y hy, hsr.hm i y hy⟩)
    have hts := t.size_eq
    have l1 := sum_len V.size V.size_pos t.list
    have l2 := sum_len (fun m : M => m.val.size) (fun m => m.val.size_pos) t.mem
    rw [← sizeL_sum] at l1
    rw [← sizeM_sum] at l2
    have hlen : t.list.length + t.mem.length ≤ 90000 := by omega
    have hn1 : ∀ W', Below w.heap.size w W' → ∀ j u, n1[j]? = some u → W'.cell? ((A.getD default).add j) = some u := fun W' hb j u hu => by
      have := n1c j u hu
      rw [Nat.zero_mul, Nat.zero_add] at this
      exact (hb.cell (lt_cell this)).trans this
    have hn2 : ∀ W', Below w.heap.size w W' → ∀ j u, n2[j]? = some u → W'.cell? ((B.getD default).add j) = some u := fun W' hb j u hu => by
      have := n2c j u hu
      rw [Nat.zero_mul, Nat.zero_add] at this
      exact (hb.cell (lt_cell this)).trans this
    have c2 := hf.c2
    have c3 := hf.c3
    have c4 := hf.c4
    have hpx := hrest.px
    have hxb := hpx.lt
    have hfz : ∀ (W' : World), Place w.heap.size W' x.1 → ∀ j, W'.frozen? ⟨x.1.block, j, none⟩ = false := fun W' hp j => by
      obtain ⟨_, _, cs, ⟨hb, _⟩ | ⟨hb, _⟩⟩ := hp
      · exact Lib.frozen_of_heap hb j
      · exact Lib.frozen_of_heap hb j
    obtain ⟨i0, hi, hz0, hz1, hz2⟩ := info_parts info_value
    obtain ⟨i1, hi1, hz10, hz11, hz12⟩ := info_parts info_member
    have HF := Lib.hid hf
    have HR := Lib.hid hrest
    have HN1 := Lib.hid hn1
    have HN2 := Lib.hid hn2
    have HFZ := Lib.hid hfz
    have HSR := Lib.hid hsr
    have HX : Hid (x.1.block < W.heap.size) := Lib.hid hxb
    have HLW := Lib.hid (show ∀ n ∈ fin ++ wt ss ++ [(x.1, t)], n.1.block < W.heap.size from fun n hn => (HR.out.places n hn).lt)
    clear hJ hf hrest hn1 hn2 hfz hpx hsr n1c n2c hts l1 l2 hxb
    gi_wp2_with (first
      | (refine ⟨trivial, ?_⟩; gi_at_call 33; refine (CallsIn.inRound l (callsIn_wide.2 (sclone_any t.text _ htx))).mono ?_; rintro e w1 ⟨rfl, hb1⟩
         have hr1 := HR.out.grow hb1
         have hf1 := HF.out.below hb1 HX.out
         have q2 := hf1.c2
         have q3 := hf1.c3
         have q4 := hf1.c4
         have z2 := HFZ.out _ hr1.px (x.1.off + 2)
         have hs2 : w1.setCell ⟨x.1.block, x.1.off + 2, none⟩ (.string (mk t.text)) = w1 := setCell_same q2
         have HR1 := Lib.hid hr1
         have HF1 := Lib.hid hf1
         have HB1 := Lib.hid hb1
         clear hr1 hf1 hb1)
      | (gi_at_builtin; refine wpListIn_append_nil rfl _ _ 24 rfl rfl 27 i0 _ 5 80 Tryz.underlying24 hi hz0 hz1 hz2 rfl (by decide) A t.list.length ca rfl n1 n1l HSR.out.hA (HN1.out _ HR1.out.below) n1o (by unfold maxLen; omega) (by omega) ?_; intro v3 w2 hown1 hg1
         have hb2 := grown_below0 hg1
         obtain ⟨A', ca', rfl, hA'⟩ := row_told hown1
         have hr2 := HR1.out.grow hb2
         have hf2 := HF1.out.below hb2 HR1.out.px.lt
         have q3 := hf2.c3
         have z3 := HFZ.out _ hr2.px (x.1.off + 3)
         obtain ⟨w3, hw3⟩ : ∃ w3, w2.setCell ⟨x.1.block, x.1.off + 3, none⟩ (.slice A' (t.list.length : Nat) ca') = w3 := ⟨_, rfl⟩
         have hr3 := hr2.set (i := 3) (by decide) (.slice A' (t.list.length : Nat) ca')
         have hf3 := hf2.put3 A' ca'
         rw [hw3] at hr3 hf3
         have q4 := hf3.c4
         have HR3 := Lib.hid hr3
         have HF3 := Lib.hid hf3
         have HB2 := Lib.hid hb2
         have HA' := Lib.hid hA'
         have HW3 := Lib.hid hw3
         clear hr2 hr3 hf2 hf3 hb2 hown1 hg1 hA')
      | (gi_at_builtin; refine wpListIn_append_nil rfl _ _ 25 rfl rfl 37 i1 _ 6 96 Tryz.underlying25 hi1 hz10 hz11 hz12 rfl (by decide) B t.mem.length cb rfl n2 n2l HSR.out.hB (HN2.out _ HR3.out.below) n2o (by unfold maxLen; omega) (by omega) ?_; intro v5 w4 hown2 hg2
         have hb4 := grown_below0 hg2
         obtain ⟨B', cb', rfl, hB'⟩ := row_told hown2
         have hr4 := HR3.out.grow hb4
         have hf4 := HF3.out.below hb4 HR3.out.px.lt
         have q4' := hf4.c4
         have z4 := HFZ.out _ hr4.px (x.1.off + 4)
         obtain ⟨w5, hw5⟩ : ∃ w5, w4.setCell ⟨x.1.block, x.1.off + 4, none⟩ (.slice B' (t.mem.length : Nat) cb') = w5 := ⟨_, rfl⟩
         have hr5 := hr4.set (i := 4) (by decide) (.slice B' (t.mem.length : Nat) cb')
         have hf5 := hf4.put4 B' cb'
         rw [hw5] at hr5 hf5
         have q5 := hf5.c4
         have HR5 := Lib.hid hr5
         have HF5 := Lib.hid hf5
         have HB4 := Lib.hid hb4
         have HB' := Lib.hid hB'
         have HW5 := Lib.hid hw5
         clear hr4 hr5 hf4 hf5 hb4 hown2 hg2 hB'))
    have hmix : Tryz.prog.follows .mixedOrders = true := by kernel_rfl
    clear c2 c3 c4 q2 q3 q4 z2 z3 z4 hs2 q4'
    gi_loopw [37] (fun u wr => ∃ k : Nat, k ≤ t.mem.length ∧ u = .int .i64 k ∧ Below w5.heap.size w5 wr) (fun u _ => t.mem.length - (intOf u).toNat)
    case atStart => exact ⟨0, by omega, rfl, Below.refl _ _⟩
    case round =>
      obtain ⟨k, hk, rfl, hb⟩ := hrel
      have HB := Lib.hid hb
      have hr := HR5.out.grow hb
      have hxw : x.1.block < w5.heap.size := HR5.out.px.lt
      have qr : wr.cell? ⟨x.1.block, x.1.off + 4, none⟩ = some (.slice B' (t.mem.length : Nat) cb') := (hb.cell (p := ⟨x.1.block, x.1.off + 4, none⟩) hxw).trans q5
      clear hb hr
      by_cases hlt : k < t.mem.length
      · have hBt := HB'.out (by omega)
        obtain ⟨h, cs, rfl, hh, hbk, hcs, hcc⟩ := hBt
        obtain ⟨y, hy⟩ : ∃ y, t.mem[k]? = some y := ⟨t.mem[k], List.getElem?_eq_getElem hlt⟩
        have hyl := hmx y (List.mem_of_getElem? hy)
        have hne : x.1.block ≠ h := by have := HR3.out.px.lt; omega
        have hk5 : w5.heap[h]? = w4.heap[h]? := by rw [← HW5.out]; exact Below.heap_setCell _ _ _ _ (by simpa using fun e : h = x.1.block => hne e.symm)
        have hbk5 : Blk w5 h MT cs := hk5.trans hbk
        have hbkr : Blk wr h MT cs := hbk5.below HB.out hbk5.lt
        have hname : wr.cell? ⟨h, k * 6, none⟩ = some (.string (mk y.name)) := by
          have h1 := hcc _ _ (n2a k y hy).1
          exact (World.cell?_of_block (a := ⟨h, k * 6, none⟩) (hbkr.trans hbk.symm)).trans h1
        have hkl : (k : Int) < (t.mem.length : Int) := by omega
        have HK := Lib.hid hbkr
        have HNm := Lib.hid hname
        have HQ := Lib.hid qr
        clear hcc hbk hbk5 hk5 hcs hh hbkr hy
        gi_wp2
        have g1 : ∀ u : Wb wr.heap.size wr, u.w.cell? ⟨x.1.block, x.1.off + 4, none⟩ = some (.slice (some ⟨h, 0, none⟩) (t.mem.length : Nat) cb') := fun u => (u.h.cell (p := ⟨x.1.block, x.1.off + 4, none⟩) (lt_cell HQ.out)).trans HQ.out
        have g2 : ∀ u : Wb wr.heap.size wr, u.w.cell? ⟨h, k * 6, none⟩ = some (.string (mk y.name)) := fun u => (u.h.cell (p := ⟨h, k * 6, none⟩) HK.out.lt).trans HNm.out
        have g3 : ∀ u : Wb wr.heap.size wr, u.w.frozen? ⟨h, k * 6, none⟩ = false := fun u => Lib.frozen_of_heap (HK.out.below u.h HK.out.lt) _
        have g4 : ∀ u : Wb wr.heap.size wr, u.w.setCell ⟨h, k * 6, none⟩ (.string (mk y.name)) = u.w := fun u => setCell_same (g2 u)
        refine wpIn_region_round (s := wr.heap.size) (w0 := wr) hmix (by kernel_rfl) (by kernel_rfl) (Below.refl _ _) ?_
        iterate 13 (gi_big_quiet_step (fail))
        refine wpQuietIn_want (fun _ _ _ _ => trivial) rfl (fun K hK => ?_)
        gi_big_quiet_op
        refine ⟨.string (mk y.name), fun u => ?_, hK _ ?_⟩
        · refine (callsIn_wide.2 (sclone_any y.name _ hyl)).mono ?_
          rintro e w7 ⟨rfl, hb7⟩
          exact ⟨rfl, ⟨w7, u.h.trans (hb7.mono u.h.size)⟩, rfl⟩
        clear hK K
        repeat (gi_big_quiet_step (fail))
        refine wpQuietIn_nil ?_
        intro _ hw'
        obtain ⟨⟨w7, hb7⟩, hw''⟩ := hw'
        subst hw''
        have HB7 := Lib.hid (HB.out.trans (hb7.mono HB.out.size))
        clear g1 g2 g3 g4 hb7
        gi_wp2
        exact ⟨⟨k + 1, by omega, by push_cast; rfl, HB7.out⟩, by simp only [intOf]; omega⟩
      · have hke : k = t.mem.length := by omega
        subst hke
        have hkl : ¬ ((t.mem.length : Int) < (t.mem.length : Int)) := by omega
        gi_wp2
        rw [← e1, ← e2]
        exact said_end (Jx := fun _ _ => False) hsz e1 e2 e3 e4 e5 e6 hnd hroot hOn hown holt hres hno hWn HLW.out HB1.out HB2.out HW3.out HB4.out HW5.out HB.out HA'.out HB'.out n1a n2a HR5.out HF5.out
  case done =>
    intro D m O W hO hJ hK
    obtain ⟨ss, fin, a1, a2, a3, a4, a5, a6, a7, a8, a9, a10⟩ := hJ.cj.ex
    have he : ss = [] := by simpa using a1.symm
    subst he
    rw [show fin ++ wt [] = fin from List.append_nil _] at a5 a7 a9 a10
    have hrd := all_done (Pd := fun k => w.heap.size ≤ k ∧ k ≠ D ∧ k ≠ w.heap.size + 1) a5 a7 (fun n hn => ⟨(a7 n hn).2.1, a10 D (.inl hO) n hn, a10 _ (.inr rfl) n hn⟩) v.size (⟨w.heap.size, 0, none⟩, v) (Nat.le_refl _) a9
    have hbel := hJ.cj.below
    have hDn := hJ.cj.own D (.inl hO)
    have hres := hJ.res
    have hDr : D ≠ w.heap.size + 1 := fun e => hJ.no (e ▸ hO)
    have hWs : w.heap.size ≤ W.heap.size := hbel.size
    clear a1 a2 a3 a4 a5 a6 a7 a8 a9 a10 hJ HST
    simp only at hrd
    obtain ⟨A', ca', B', cb', c0, c1, c2, c3, c4, hA, hB, hl, hn, hm⟩ : ∃ A' ca' B' cb', W.cell? ⟨w.heap.size, 0, none⟩ = some (.int .i64 v.kind) ∧ W.cell? ⟨w.heap.size, 1, none⟩ = some (.bool v.yes) ∧ W.cell? ⟨w.heap.size, 2, none⟩ = some (.string (mk v.text)) ∧ W.cell? ⟨w.heap.size, 3, none⟩ = some (.slice A' (v.list.length : Nat) ca') ∧ W.cell? ⟨w.heap.size, 4, none⟩ = some (.slice B' (v.mem.length : Nat) cb') ∧
        (0 < v.list.length → A'.isSome = true) ∧ (0 < v.mem.length → B'.isSome = true) ∧ (∀ i x, v.list[i]? = some x → RdP (fun k => w.heap.size ≤ k ∧ k ≠ D ∧ k ≠ w.heap.size + 1) W ((A'.getD default).add (i * 5)) x) ∧ (∀ i x, v.mem[i]? = some x → W.cell? ((B'.getD default).add (i * 6)) = some (.string (mk x.name))) ∧ (∀ i x, v.mem[i]? = some x → RdP (fun k => w.heap.size ≤ k ∧ k ≠ D ∧ k ≠ w.heap.size + 1) W ((B'.getD default).add (i * 6 + 1)) x.val) := by
      cases hrd with
      | mk a k y t l m A ca B cb hp c0 c1 c2 c3 c4 hA hB hl hn hm =>
        rw [add0] at c1 c2 c3 c4
        exact ⟨A, ca, B, cb, c0, c1, c2, c3, c4, hA, hB, hl, hn, hm⟩
    have hHP : HoldsP (fun k => w.heap.size ≤ k ∧ k ≠ D ∧ k ≠ w.heap.size + 1) W (.agg #[.int .i64 v.kind, .bool v.yes, .string (mk v.text), .slice A' v.list.length ca', .slice B' v.mem.length cb']) v := ⟨A', ca', B', cb', rfl, hA, hB, hl, hn, hm⟩
    have HHP := Lib.hid hHP
    have HBL := Lib.hid hbel
    have HK := Lib.hid hK
    have HRS := Lib.hid (show Blk W (w.heap.size + 1) VT #[.int .i64 0, .bool false, .string ⟨#[]⟩, .slice none 0 0, .slice none 0 0] from hres)
    have r0 := HRS.out.cell 0
    have r1 := HRS.out.cell 1
    have r2 := HRS.out.cell 2
    have r3 := HRS.out.cell 3
    have r4 := HRS.out.cell 4
    have f0 := Lib.frozen_of_heap HRS.out 0
    have f1 := Lib.frozen_of_heap HRS.out 1
    have f2 := Lib.frozen_of_heap HRS.out 2
    have f3 := Lib.frozen_of_heap HRS.out 3
    have f4 := Lib.frozen_of_heap HRS.out 4
    clear hHP hA hB hl hn hm hbel hK hres hrd HSRC
    generalize (v.list.length : Nat) = nl at *
    generalize (v.mem.length : Nat) = nm at *
    gi_wp2
    obtain ⟨W5, hW5⟩ : ∃ W5, W5 = (((((W.setCell { block := w.heap.size + 1, off := 0 } (Value.int IntKind.i64 v.kind)).setCell { block := w.heap.size + 1, off := 1 } (Value.bool v.yes)).setCell { block := w.heap.size + 1, off := 2 } (Value.string (mk v.text))).setCell { block := w.heap.size + 1, off := 3 } (Value.slice A' nl ca')).setCell { block := w.heap.size + 1, off := 4 } (Value.slice B' nm cb')) := ⟨_, rfl⟩
    have hoth : ∀ k, k ≠ w.heap.size + 1 → W5.heap[k]? = W.heap[k]? := fun k hk => by
      rw [hW5, Below.heap_setCell _ _ _ _ (by simpa using hk), Below.heap_setCell _ _ _ _ (by simpa using hk), Below.heap_setCell _ _ _ _ (by simpa using hk), Below.heap_setCell _ _ _ _ (by simpa using hk), Below.heap_setCell _ _ _ _ (by simpa using hk)]
    have hsz5 : W5.heap.size = W.heap.size := by rw [hW5]; simp [World.setCell]
    have hb5 : Blk W5 (w.heap.size + 1) VT #[.int .i64 v.kind, .bool v.yes, .string (mk v.text), .slice A' nl ca', .slice B' nm cb'] := by
      rw [hW5]
      exact blk_set (blk_set (blk_set (blk_set (blk_set HRS.out 0 _) 1 _) 2 _) 3 _) 4 _
    have hbl5 : Below w.heap.size W W5 := by
      rw [hW5]
      exact (((((Below.refl _ W).setCell (by show _ ≤ w.heap.size + 1; omega) _).setCell (by show _ ≤ w.heap.size + 1; omega) _).setCell (by show _ ≤ w.heap.size + 1; omega) _).setCell (by show _ ≤ w.heap.size + 1; omega) _).setCell (by show _ ≤ w.heap.size + 1; omega) _
    have hK' := (hoth D hDr).trans HK.out
    rw [← hW5]
    refine ⟨by simp, .inl ⟨_, _, rfl, run_takeDeferred hK', ?_⟩⟩
    have hb6 : Blk (W5.putObj D (.deferred none)) (w.heap.size + 1) VT #[.int .i64 v.kind, .bool v.yes, .string (mk v.text), .slice A' nl ca', .slice B' nm cb'] := (World.putObj_heap_other (fun e => hDr e.symm)).trans hb5
    have g0 := hb6.cell 0
    have g1 := hb6.cell 1
    have g2 := hb6.cell 2
    have g3 := hb6.cell 3
    have g4 := hb6.cell 4
    refine ⟨.agg #[.int .i64 v.kind, .bool v.yes, .string (mk v.text), .slice A' nl ca', .slice B' nm cb'], ?_, ⟨_, rfl, ?_, ?_⟩⟩
    · simp [results, Tryz.f31, go_sem, g0, g1, g2, g3, g4]
    · exact (HHP.out.kept (fun k hk _ => (World.putObj_heap_other hk.2.1).trans (hoth k hk.2.2))).mono (fun k hk _ => hk.1)
    · exact (HBL.out.trans hbl5).grown (grownBy_putObj' W5 D _) (by omega) (fun k e => by cases e; omega)
  case stop =>
    intro D O W _ h
    exact h.elim
end Go.Proofs.YtkenananejgcpaaGreatDoor.Jsn
