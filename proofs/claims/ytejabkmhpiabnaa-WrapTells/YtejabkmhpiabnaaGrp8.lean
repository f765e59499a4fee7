/- Texts that were joined: QSl, GIdx, AKey, AesBackL, Arr, HOpen, AOwn. -/
import Derived.Test.YtejabkmhpiabnaaBs
import Derived.Test.YtejabkmhpiabnaaFil
import Derived.Test.YtejabkmhpiabnaaGrp6
import Derived.Test.YtejabkmhpiabnaaUpS
import Derived.Great.BuildSlice
import Derived.Test.YtejabkmhpiabnaaAMath
import Derived.ProofKit
import Derived.OpenShut
import Derived.Deep.SlicePairs
import Derived.Carry
/- Slices of words of four bytes: what one holds; rows of words that a call made. -/
namespace Go.Proofs.Ytejabkmhpiabnaa
open Go.RowKit
set_option linter.unusedSimpArgs false
theorem uQss : Try.prog.underlying 44 = some (.slice 23) := by kernel_rfl
theorem iA4 : (Try.prog.info? 23).map (fun i => (i.zero, i.size, i.bytes)) = some (some (aB (List.replicate 4 0)), 4, 4) := by kernel_rfl
def Qok (ds : List (List Nat)) : Prop := ∀ d ∈ ds, d.length = 4
theorem Qok.at {ds : List (List Nat)} (h : Qok ds) (j : Nat) (hj : j < ds.length) : (ds.getD j []).length = 4 := by
  rw [List.getD_eq_getElem?_getD, List.getElem?_eq_getElem hj]
  exact h _ (List.getElem_mem hj)
/-- The slice v holds the words ds. -/
def Qs (w : World) (v : Value) (ds : List (List Nat)) : Prop :=
  ∃ a c, v = .slice a ds.length c ∧ ds.length ≤ c ∧ (0 < ds.length → ∃ b o, a = some ⟨b, o, none⟩ ∧ ∀ j, j < ds.length → w.rangeAt b (o + j * 4) ((ds.getD j []).map b8))
theorem Qs.nil (w : World) : Qs w (.slice none 0 0) [] := ⟨none, 0, rfl, Nat.le_refl _, fun h => absurd h (Nat.lt_irrefl _)⟩
theorem range_upq {W w1 : World} {B b o : Nat} {vs : List Value} (h : W.rangeAt b o vs) (hb : Below B W w1) (hB : W.heap.size ≤ B) : w1.rangeAt b o vs :=
  fun j v hj => (hb.cell (p := ⟨b, o + j, none⟩) (Nat.lt_of_lt_of_le (lt_of_cellB (h j v hj)) hB)).trans (h j v hj)
theorem Qs.up {W w1 : World} {v : Value} {ds : List (List Nat)} {B : Nat} (h : Qs W v ds) (hb : Below B W w1) (hB : W.heap.size ≤ B) : Qs w1 v ds := by
  obtain ⟨a, c, e, hc, h3⟩ := h
  refine ⟨a, c, e, hc, fun hp => ?_⟩
  obtain ⟨b, o, e2, hr⟩ := h3 hp
  exact ⟨b, o, e2, fun j hj => range_upq (hr j hj) hb hB⟩
/-- The slice v is a row of words that the call made. -/
def Oq (w : World) (B : Nat) (v : Value) (ds : List (List Nat)) : Prop := Qok ds ∧ w.ownsRow B 23 4 v ds.length (ds.flatten.map b8)
theorem Oq.nil (w : World) (B : Nat) : Oq w B (.slice none 0 0) [] := ⟨(fun d h => by cases h), World.ownsRow_nil _ _ _ _⟩
theorem Oq.up {W w1 : World} {B : Nat} {v : Value} {xs : List (List Nat)} (h : Oq W B v xs) (hb : Below W.heap.size W w1) : Oq w1 B v xs := by
  refine ⟨h.1, h.2.1, ?_⟩
  rcases h.2.2 with h' | ⟨g, cap, cur, e, hB, hg, rest⟩
  · exact .inl h'
  · exact .inr ⟨g, cap, cur, e, hB, (hb.block g (Array.getElem?_eq_some_iff.1 hg).1).trans hg, rest⟩
theorem flat_q : ∀ {ds : List (List Nat)} (_ : Qok ds) (j r : Nat), r < 4 → (ds.flatten)[j * 4 + r]? = (ds.getD j [])[r]?
  | [], _, j, r, _ => by simp
  | d :: ds, h, 0, r, hr => by
    have hd := h d (by simp)
    rw [List.flatten_cons, Nat.zero_mul, Nat.zero_add, List.getElem?_append_left (by omega)]
    simp
  | d :: ds, h, j + 1, r, hr => by
    have hd := h d (by simp)
    have := flat_q (ds := ds) (fun x hx => h x (by simp [hx])) j r hr
    rw [List.flatten_cons, List.getElem?_append_right (by rw [hd]; omega), hd, show (j + 1) * 4 + r - 4 = j * 4 + r by omega, this]
    simp
theorem Oq.form {w : World} {B : Nat} {v : Value} {ds : List (List Nat)} (h : Oq w B v ds) (hp : 0 < ds.length) : ∃ g c, v = .slice (some ⟨g, 0, none⟩) ds.length c ∧ B ≤ g ∧ ds.length ≤ c ∧ ∀ j, j < ds.length → w.rangeAt g (j * 4) ((ds.getD j []).map b8) := by
  rcases h.2.2 with ⟨e, e2⟩ | ⟨g, cap, cur, e, hB, hg, hn, rest⟩
  · omega
  · refine ⟨g, cap, e, hB, hn, fun j hj r u hu => ?_⟩
    have h2 : w.ownsRow B 23 4 (.slice (some ⟨g, 0, none⟩) ds.length cap) ds.length (ds.flatten.map b8) := by rw [← e]; exact h.2
    have hr : r < 4 := by
      have := (List.getElem?_eq_some_iff.1 hu).1
      rw [List.length_map, h.1.at j hj] at this
      exact this
    rw [h2.cellAt (j * 4 + r) (by omega)]
    rw [List.getElem?_map, flat_q h.1 j r hr, ← List.getElem?_map]
    exact hu
theorem Oq.qs {w : World} {B : Nat} {v : Value} {ds : List (List Nat)} (h : Oq w B v ds) : Qs w v ds := by
  rcases Nat.eq_zero_or_pos ds.length with h0 | h0
  · rcases h.2.2 with ⟨e, e2⟩ | ⟨g, cap, cur, e, _, _, hn, _⟩
    · exact ⟨none, 0, by rw [e, h0], by omega, fun hp => by omega⟩
    · exact ⟨_, cap, e, hn, fun hp => by omega⟩
  · obtain ⟨g, c, e, _, hn, hc⟩ := h.form h0
    exact ⟨_, c, e, hn, fun _ => ⟨g, 0, rfl, fun j hj => by rw [Nat.zero_add]; exact hc j hj⟩⟩
/-- A row of words stays when another row, in a block ahead of it, is appended to. -/
theorem Oq.grown {w w' : World} {B : Nat} {v : Value} {ds : List (List Nat)} {row : Option Nat} (h : Oq w B v ds) (hg : w.grownBy w' row) (hr : ∀ g, row = some g → g < B) : Oq w' B v ds := by
  refine ⟨h.1, h.2.1, ?_⟩
  rcases h.2.2 with h' | ⟨g, cap, cur, e, hB, hgg, rest⟩
  · exact .inl h'
  · exact .inr ⟨g, cap, cur, e, hB, (hg.block g (Array.getElem?_eq_some_iff.1 hgg).1 (fun e => by have := hr g e.symm; omega)).trans hgg, rest⟩
theorem Oq.low {w : World} {B : Nat} {v : Value} {ds : List (List Nat)} (h : Oq w B v ds) : ∀ g, v.ownBlock = some g → g < w.heap.size := fun g hg => (World.ownsRow.lt h.2 g hg).2
/-- append of one word, built on the spot. -/
theorem wp_appQ {ops : Array Oper} {rest : List Oper} {o : Oper} {a : Act} {Q : Exit → Act → World → Prop} {w : World} (hgd : o.guard = none) (s x : Operand)
    (ho : o.op = .call { callee := .builtin .append, args := #[s, x], argTypes := #[44, 44] })
    (B : Nat) (v : Value) (xs : List (List Nat)) (W0 : World) (k : Nat) (y : List Nat) (hs : a.eval s = v) (hown : Oq W0 B v xs) (hup : Below W0.heap.size W0 w) (hx : a.eval x = .slice (some ⟨k, 0, none⟩) 1 1) (hy : w.rangeAt k 0 (y.map b8)) (hy1 : y.length = 4)
    (hl : xs.length + 1 ≤ 4398046511103) (hB : B ≤ W0.heap.size) (h : ∀ v' w', Oq w' B v' (xs ++ [y]) → Below B W0 w' → w.grownBy w' v.ownBlock → wpList Try.prog ops Q rest (a.put o.dst v') w') : wpList Try.prog ops Q (o :: rest) a w := by
  obtain ⟨i0, hi, hz0, hz1, hz2⟩ := info_parts iA4
  have hs0 := hup.size
  refine wpList_append_own w hgd s x 44 ho B 23 i0 (aB (List.replicate 4 0)) 4 4 uQss hi hz0 hz1 hz2 rfl (by decide) v xs.length (xs.flatten.map b8) hs (hown.up hup).2 ⟨k, 0, none⟩ 1 1 (y.map b8) hx (by simp [hy1]) ?_ ?_ ?_ ?_ ?_ ?_
  · intro j u hj
    rw [Addr.add_lit]
    exact hy j u hj
  · exact one_b8 y
  · unfold maxLen; omega
  · omega
  · omega
  · intro v' w' hown' hg _
    refine h v' w' ⟨?_, ?_⟩ ?_ hg
    · intro d hd
      rcases List.mem_append.1 hd with h1 | h1
      · exact hown.1 d h1
      · rw [List.mem_singleton.1 h1]; exact hy1
    · rw [List.flatten_append, List.map_append, List.length_append]
      simpa using hown'
    · refine Below.grown (hup.mono hB) hg (by omega) fun k hk => ?_
      exact (World.ownsRow.lt (hown.up hup).2 k hk).1
/-- One word in a slice that is built. -/
theorem run_bsQ (w : World) (y : List Nat) (hy : y.length = 4) : (Instr.buildSlice 44 1 #[(0, aB y)]).run Try.prog w = .ok (.slice (some ⟨w.heap.size, 0, none⟩) 1 1) (w.alloc (.cells (y.map b8).toArray 23)) := by
  obtain ⟨i0, hi, hz0, hz1, hz2⟩ := info_parts iA4
  refine run_buildSlice w 44 23 1 _ _ i0 _ uQss hi hz0 (by rw [hz1]; decide) (by rw [hz1]; decide) ?_
  rw [hz1]
  have e := fill_step (fun i => some (i * 4, 4)) ((Array.range (1 * 4)).map ((aB (List.replicate 4 0)).cells[· % (aB (List.replicate 4 0)).cells.size]!)) 0 0 (y.map b8) [] ((Array.range (1 * 4)).map ((aB (List.replicate 4 0)).cells[· % (aB (List.replicate 4 0)).cells.size]!)).toList [] [] (by simp [hy]) (by simp) rfl (by simp [hy])
  rw [List.nil_append, List.append_nil, Instr.fill] at e
  exact e
theorem rangeAt_alq {w : World} {vs : List Value} {t : TypeId} : (w.alloc (.cells vs.toArray t)).rangeAt w.heap.size 0 vs := fun j v hv => by
  rw [Nat.zero_add, cell_top rfl]
  simpa using hv
theorem wp_bsQ {ops : Array Oper} {rest : List Oper} {o : Oper} {a : Act} {Q : Exit → Act → World → Prop} {w : World} (hgd : o.guard = none) (x : Operand) (ho : o.op = .buildSlice 44 1 #[(0, x)]) (y : List Nat) (hy : y.length = 4) (hx : a.eval x = aB y)
    (h : ∀ w2, w2.rangeAt w.heap.size 0 (y.map b8) → Below w.heap.size w w2 → wpList Try.prog ops Q rest (a.put o.dst (.slice (some ⟨w.heap.size, 0, none⟩) 1 1)) w2) : wpList Try.prog ops Q (o :: rest) a w := by
  refine wpList_plain hgd fun K hK => ?_
  have e := run_bsQ w y hy
  unfold Oper.wp
  simp [execOp, ho, hx, e, Result.andThen]
  exact hK _ _ (h _ rangeAt_alq (al1 w _ _).2)
def MP.q1 (y : List Nat) : MP := ⟨fun v w => ∃ g, v = .slice (some ⟨g, 0, none⟩) 1 1 ∧ w.rangeAt g 0 (y.map b8), fun ⟨g, e, h⟩ hk => ⟨g, e, range_upq h hk (Nat.le_refl _)⟩⟩
theorem yields_q1 {o : Oper} {a : Act} {w : World} {y : List Nat} (hy : y.length = 4) {x : Operand} (ho : o.op = .buildSlice 44 1 #[(0, x)]) (hx : a.eval x = aB y) : YieldsP Try.prog o a w (MP.q1 y).p := by
  have e0 := run_bsQ w y hy
  have e : (execOp a.eval o).run Try.prog w = .ok (.value (.slice (some ⟨w.heap.size, 0, none⟩) 1 1)) (w.alloc (.cells (y.map b8).toArray 23)) := by
    unfold execOp
    simp [ho, hx, e0]
  unfold YieldsP
  rw [e]
  exact ⟨⟨_, rfl, rangeAt_alq⟩, (al1 w _ _).2⟩
end Go.Proofs.Ytejabkmhpiabnaa

/- A byte of an array by its place, and a row of four made of constants, in a walk. -/
namespace Go.Proofs.Ytejabkmhpiabnaa
open Go.RowKit
set_option linter.unusedSimpArgs false
theorem wp_idxB {t : TypeId} {n : Nat} {ops : Array Oper} {rest : List Oper} {o : Oper} {a : Act} {Q : Exit → Act → World → Prop} {w : World} (hgd : o.guard = none) (ht : Try.prog.underlying t = some (.array n 5)) (x i : Operand) (ho : o.op = .index t x i) (xs : List Nat) (hl : xs.length = n) (j : Nat) (k : IntKind) (hj : j < n) (hx : a.eval x = aB xs) (hi : a.eval i = .int k (j : Int)) (v : Nat) (hv : xs.getD j 0 = v)
    (hK : wpList Try.prog ops Q rest (a.put o.dst (b8 v)) w) : wpList Try.prog ops Q (o :: rest) a w := by
  subst hv
  refine wpList_plain hgd fun K hK2 => ?_
  have e : (execOp a.eval o).run Try.prog w = .ok (.value (b8 (xs.getD j 0))) w := by
    unfold execOp
    simp only [ho, hx, hi, run_idxB ht xs hl j hj, Sem.run_bind, Sem.run_pure, Result.andThen_ok]
  unfold Oper.wp
  rw [e]
  exact hK2 _ _ hK
theorem wp_build4 {ops : Array Oper} {rest : List Oper} {o : Oper} {a : Act} {Q : Exit → Act → World → Prop} {w : World} (hgd : o.guard = none) (x y z u : Nat) (ho : o.op = .build 23 #[(0, .const (.int .u8 (x : Int))), (1, .const (.int .u8 (y : Int))), (2, .const (.int .u8 (z : Int))), (3, .const (.int .u8 (u : Int)))]) (hb : Try.prog.built 23 [(0, b8 x), (1, b8 y), (2, b8 z), (3, b8 u)] = some #[b8 x, b8 y, b8 z, b8 u])
    (h : wpList Try.prog ops Q rest (a.put o.dst (.agg #[b8 x, b8 y, b8 z, b8 u])) w) : wpList Try.prog ops Q (o :: rest) a w := by
  refine wpList_plain hgd fun K hK => ?_
  have e : (Instr.build 23 ((#[(0, .const (.int .u8 (x : Int))), (1, .const (.int .u8 (y : Int))), (2, .const (.int .u8 (z : Int))), (3, .const (.int .u8 (u : Int)))] : Array (Nat × Operand)).map fun x => (x.fst, a.eval x.snd))).run Try.prog w = .ok (.agg #[b8 x, b8 y, b8 z, b8 u]) w := run_build w 23 _ _ (by simpa [Act.eval] using hb)
  unfold Oper.wp
  simp only [execOp, ho, Sem.run_bind, e, Result.andThen_ok, Sem.run_pure]
  exact hK _ _ h
theorem built4 (x y z u : Nat) : Try.prog.built 23 [(0, b8 x), (1, b8 y), (2, b8 z), (3, b8 u)] = some #[b8 x, b8 y, b8 z, b8 u] := by kernel_rfl
/-- A row of four made of bytes, in a drawn region. -/
theorem yieldsA_build4 {o : Oper} {a : Act} {w : World} {φ : Value → World → Prop} (x y z u : Operand) (ho : o.op = .build 23 #[(0, x), (1, y), (2, z), (3, u)]) (p q r s : Nat) (hx : a.eval x = b8 p) (hy : a.eval y = b8 q) (hz : a.eval z = b8 r) (hu : a.eval u = b8 s)
    (h : φ (aB [p, q, r, s]) w) : YieldsP Try.prog o a w φ := by
  have e : (execOp a.eval o).run Try.prog w = .ok (.value (aB [p, q, r, s])) w := by
    have e1 : (Instr.build 23 ((#[(0, x), (1, y), (2, z), (3, u)] : Array (Nat × Operand)).map fun x => (x.fst, a.eval x.snd))).run Try.prog w = .ok (.agg #[b8 p, b8 q, b8 r, b8 s]) w := run_build w 23 _ _ (by simpa [hx, hy, hz, hu] using built4 p q r s)
    unfold execOp
    simp only [ho, Sem.run_bind, e1, Result.andThen_ok, Sem.run_pure]
    rfl
  unfold YieldsP
  rw [e]
  exact ⟨h, Below.refl _ _⟩
end Go.Proofs.Ytejabkmhpiabnaa

/- What package aes must keep: a key's contracts as one premise, over whatever cells a key has; keys in variables. -/
namespace Go.Proofs.Ytejabkmhpiabnaa
open Go.RowKit
set_option linter.unusedSimpArgs false
/-- A key's bytes are so many. -/
def KeyN (n : Nat) : Prop := n = 16 ∨ n = 24 ∨ n = 32
/-- A key of so many bytes. -/
structure KeyB (key : List Nat) : Prop where
  len : KeyN key.length
  low : ∀ x ∈ key, x < 256
theorem KeyB.ok {key : List Nat} (h : KeyB key) : A.ok key.length key := ⟨rfl, h.low⟩
theorem KeyB.ws {key : List Nat} (h : KeyB key) : A.okW (A.keyW key) := A.keyW_ok h.ok
theorem KeyB.mod {key : List Nat} (h : KeyB key) : key.length % 4 = 0 := by rcases h.len with e | e | e <;> rw [e]
theorem KeyB.wl {key : List Nat} (h : KeyB key) : (A.keyW key).length = key.length + 28 := by
  rw [A.keyW_length]
  unfold A.keyN
  rcases h.len with e | e | e <;> rw [e]
theorem KeyB.le {key : List Nat} (h : KeyB key) : key.length ≤ 32 := by rcases h.len with e | e | e <;> omega
theorem key_rounds {key : List Nat} (h : KeyB key) : ∃ r, (A.keyW key).length = 4 * (r + 1) ∧ r ≤ 20 := by
  rw [h.wl]
  rcases h.len with e | e | e <;> rw [e]
  · exact ⟨10, rfl, by decide⟩
  · exact ⟨12, rfl, by decide⟩
  · exact ⟨14, rfl, by decide⟩
/-- Ky: these cells are what Expand made of the key; zk: a key's zero cells; Tb: what is known of tables. -/
structure AesC (Tb : World → Prop) (zk : List Value) (Ky : World → List Value → List Nat → Prop) : Prop where
  tb : ∀ {W w1 : World}, Tb W → Below W.heap.size W w1 → Tb w1
  zero : (Try.prog.info? 26).map (·.zero) = some (some (.agg zk.toArray))
  info : (Try.prog.info? 26).map (·.size) = some zk.length
  row : ∃ d, Try.prog.underlying 26 = some d ∧ d.isRow = true
  up : ∀ {W w1 : World} {cs : List Value} {key : List Nat}, Ky W cs key → Below W.heap.size W w1 → Ky w1 cs key
  size : ∀ {w : World} {cs : List Value} {key : List Nat}, Ky w cs key → cs.length = zk.length
  one : ∀ {w : World} {cs : List Value} {key : List Nat}, Ky w cs key → ∀ v ∈ cs, v.oneCell' = true
  zone : ∀ v ∈ zk, v.oneCell' = true
  expand : ∀ (key : List Nat) (v : Value), KeyB key → ∀ w, Tb w → By w v key → Calls Try.prog 7 #[v] w fun e w' => ∃ cs, e = .returned (.tuple #[.agg cs.toArray, .int .i64 0]) ∧ Ky w' cs key ∧ Below w.heap.size w w'
  bad : ∀ (key : List Nat) (v : Value), (∀ x ∈ key, x < 256) → ¬ KeyN key.length → ∀ w, Tb w → By w v key → Calls Try.prog 7 #[v] w fun e w' => e = .returned (.tuple #[.agg zk.toArray, .int .i64 1]) ∧ Below w.heap.size w w'
  enc : ∀ (key : List Nat) (cs : List Value) (b : List Nat), KeyB key → A.ok 16 b → ∀ w, Tb w → Ky w cs key → Calls Try.prog 24 #[.agg cs.toArray, aB b] w fun e w' => e = .returned (aB (A.encS (A.keyW key) b)) ∧ Below w.heap.size w w'
  dec : ∀ (key : List Nat) (cs : List Value) (b : List Nat), KeyB key → A.ok 16 b → ∀ w, Tb w → Ky w cs key → Calls Try.prog 32 #[.agg cs.toArray, aB b] w fun e w' => e = .returned (aB (A.decS (A.keyW key) b)) ∧ Below w.heap.size w w'
section
variable {Tb : World → Prop} {zk : List Value} {Ky : World → List Value → List Nat → Prop}
theorem AesC.zeroV (C : AesC Tb zk Ky) (w : World) : (zeroValue 26).run Try.prog w = .ok (.agg zk.toArray) w := by
  have := C.zero
  cases h : Try.prog.info? 26 with
  | none => simp [h] at this
  | some d =>
    have hz : d.zero = some (.agg zk.toArray) := by simpa [h] using this
    simp [zeroValue, typeInfo, h, hz]
/-- A variable for a key is made, and one is stored into it. -/
theorem AesC.make (C : AesC Tb zk Ky) {ops : Array Oper} {rest : List Oper} {o o2 : Oper} {a : Act} {Q : Exit → Act → World → Prop} {w : World} (hgd : o.guard = none) (hgd2 : o2.guard = none) (x : Tmp) (y : Operand) (ho : o.op = .alloc 26) (hd : o.dst = some x) (hd2 : o2.dst = none) (ho2 : o2.op = .store 26 (.tmp x) y)
    (cs : List Value) (hl : cs.length = zk.length) (h1 : ∀ v ∈ cs, v.oneCell' = true) (hx : (a.put (some x) (.pointer (some ⟨w.heap.size, 0, none⟩))).eval (.tmp x) = .pointer (some ⟨w.heap.size, 0, none⟩)) (hy : (a.put (some x) (.pointer (some ⟨w.heap.size, 0, none⟩))).eval y = .agg cs.toArray)
    (h : ∀ w2, Blk w2 w.heap.size cs → Below w.heap.size w w2 → wpList Try.prog ops Q rest (a.put (some x) (.pointer (some ⟨w.heap.size, 0, none⟩))) w2) : wpList Try.prog ops Q (o :: o2 :: rest) a w := by
  refine wpList_plain hgd fun K hK => ?_
  have e : (execOp a.eval o).run Try.prog w = .ok (.value (.pointer (some ⟨w.heap.size, 0, none⟩))) (w.alloc (.cells zk.toArray 26)) := by
    unfold execOp
    have hz := C.zeroV w
    simp [ho, hz, Instr.alloc, newVar, Value.cells, go_sem] <;> rfl
  unfold Oper.wp
  rw [e]
  refine hK _ _ ?_
  rw [hd]
  obtain ⟨y0, y1⟩ := al1 w zk.toArray 26
  have y0' : Blk (w.alloc (.cells zk.toArray 26)) w.heap.size zk := by simpa using y0
  refine wp_store_eq hgd2 26 (.tmp x) y ho2 w.heap.size 0 cs hx hy (y0'.there (by omega)) (C.info.trans (congrArg some hl.symm)) h1 ?_
  intro w2 hw2
  rw [hd2]
  refine h w2 ?_ ?_
  · rw [hw2.out]
    exact y0'.put hl
  · rw [hw2.out]
    exact below_setCells _ _ _ y1 (Nat.le_refl _)
/-- A key read out of its variable, in a drawn region. -/
theorem AesC.ld (C : AesC Tb zk Ky) {o : Oper} {a : Act} {w : World} {φ : Value → World → Prop} (x : Operand) (ho : o.op = .load 26 x) (k : Nat) (hx : a.eval x = .pointer (some ⟨k, 0, none⟩)) (cs : List Value) (hl : cs.length = zk.length) (hc : w.rangeAt k 0 cs) (h : φ (.agg cs.toArray) w) : YieldsP Try.prog o a w φ := by
  obtain ⟨d, hu, hr⟩ := C.row
  exact yieldsA_load 26 x ho k 0 hx cs d hc hu hr (C.info.trans (congrArg some hl.symm)) h
end
def MP.qs (ws : List (List Nat)) : MP := ⟨fun v w => Qs w v ws, fun h hb => h.up hb (Nat.le_refl _)⟩
end Go.Proofs.Ytejabkmhpiabnaa

/- AesBack out of the contracts of package aes. -/
namespace Go.Proofs.Ytejabkmhpiabnaa
open Go.RowKit
set_option linter.unusedSimpArgs false
attribute [local go_sem] YieldsP execOp
attribute [local simp] MP.eq_p
theorem bu_a16 : Try.prog.underlying 57 = some (.array 16 5) := by kernel_rfl
theorem binfo_a16 : (Try.prog.info? 57).map (·.size) = some 16 := by kernel_rfl
theorem guard_a16 : Try.prog.eqGuardType Try.prog.depth 57 = false := by kernel_rfl
end Go.Proofs.Ytejabkmhpiabnaa

/- An array of integers among the arguments: its value and its datum out of its reading, and its reading again in whatever world. Over any program. -/
namespace Go.Proofs.Ytejabkmhpiabnaa
open Go.ChangeShapes Go.WideShapes Go.ChangeAt Go.RowKit
section
variable {P : Program} {H : Type} {enc : TypeId × Value → H} {w : World} {base : Nat} {spare : Nat → Bool} {held : Bool}

theorem mapM_some {α β : Type} {f : α → Option β} {g : α → β} : ∀ l : List α, (∀ i ∈ l, f i = some (g i)) → l.mapM f = some (l.map g)
  | [], _ => by simp
  | i :: l, h => by
    have ih := mapM_some l (fun j hj => h j (by simp [hj]))
    simp [List.mapM_cons, h i (by simp), ih]

theorem take_one {α : Type} {l : List α} {i : Nat} {v : α} (h : (l.drop i).take 1 = [v]) : l[i]? = some v := by
  have := congrArg (fun m => m[0]?) h
  simpa using this

theorem trod_arr {t e : TypeId} {n fuel : Nat} {k : IntKind} {cs : List Value} {x : DataW H × List MemPlace} (ht : P.underlying t = some (.array n e)) (hu : P.underlying e = some (.int k)) (hce : P.cellsOf e = 1) (hct : P.cellsOf t = n)
    (h : DataW.trod enc P w base spare held fuel t cs = some x) :
    ∃ xs : List Int, xs.length = n ∧ cs = xs.map (Value.int k) ∧ x = (.agg (xs.map fun i => .lit (.int k i)), []) ∧ ∀ i ∈ xs, (Lit.int k i).wf = true := by
  obtain ⟨ys, m, _, hx, hl, hn, hall⟩ := DataW.trod_array ht h
  have each : ∀ i, ∃ z : Int, i < n → cs[i]? = some (.int k z) ∧ ys[i]? = some (.lit (.int k z), []) ∧ (Lit.int k z).wf = true := by
    intro i
    by_cases hi : i < n
    · have hy : ys[i]? = some ys[i] := by rw [List.getElem?_eq_getElem]
      have ht' := hall i hi
      rw [hce, Nat.mul_one, hy] at ht'
      obtain ⟨z, hc, he, hw⟩ := DataW.trod_int hu ht'
      exact ⟨z, fun _ => ⟨take_one hc, by rw [hy, he], hw⟩⟩
    · exact ⟨0, fun h => absurd h hi⟩
  obtain ⟨Z, hZ⟩ := Classical.skolem.1 each
  refine ⟨(List.range n).map Z, by simp, ?_, ?_, ?_⟩
  · apply List.ext_getElem?
    intro i
    by_cases hi : i < n
    · rw [(hZ i hi).1]; simp [hi]
    · rw [List.getElem?_eq_none (by omega), List.getElem?_eq_none (by simp; omega)]
  · have e1 : ys = ((List.range n).map fun i => (DataW.lit (Lit.int k (Z i)), ([] : List MemPlace))) := by
      apply List.ext_getElem?
      intro i
      by_cases hi : i < n
      · rw [(hZ i hi).2.1]; simp [hi]
      · rw [List.getElem?_eq_none (by omega), List.getElem?_eq_none (by simp; omega)]
    rw [hx, e1]
    simp [List.flatMap, Function.comp_def]
  · intro i hi
    simp at hi
    obtain ⟨j, hj, rfl⟩ := hi
    exact (hZ j hj).2.2

/-- An array of integers as an argument. -/
theorem open_arr {t e : TypeId} {n : Nat} {k : IntKind} {W : World} {b0 : Nat} {v : Value} {d : DataW H} {p : List MemPlace} (ht : P.underlying t = some (.array n e)) (hu : P.underlying e = some (.int k)) (hce : P.cellsOf e = 1) (hct : P.cellsOf t = n)
    (hv : Value.okWide P W .any b0 t v) (h : DataW.Trod enc P w base spare held t v d p) :
    ∃ xs : List Int, xs.length = n ∧ v = .agg (xs.map (Value.int k)).toArray ∧ d = .agg (xs.map fun i => .lit (.int k i)) ∧ p = [] ∧ ∀ i ∈ xs, (Lit.int k i).wf = true := by
  obtain ⟨cs, rfl, _, _⟩ : ∃ cs, v = .agg cs ∧ cs.size = P.cellsOf t ∧ Row.okWide P W .any b0 t cs := by
    simpa [Value.okWide, ht] using hv
  obtain ⟨fuel, hf⟩ := h
  obtain ⟨xs, h1, h2, h3, h4⟩ := trod_arr ht hu hce hct hf
  obtain ⟨cs⟩ := cs
  simp only [Value.cells] at h2
  simp only [Prod.mk.injEq] at h3
  exact ⟨xs, h1, by rw [h2], h3.1, h3.2, h4⟩

/-- It reads so again, in whatever world. -/
theorem shut_arr {t e : TypeId} {n : Nat} {k : IntKind} (ht : P.underlying t = some (.array n e)) (hu : P.underlying e = some (.int k)) (hce : P.cellsOf e = 1) (hct : P.cellsOf t = n)
    {xs : List Int} (hl : xs.length = n) (hwf : ∀ i ∈ xs, (Lit.int k i).wf = true) :
    DataW.Trod enc P w base spare held t (.agg (xs.map (Value.int k)).toArray) (.agg (xs.map fun i => .lit (.int k i))) [] := by
  refine ⟨2, ?_⟩
  unfold DataW.trod
  rw [ht]
  simp only [Value.cells, List.length_map, hl, hct, if_true]
  rw [mapM_some (g := fun i => (DataW.lit (Lit.int k (xs.getD i 0)), ([] : List MemPlace)))]
  · simp only [Option.map_some, List.map_map]
    have e1 : (List.range n).map (fun i => DataW.lit (H := H) (Lit.int k (xs.getD i 0))) = xs.map fun i => .lit (.int k i) := by
      apply List.ext_getElem?
      intro i
      by_cases hi : i < n
      · simp [hi, List.getElem?_eq_getElem (hl ▸ hi : i < xs.length)]
      · rw [List.getElem?_eq_none (by simp; omega), List.getElem?_eq_none (by simp; omega)]
    simp only [Function.comp_def, e1]
    simp [List.flatMap]
  · intro i hi
    have hi : i < xs.length := by rw [hl]; exact List.mem_range.1 hi
    have hd : ((xs.map (Value.int k)).drop (i * P.cellsOf e)).take (P.cellsOf e) = [.int k (xs.getD i 0)] := by
      rw [hce, Nat.mul_one, List.take_one, List.head?_drop]
      simp [hi]
    rw [hd]
    unfold DataW.trod
    rw [hu]
    have hw := hwf (xs.getD i 0) (by simp [List.getD, List.getElem?_eq_getElem hi])
    simpa using hw
end

/-- What is read of a uint64. -/
theorem word_of_wf {x : Int} (h : (Lit.int .u64 x).wf = true) : 0 ≤ x ∧ x < 18446744073709551616 := by
  simp [Lit.wf, IntKind.min, IntKind.max, IntKind.signed, IntKind.bits] at h
  exact ⟨by omega, by omega⟩
theorem byte_of_wf {x : Int} (h : (Lit.int .u8 x).wf = true) : 0 ≤ x ∧ x < 256 := by
  simp [Lit.wf, IntKind.min, IntKind.max, IntKind.signed, IntKind.bits] at h
  exact ⟨by omega, by omega⟩
theorem int_of_wf {x : Int} (h : (Lit.int .i64 x).wf = true) : -9223372036854775808 ≤ x ∧ x ≤ 9223372036854775807 := by
  simp [Lit.wf, IntKind.min, IntKind.max, IntKind.signed, IntKind.bits] at h
  exact ⟨by omega, by omega⟩
theorem list4 (l : List Int) (h : l.length = 4) : ∃ a b c d, l = [a, b, c, d] := by
  match l, h with
  | [a, b, c, d], _ => exact ⟨a, b, c, d, rfl⟩
theorem list8 (l : List Int) (h : l.length = 8) : ∃ a b c d e f g i, l = [a, b, c, d, e, f, g, i] := by
  match l, h with
  | [a, b, c, d, e, f, g, i], _ => exact ⟨a, b, c, d, e, f, g, i, rfl⟩
end Go.Proofs.Ytejabkmhpiabnaa

/- A slice of bytes among the arguments: what it holds, out of its reading; small closed facts that a row's proof asks for. -/
namespace Go.Proofs.Ytejabkmhpiabnaa
open Go.ChangeShapes Go.WideShapes Go.ChangeAt Go.RowKit Go.Deep
theorem Try.own : ownKnob Try.prog.godebug = none := by kernel_rfl
theorem Try.cellsU8 : Try.prog.cellsOf 5 = 1 := by kernel_rfl
theorem Try.cellsBytes : Try.prog.cellsOf 22 = 1 := by kernel_rfl
section
variable {H : Type} {enc : TypeId × Value → H} {w : World} {base : Nat} {spare : Nat → Bool} {held : Bool}
def lowB (xs : List Nat) : Prop := ∀ x ∈ xs, x < 256
theorem spotless {w : World} {a : Addr} {v : Value} (h : w.cell? a = some v) : a = ⟨a.block, a.off, none⟩ := by
  obtain ⟨b, o, s⟩ := a
  cases s with
  | none => rfl
  | some s =>
    unfold World.cell? at h
    split at h <;> simp at h
theorem by_of_trod {fuel : Nat} {u : Value} {x : DataW H × List MemPlace} (h : DataW.trod enc Try.prog w base spare held fuel 22 [u] = some x) : ∃ xs, lowB xs ∧ By w u xs ∧ xs.length ≤ maxLen := by
  rcases open_ints Try.uBytes Try.uU8 Try.cellsU8 h with ⟨hcs, hx⟩ | ⟨a, len, cap, zs, hcs, _, hl, hm, hz, hx, hcell, hwz⟩
  · obtain rfl : u = .slice none 0 0 := by simpa using hcs
    exact ⟨[], by simp [lowB], By.nil w, by simp⟩
  · obtain rfl : u = .slice (some a) len cap := by simpa using hcs
    have hle : len ≤ zs.length := by
      rw [hz]
      by_cases hs : spare a.block = true <;> simp [hs] <;> omega
    have hlen : ((zs.take len).map Int.toNat).length = len := by simp; omega
    refine ⟨(zs.take len).map Int.toNat, ?_, ⟨some a, cap, by rw [hlen], by rw [hlen]; exact hl, (fun h => by cases h), fun hp => ?_⟩, by rw [hlen]; omega⟩
    · intro y hy
      simp only [List.mem_map] at hy
      obtain ⟨z, hz1, rfl⟩ := hy
      have := byte_of_wf (hwz z (List.mem_of_mem_take hz1))
      omega
    · rw [hlen] at hp
      have h0 := hcell 0 (by omega)
      rw [Addr.add_zero'] at h0
      have hs := spotless h0
      refine ⟨a.block, a.off, congrArg some hs, fun j hj => ?_⟩
      rw [hlen] at hj
      have hc := hcell j (by omega)
      rw [hs, Addr.add_lit] at hc
      rw [hc]
      have hb := byte_of_wf (hwz (zs.getD j 0) (by rw [List.getD_eq_getElem?_getD, List.getElem?_eq_getElem (by omega)]; simp))
      have e : ((zs.take len).map Int.toNat).getD j 0 = (zs.getD j 0).toNat := by
        simp [List.getD_eq_getElem?_getD, hj, List.getElem?_eq_getElem (show j < zs.length by omega)]
      rw [e]
      simp only [b8]
      rw [show (((zs.getD j 0).toNat : Nat) : Int) = zs.getD j 0 by omega]
end
theorem Try.laidOut : laidOutB Try.prog = true := by kernel_rfl
end Go.Proofs.Ytejabkmhpiabnaa

/- Small closed facts that the rows of laws of blocks ask for. -/
namespace Go.Proofs.Ytejabkmhpiabnaa
open Go.RowKit
open Go.ChangeShapes Go.WideShapes Go.ChangeAt
set_option linter.unusedSimpArgs false
theorem Try.bytesU8 : Try.prog.bytesOf 5 = 1 := by kernel_rfl
theorem len_of_trod {H : Type} {enc : TypeId × Value → H} {w : World} {base : Nat} {spare : Nat → Bool} {held : Bool} {fuel n c : Nat} {a : Option Addr} {x : DataW H × List MemPlace} (h : DataW.trod enc Try.prog w base spare held fuel 22 [.slice a n c] = some x) : (x.1 = .nil ∧ n = 0) ∨ ∃ es sp, x.1 = .slice es sp ∧ es.length = n := by
  rcases open_ints Try.uBytes Try.uU8 Try.cellsU8 h with ⟨hcs, hx⟩ | ⟨a', len, cap, zs, hcs, _, hl, hm, hz, hx, hcell, hwz⟩
  · left
    simp only [List.cons.injEq, Value.slice.injEq, and_true] at hcs
    exact ⟨by rw [hx], hcs.2.1⟩
  · right
    simp only [List.cons.injEq, Value.slice.injEq, and_true] at hcs
    obtain ⟨_, rfl, rfl⟩ := hcs
    refine ⟨_, _, by rw [hx], ?_⟩
    simp only [lits, List.length_map, List.length_take, hz]
    split <;> omega
theorem cells_a16 : Try.prog.cellsOf 57 = 16 := by kernel_rfl
theorem an_of {x : Int} (h : 0 ≤ x) : ∃ n : Nat, x = (n : Int) := Int.eq_ofNat_of_zero_le h
theorem ans_of : ∀ (xs : List Int), (∀ z ∈ xs, 0 ≤ z ∧ z < 256) → ∃ l : List Nat, xs.map (Value.int .u8) = l.map b8 ∧ l.length = xs.length ∧ ∀ x ∈ l, x < 256
  | [], _ => ⟨[], rfl, rfl, by simp⟩
  | z :: xs, h => by
    obtain ⟨l, e, hl, low⟩ := ans_of xs (fun y hy => h y (by simp [hy]))
    obtain ⟨h0, h1⟩ := h z (by simp)
    obtain ⟨n, rfl⟩ := an_of h0
    refine ⟨n :: l, by simp [e], by simp [hl], ?_⟩
    intro x hx
    rcases List.mem_cons.1 hx with rfl | hx
    · omega
    · exact low x hx
end Go.Proofs.Ytejabkmhpiabnaa
