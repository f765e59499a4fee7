/- Texts that were joined: SGet, HRd. -/
import Derived.Test.YtfknkfninjjgbaaGreatDoorQBKToCpy
import Derived.Test.YtfknkfninjjgbaaGreatDoorQBsMkToHWrite
/- The bytes of a text. -/
namespace Go.Proofs.YtfknkfninjjgbaaGreatDoor
theorem sOf_get {b : List Nat} (low : ∀ x ∈ b, x < 256) (j : Nat) (h : j < (sOf b).size) : ((sOf b)[j]'h).toNat = b.getD j 0 := by
 have hj : j < b.length := by rw [sOf_size] at h; exact h
 have e : (sOf b)[j]'h = UInt8.ofNat b[j] := by
  simp [sOf, ByteArray.getElem_eq_getElem_data]
 rw [e, UInt8.toNat_ofNat', Nat.mod_eq_of_lt (low _ (List.getElem_mem hj)), List.getD_eq_getElem?_getD, List.getElem?_eq_getElem hj]
 rfl
end Go.Proofs.YtfknkfninjjgbaaGreatDoor

/- Slices of words of 32 bits: what one holds; rows of such that a call made. -/
namespace Go.Proofs.YtfknkfninjjgbaaGreatDoor
open Go.RowKit
set_option linter.unusedSimpArgs false
theorem uU32s : Tryz.prog.underlying 97 = some (.slice 44) := by kernel_rfl
theorem iU32 : (Tryz.prog.info? 44).map (fun i => (i.zero, i.size, i.bytes)) = some (some (.int .u32 0), 1, 4) := by kernel_rfl
/-- The slice v holds the words ws. -/
def Wy (w : World) (v : Value) (ws : List (BitVec 32)) : Prop :=
 ∃ a c, v = .slice a ws.length c ∧ (0 < ws.length → ∃ b o, a = some ⟨b, o, none⟩ ∧ ∀ j, j < ws.length → w.cell? ⟨b, o + j, none⟩ = some (uw (ws.getD j 0)))
theorem Wy.up {W w1 : World} {v : Value} {xs : List (BitVec 32)} {B : Nat} (h : Wy W v xs) (hb : Below B W w1) (hB : W.heap.size ≤ B) : Wy w1 v xs := by
 obtain ⟨a, c, e, h3⟩ := h
 refine ⟨a, c, e, fun hp => ?_⟩
 obtain ⟨b, o, e2, hc⟩ := h3 hp
 exact ⟨b, o, e2, fun j hj => (hb.cell (p := ⟨b, o + j, none⟩) (Nat.lt_of_lt_of_le (lt_of_cellB (hc j hj)) hB)).trans (hc j hj)⟩
/-- Eight words in a slice: where they lie. -/
theorem Wy.eight {w : World} {v : Value} {H : R8} (h : Wy w v H.list) : ∃ b o c, v = .slice (some ⟨b, o, none⟩) 8 c ∧ w.cell? ⟨b, o, none⟩ = some (uw H.a) ∧ w.cell? ⟨b, o + 1, none⟩ = some (uw H.b) ∧ w.cell? ⟨b, o + 2, none⟩ = some (uw H.c) ∧ w.cell? ⟨b, o + 3, none⟩ = some (uw H.d) ∧ w.cell? ⟨b, o + 4, none⟩ = some (uw H.e) ∧ w.cell? ⟨b, o + 5, none⟩ = some (uw H.f) ∧ w.cell? ⟨b, o + 6, none⟩ = some (uw H.g) ∧ w.cell? ⟨b, o + 7, none⟩ = some (uw H.h) := by
 obtain ⟨a, c, rfl, h3⟩ := h
 obtain ⟨b, o, rfl, hc⟩ := h3 (by simp [R8.list])
 exact ⟨b, o, c, rfl, hc 0 (by simp [R8.list]), hc 1 (by simp [R8.list]), hc 2 (by simp [R8.list]), hc 3 (by simp [R8.list]), hc 4 (by simp [R8.list]), hc 5 (by simp [R8.list]), hc 6 (by simp [R8.list]), hc 7 (by simp [R8.list])⟩
theorem Wy.of_blk {w : World} {k : Nat} {ws : List (BitVec 32)} (h : Blk w k (ws.map uw)) {c : Nat} : Wy w (.slice (some ⟨k, 0, none⟩) ws.length c) ws :=
 ⟨_, c, rfl, fun _ => ⟨k, 0, rfl, fun j hj => h.cell _ _ (by simp [List.getD_eq_getElem?_getD, hj])⟩⟩
/-- The slice v is a row of words that the call made. -/
def Ww (w : World) (B : Nat) (v : Value) (ws : List (BitVec 32)) : Prop := w.ownsRow B 44 1 v ws.length (ws.map uw)
theorem Ww.nil (w : World) (B : Nat) : Ww w B (.slice none 0 0) [] := World.ownsRow_nil _ _ _ _
theorem Ww.up {W w1 : World} {B : Nat} {v : Value} {xs : List (BitVec 32)} (h : Ww W B v xs) (hb : Below W.heap.size W w1) : Ww w1 B v xs := by
 refine ⟨h.1, ?_⟩
 rcases h.2 with h' | ⟨g, cap, cur, e, hB, hg, rest⟩
 ·exact .inl h'
 ·exact .inr ⟨g, cap, cur, e, hB, (hb.block g (Array.getElem?_eq_some_iff.1 hg).1).trans hg, rest⟩
theorem Ww.form {w : World} {B : Nat} {v : Value} {xs : List (BitVec 32)} (h : Ww w B v xs) (hp : 0 < xs.length) : ∃ g c, v = .slice (some ⟨g, 0, none⟩) xs.length c ∧ B ≤ g ∧ ∀ j, j < xs.length → w.cell? ⟨g, j, none⟩ = some (uw (xs.getD j 0)) := by
 rcases h.2 with ⟨e, e2⟩ | ⟨g, cap, cur, e, hB, hg, hn, rest⟩
 ·omega
 ·refine ⟨g, cap, e, hB, fun j hj => ?_⟩
  have h2 : w.ownsRow B 44 1 (.slice (some ⟨g, 0, none⟩) xs.length cap) xs.length (xs.map uw) := by rw [← e]; exact h
  rw [h2.cellAt j (by omega)]
  simp [List.getD_eq_getElem?_getD, hj]
theorem Ww.wy {w : World} {B : Nat} {v : Value} {xs : List (BitVec 32)} (h : Ww w B v xs) : Wy w v xs := by
 rcases Nat.eq_zero_or_pos xs.length with h0 | h0
 ·rcases h.2 with ⟨e, e2⟩ | ⟨g, cap, cur, e, _⟩
  ·exact ⟨none, 0, by rw [e, h0], fun hp => by omega⟩
  ·exact ⟨_, cap, e, fun hp => by omega⟩
 ·obtain ⟨g, c, e, _, hc⟩ := h.form h0
  exact ⟨_, c, e, fun _ => ⟨g, 0, rfl, fun j hj => by rw [Nat.zero_add]; exact hc j hj⟩⟩
/-- A slice that has room and holds nothing yet. -/
theorem wp_mkW {ops : Array Oper} {rest : List Oper} {o : Oper} {a : Act} {Q : Exit → Act → World → Prop} {w : World} (hg : o.guard = none) (l c : Operand) (hop : o.op = Op.makeSlice 97 l c)
  (hl : a.eval l = .int .i64 0) (hc : a.eval c = .int .i64 64)
  (h : ∀ v w', Ww w' w.heap.size v [] → Below w.heap.size w w' → wpList Tryz.prog ops Q rest (a.put o.dst v) w') : wpList Tryz.prog ops Q (o :: rest) a w := by
 obtain ⟨i0, hi, hz0, hz1, hz2⟩ := info_parts iU32
 obtain ⟨w', e, r1, r2⟩ := run_make_own (P := Tryz.prog) w w.heap.size 97 44 i0 (.int .u32 0) 1 uU32s hi hz0 hz1 .i64 .i64 64 (by rw [hz2]; decide) (by unfold maxLen; decide) (Nat.le_refl _)
 refine wpList_plain hg fun K hK => ?_
 have e' : (Instr.makeSlice 97 (.int .i64 0) (.int .i64 64)).run Tryz.prog w = .ok (.slice (some ⟨w.heap.size, 0, none⟩) 0 64) w' := e
 unfold Oper.wp
 simp only [execOp, hop, hl, hc, Sem.run_bind, e', Result.andThen_ok, Sem.run_pure]
 exact hK _ _ (h _ _ r1 (Below.grown (Below.refl _ _) r2 (Nat.le_refl _) (fun k hk => by cases hk)))
/-- append of one word, built on the spot. -/
theorem wp_appW {ops : Array Oper} {rest : List Oper} {o : Oper} {a : Act} {Q : Exit → Act → World → Prop} {w : World} (hgd : o.guard = none) (s x : Operand)
  (ho : o.op = .call { callee := .builtin .append, args := #[s, x], argTypes := #[97, 97] })
  (B : Nat) (v : Value) (xs : List (BitVec 32)) (W0 : World) (k : Nat) (y : BitVec 32) (hs : a.eval s = v) (hown : Ww W0 B v xs) (hup : Below W0.heap.size W0 w) (hx : a.eval x = .slice (some ⟨k, 0, none⟩) 1 1) (hy : w.cell? ⟨k, 0, none⟩ = some (uw y))
  (hl : xs.length ≤ 64) (hB : B ≤ W0.heap.size) (h : ∀ v' w', Ww w' B v' (xs ++ [y]) → Below B W0 w' → wpList Tryz.prog ops Q rest (a.put o.dst v') w') : wpList Tryz.prog ops Q (o :: rest) a w := by
 obtain ⟨i0, hi, hz0, hz1, hz2⟩ := info_parts iU32
 have hs0 := hup.size
 refine wpList_append_own w hgd s x 97 ho B 44 i0 (.int .u32 0) 1 4 uU32s hi hz0 hz1 hz2 rfl (by decide) v xs.length (xs.map uw) hs (hown.up hup) ⟨k, 0, none⟩ 1 1 [uw y] hx rfl ?_ ?_ ?_ ?_ ?_ ?_
 ·intro j u hj
  match j, hj with
  | 0, hj =>
   simp at hj
   subst hj
   rw [Addr.add_lit]
   exact hy
 ·intro u hu
  rw [List.mem_singleton.1 hu]; rfl
 ·unfold maxLen; omega
 ·omega
 ·omega
 ·intro v' w' hown' hg _
  refine h v' w' ?_ ?_
  ·unfold Ww
   rw [List.length_append, List.map_append]
   exact hown'
  ·refine Below.grown (hup.mono hB) hg (by omega) fun k hk => ?_
   exact ((hown.up hup).lt k hk).1
end Go.Proofs.YtfknkfninjjgbaaGreatDoor
