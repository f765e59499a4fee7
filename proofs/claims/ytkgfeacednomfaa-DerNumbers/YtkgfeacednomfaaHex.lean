/- The contracts of der.Hex, strings.IndexByte at the digits, and der.ReadHex. -/
import Derived.Test.YtkgfeacednomfaaBsMk
import Derived.Test.YtkgfeacednomfaaDerRd
import Derived.Lib.Bytealg
namespace Go.Proofs.Ytkgfeacednomfaa
open Go.RowKit
set_option linter.unusedSimpArgs false
/-- The sign of a half. -/
def hexd (n : Nat) : Nat := if n < 10 then 48 + n else 87 + n
def hexS (b : List Nat) : List Nat := b.flatMap fun x => [hexd (x / 16), hexd (x % 16)]
theorem hexS_len : ∀ b : List Nat, (hexS b).length = 2 * b.length
  | [] => rfl
  | x :: b => by
    have := hexS_len b
    simp only [hexS, List.flatMap_cons, List.length_append, List.length_cons, List.length_nil] at this ⊢
    omega
theorem hexS_take_succ {b : List Nat} {k x : Nat} (h : b[k]? = some x) : hexS (b.take (k + 1)) = hexS (b.take k) ++ [hexd (x / 16), hexd (x % 16)] := by
  have : b.take (k + 1) = b.take k ++ [x] := by rw [List.take_add_one, h]; rfl
  rw [this]
  simp [hexS]
abbrev digs : ByteArray := ⟨#[48, 49, 50, 51, 52, 53, 54, 55, 56, 57, 97, 98, 99, 100, 101, 102]⟩
theorem digs_get (n : Nat) (h : n < digs.size) : (digs[n]'h).toNat = hexd n := by
  have hn : n < 16 := h
  match n, hn with
  | 0, _ => rfl
  | 1, _ => rfl
  | 2, _ => rfl
  | 3, _ => rfl
  | 4, _ => rfl
  | 5, _ => rfl
  | 6, _ => rfl
  | 7, _ => rfl
  | 8, _ => rfl
  | 9, _ => rfl
  | 10, _ => rfl
  | 11, _ => rfl
  | 12, _ => rfl
  | 13, _ => rfl
  | 14, _ => rfl
  | 15, _ => rfl
  | n + 16, hn => omega
theorem and15 : ∀ x : Fin 256, bits .and .u8 (x.val : Int) 15 = ((x.val % 16 : Nat) : Int) := by decide +kernel
/-- append of two bytes within the capacity, as one step of a region that draws. -/
theorem step_fits {ops : Array Oper} {o : Oper} {a : Act} {w : World} {K : Act → World → Prop} {Q : Exit → Act → World → Prop} {E : Prop}
    (hg : o.guard = none) (s x : Operand) (hop : o.op = Op.call { callee := Callee.builtin Builtin.append, args := #[s, x], argTypes := #[57, 57] })
    (B g k cap : Nat) (xs : List Nat) (y z : Nat) (b2 : Nat) (hs : a.eval s = .slice (some ⟨g, 0, none⟩) k cap) (hown : w.ownsRow B 5 1 (.slice (some ⟨g, 0, none⟩) k cap) k (xs.map b8))
    (hx : a.eval x = .slice (some ⟨b2, 0, none⟩) 2 2) (h0 : w.cell? ⟨b2, 0, none⟩ = some (b8 y)) (h1 : w.cell? ⟨b2, 1, none⟩ = some (b8 z)) (hroom : k + 2 ≤ cap)
    (hK : ∀ w', w'.ownsRow B 5 1 (.slice (some ⟨g, 0, none⟩) (k + 2) cap) (k + 2) ((xs ++ [y, z]).map b8) → w.grownBy w' (some g) → K (a.put o.dst (.slice (some ⟨g, 0, none⟩) (k + 2) cap)) w') :
    if Region.wanted o (yielded ops a.tmps) = true then Oper.wp Try.prog o a w K Q else E := by
  have hw : Region.wanted o (yielded ops a.tmps) = true := by simp [Region.wanted, hg]
  rw [if_pos hw]
  obtain ⟨i0, hi, hz0, hz1, hz2⟩ := info_parts Try.iU8
  obtain ⟨w', hrun, r1, r2⟩ := run_append_fits (P := Try.prog) w B 57 o.type 5 i0 1 Try.uBytes hi hz1 g k cap (xs.map b8) hown ⟨b2, 0, none⟩ 2 2 [b8 y, b8 z] rfl (fun j u hj => by
    match j, hj with
    | 0, hj =>
      obtain rfl : b8 y = u := by simpa using hj
      rw [Addr.add_zero']; exact h0
    | 1, hj =>
      obtain rfl : b8 z = u := by simpa using hj
      rw [Addr.add_lit]; exact h1
    | j + 2, hj => simp at hj) (fun u hu => by
      simp only [List.mem_cons, List.not_mem_nil, or_false] at hu
      rcases hu with rfl | rfl <;> rfl) hroom
  unfold Oper.wp
  simp [execOp, hop, resolve, invoke, builtin, hs, hx, hrun, Result.andThen]
  exact hK w' (by rw [List.map_append]; exact r1) r2
set_option maxRecDepth 20000 in
set_option maxHeartbeats 1000000 in
theorem hex_some (bk o c : Nat) (b : List Nat) (low : ∀ x ∈ b, x < 256) (hl : b.length ≤ 140737488351232) (w : World) (h : ∀ j, j < b.length → w.cell? ⟨bk, o + j, none⟩ = some (b8 (b.getD j 0))) :
    Calls Try.prog 53 #[.slice (some ⟨bk, o, none⟩) b.length c] w fun e w' => e = .returned (.string (sOf (hexS b))) ∧ Below w.heap.size w w' := by
  have HC : Hid _ := h
  have LO : Hid (∀ x ∈ b, x < 256) := low
  clear h low
  have n0 : (0 : Int) ≤ (b.length : Int) := by omega
  have n1 : (b.length : Int) ≤ 140737488351232 := by omega
  obtain ⟨i0, hi, hz0, hz1, hz2⟩ := info_parts Try.iU8
  go_enter Try.func53, Try.ntmps53
  go_wp2_with (at_make; refine wpList_make_own w rfl _ _ 57 rfl w.heap.size 5 i0 (.int .u8 0) 1 Try.uBytes hi hz0 hz1 .i64 .i64 _ (2 * b.length) rfl rfl (by omega) (by rw [hz2]; omega) (by unfold maxLen; omega) (Nat.le_refl _) ?_)
  intro w1 o1 g1
  have O1 : Hid (w1.ownsRow w.heap.size 5 1 (.slice (some ⟨w.heap.size, 0, none⟩) 0 (2 * b.length)) 0 []) := o1
  have B1 : Hid (Below w.heap.size w w1) := Below.grown (Below.refl _ _) g1 (Nat.le_refl _) (fun k hk => by cases hk)
  clear o1 g1
  go_wp2_with fail
  go_loopw [3, 12] (fun s i wr => ∃ (k : Nat), k ≤ b.length ∧ i = .int .i64 k ∧ s = .slice (some ⟨w.heap.size, 0, none⟩) (2 * k) (2 * b.length) ∧ Hid (wr.ownsRow w.heap.size 5 1 (.slice (some ⟨w.heap.size, 0, none⟩) (2 * k) (2 * b.length)) (2 * k) ((hexS (b.take k)).map b8)) ∧ Hid (Below w.heap.size w wr)) (fun _ i _ => b.length - (intOf i).toNat)
  case atStart => exact ⟨0, by omega, rfl, rfl, O1, B1⟩
  case round =>
    clear O1 B1
    obtain ⟨k, hk, rfl, rfl, ho, hb⟩ := hrel
    by_cases h1 : k < b.length
    · have i1 : (k : Int) < (b.length : Int) := by omega
      obtain ⟨x, hx⟩ : ∃ x, b[k]? = some x := ⟨b[k], by simp [h1]⟩
      have c1 := HC.out k h1
      rw [List.getD_eq_getElem?_getD, hx] at c1
      replace c1 : w.cell? ⟨bk, o + k, none⟩ = some (b8 x) := c1
      have c2 := (hb.out.cell (p := ⟨bk, _, none⟩) (lt_of_cellB c1)).trans c1
      have x1 := LO.out x (List.mem_of_getElem? hx)
      have HS : Hid _ := hexS_take_succ hx
      have x0 : (0 : Int) ≤ (x : Int) := by omega
      have x2 : (x : Int) < 256 := by omega
      have xa := and15 ⟨x, x1⟩
      simp only at xa
      obtain ⟨y, hy⟩ : ∃ y, y = x / 16 := ⟨_, rfl⟩
      obtain ⟨z, hz⟩ : ∃ z, z = x % 16 := ⟨_, rfl⟩
      rw [← hz] at xa
      rw [← hy, ← hz] at HS
      have xy : (x : Int) / 16 = (y : Int) := by omega
      have xz : (x : Int) % 16 = (z : Int) := by omega
      have g1 : ∀ h, (digs[y]'h).toNat = hexd y := digs_get y
      have g2 : ∀ h, (digs[z]'h).toNat = hexd z := digs_get z
      have s1 : y < 16 := by omega
      have s2 : z < 16 := by omega
      have s3 : (y : Int) < 16 := by omega
      have s4 : (z : Int) < 16 := by omega
      have s5 : (0 : Int) ≤ (y : Int) := by omega
      have s6 : (0 : Int) ≤ (z : Int) := by omega
      clear c1 hx hy hz x1
      go_wp2_with fail
      go_region_law (refine step_fits rfl (.tmp 16) (.tmp 23) rfl w.heap.size w.heap.size (2 * k) (2 * b.length) (hexS (b.take k)) (hexd y) (hexd z) wr.heap.size rfl (own_up ho.out (((Below.refl _ _).drew).alloc (Nat.le_refl _) _)) rfl (by simp [b8]) (by simp [b8]) (by omega) ?_; intro w3 o3 g3)
      all_goals
        have O3 : Hid _ := o3
        have B3 : Hid (Below w.heap.size w w3) := hb.out.trans (Below.grown (((Below.refl _ _).drew).alloc (by have := hb.out.size; simp; omega) _) g3 (by have := hb.out.size; simp; omega) (fun q hq => by cases hq; exact Nat.le_refl _))
        clear o3 g3 g1 g2 xa xy xz c2 ho
        go_wp2_with fail
        go_roundw
        case rel =>
          refine ⟨k + 1, by omega, by go_num, by rw [show 2 * (k + 1) = 2 * k + 2 by omega], ?_, B3⟩
          rw [HS.out, show 2 * (k + 1) = 2 * k + 2 by omega]
          exact O3
        case measure => simp [intOf]; omega
    · have i1 : ¬ (k : Int) < (b.length : Int) := by omega
      have e : k = b.length := by omega
      subst e
      have E : Hid (b.take b.length = b) := List.take_length
      rw [E.out] at ho
      have OB : Hid (Ob wr w.heap.size (.slice (some ⟨w.heap.size, 0, none⟩) (2 * b.length) (2 * b.length)) (hexS b)) := by
        have := ho.out
        show wr.ownsRow w.heap.size 5 1 _ (hexS b).length ((hexS b).map b8)
        rw [hexS_len]
        exact this
      go_wp2_with (refine wp_conv rfl (.tmp 26) rfl _ (hexS b) rfl OB.out.by ?_)
      go_ret
      exact ⟨rfl, hb.out⟩
set_option maxHeartbeats 1000000 in
theorem hex_none (a : Option Addr) (c : Nat) (w : World) :
    Calls Try.prog 53 #[.slice a 0 c] w fun e w' => e = .returned (.string (sOf (hexS []))) ∧ Below w.heap.size w w' := by
  obtain ⟨i0, hi, hz0, hz1, hz2⟩ := info_parts Try.iU8
  go_enter Try.func53, Try.ntmps53
  go_wp2_with (at_make; refine wpList_make_own w rfl _ _ 57 rfl w.heap.size 5 i0 (.int .u8 0) 1 Try.uBytes hi hz0 hz1 .i64 .i64 _ 0 rfl rfl (by omega) (by omega) (by unfold maxLen; omega) (Nat.le_refl _) ?_)
  intro w1 o1 g1
  have OB : Hid (Ob w1 w.heap.size (.slice (some ⟨w.heap.size, 0, none⟩) 0 0) []) := o1
  have B1 : Hid (Below w.heap.size w w1) := Below.grown (Below.refl _ _) g1 (Nat.le_refl _) (fun k hk => by cases hk)
  clear o1 g1
  go_wp2_with fail
  refine wp_loop_rounds 1 ?_
  rw [rounds_succ]
  go_wp2_with (refine wp_conv rfl (.tmp 26) rfl _ [] rfl OB.out.by ?_)
  go_ret
  exact ⟨rfl, B1.out⟩
theorem hex_fun (v : Value) (b : List Nat) (low : ∀ x ∈ b, x < 256) (hl : b.length ≤ 140737488351232) (w : World) (h : By w v b) :
    Calls Try.prog 53 #[v] w fun e w' => e = .returned (.string (sOf (hexS b))) ∧ Below w.heap.size w w' := by
  obtain ⟨a, c, rfl, hc, _, h3⟩ := h
  cases b with
  | nil => exact hex_none a c w
  | cons x b =>
    obtain ⟨bk, o, rfl, hcell⟩ := h3 (by simp)
    exact hex_some bk o c (x :: b) low hl w hcell
/-- What a sign stands for; -1: nothing. -/
def hexV (c : Nat) : Int := if 48 ≤ c ∧ c ≤ 57 then c - 48 else if 97 ≤ c ∧ c ≤ 102 then c - 87 else -1
theorem digs_index : ∀ c : Fin 256, Lib.indexByte digs.data.toList (c.val : Int).toNat.toUInt8 = hexV c.val := by decide +kernel
set_option maxHeartbeats 1000000 in
theorem index0_fun (c : Nat) (hc : c < 256) (w : World) :
    Calls Try.prog 83 #[.string digs, .int .u8 (c : Int)] w fun e w' => e = .returned (.int .i64 (hexV c)) ∧ w' = w := by
  have HD : Hid _ := digs_index ⟨c, hc⟩
  go_enter Try.func83, Try.ntmps83
  go_wp2_with fail
  rw [run_callFunc_extern Try.func87 (by kernel_rfl) (by kernel_rfl) (by kernel_rfl) (e := Extern.BytealgIndexByte.indexByte) (by kernel_rfl), Lib.run_indexByteString]
  simp only [Result.andThen]
  rw [Oper.upon_value]
  have e : Lib.indexByte digs.data.toList (c : Int).toNat.toUInt8 = hexV c := HD.out
  rw [e]
  go_wp2_with fail
  go_ret
  exact ⟨rfl, rfl⟩
set_option maxHeartbeats 1000000 in
theorem index_fun (c : Nat) (hc : c < 256) (w : World) :
    Calls Try.prog 77 #[.string digs, .int .u8 (c : Int)] w fun e w' => e = .returned (.int .i64 (hexV c)) ∧ w' = w := by
  go_enter Try.func77, Try.ntmps77
  go_wp2_with fail
  refine (index0_fun c hc w).mono ?_
  rintro e w' ⟨rfl, hw⟩
  have hw2 := hw.symm
  subst hw2
  clear hw
  go_wp2_with fail
  go_ret
  exact ⟨rfl, rfl⟩
theorem hexV_hexd {n : Nat} (h : n < 16) : hexV (hexd n) = (n : Int) := by
  unfold hexV hexd
  by_cases h1 : n < 10
  · rw [if_pos h1, if_pos (by omega)]; omega
  · rw [if_neg h1, if_neg (by omega), if_pos (by omega)]; omega
theorem hexd_hexV {c : Nat} (h : 0 ≤ hexV c) : ∃ p : Nat, hexV c = (p : Int) ∧ p < 16 ∧ hexd p = c := by
  unfold hexV at h ⊢
  by_cases h1 : 48 ≤ c ∧ c ≤ 57
  · rw [if_pos h1]
    refine ⟨c - 48, by omega, by omega, ?_⟩
    unfold hexd
    rw [if_pos (by omega)]
    omega
  · rw [if_neg h1] at h ⊢
    by_cases h2 : 97 ≤ c ∧ c ≤ 102
    · rw [if_pos h2]
      refine ⟨c - 87, by omega, by omega, ?_⟩
      unfold hexd
      rw [if_neg (by omega)]
      omega
    · rw [if_neg h2] at h
      omega
theorem hexV_le (c : Nat) : -1 ≤ hexV c ∧ hexV c ≤ 15 := by
  unfold hexV
  split
  · omega
  · split <;> omega
theorem hexS_get : ∀ (b : List Nat) (j x : Nat), b[j]? = some x → (hexS b)[2 * j]? = some (hexd (x / 16)) ∧ (hexS b)[2 * j + 1]? = some (hexd (x % 16))
  | [], j, x, h => by simp at h
  | q :: b, 0, x, h => by
    obtain rfl : q = x := by simpa using h
    exact ⟨rfl, rfl⟩
  | q :: b, j + 1, x, h => by
    have := hexS_get b j x (by simpa using h)
    rw [show 2 * (j + 1) = 2 * j + 2 by omega]
    exact ⟨this.1, this.2⟩
theorem hexS_inj {xs ys : List Nat} (hx : ∀ x ∈ xs, x < 256) (hy : ∀ y ∈ ys, y < 256) (h : hexS xs = hexS ys) : xs = ys := by
  have hl := congrArg List.length h
  rw [hexS_len, hexS_len] at hl
  apply List.ext_getElem (by omega)
  intro j h1 h2
  have e1 := hexS_get xs j _ (List.getElem?_eq_getElem h1)
  have e2 := hexS_get ys j _ (List.getElem?_eq_getElem h2)
  rw [h, e2.1, e2.2] at e1
  have a1 := congrArg hexV (Option.some.inj e1.1)
  have a2 := congrArg hexV (Option.some.inj e1.2)
  have l1 := hx _ (List.getElem_mem h1)
  have l2 := hy _ (List.getElem_mem h2)
  rw [hexV_hexd (by omega), hexV_hexd (by omega)] at a1 a2
  omega
theorem hexS_low {xs : List Nat} (hx : ∀ x ∈ xs, x < 256) : ∀ y ∈ hexS xs, y < 256 := by
  intro y hy
  simp only [hexS, List.mem_flatMap, List.mem_cons, List.not_mem_nil, or_false] at hy
  obtain ⟨x, h, hy⟩ := hy
  have := hx x h
  rcases hy with rfl | rfl <;> (unfold hexd; split <;> omega)
theorem hexS_of {bs cs : List Nat} (hl : cs.length = 2 * bs.length) (h : ∀ j, j < bs.length → hexd (bs.getD j 0 / 16) = cs.getD (2 * j) 0 ∧ hexd (bs.getD j 0 % 16) = cs.getD (2 * j + 1) 0) : hexS bs = cs := by
  apply List.ext_getElem (by rw [hexS_len]; omega)
  intro i h1 h2
  rw [hexS_len] at h1
  have hj : i / 2 < bs.length := by omega
  have e := hexS_get bs (i / 2) _ (List.getElem?_eq_getElem hj)
  have hh := h (i / 2) hj
  rw [List.getD_eq_getElem?_getD, List.getElem?_eq_getElem hj, Option.getD_some] at hh
  apply Option.some.inj
  rw [← List.getElem?_eq_getElem, ← List.getElem?_eq_getElem]
  rcases Nat.mod_two_eq_zero_or_one i with hm | hm
  · have ei : i = 2 * (i / 2) := by omega
    rw [← ei] at e hh
    rw [e.1, hh.1, List.getD_eq_getElem?_getD, List.getElem?_eq_getElem h2]
    rfl
  · have ei : i = 2 * (i / 2) + 1 := by omega
    rw [← ei] at e hh
    rw [e.2, hh.2, List.getD_eq_getElem?_getD, List.getElem?_eq_getElem h2]
    rfl
end Go.Proofs.Ytkgfeacednomfaa
