/- The contract of mac.Same: true just where both are the same bytes. -/
import Derived.Test.YtejabkmhpiabnaaBs
namespace Go.Proofs.Ytejabkmhpiabnaa
open Go.RowKit
set_option linter.unusedSimpArgs false
theorem wrap8 (n : Nat) (h : n < 256) : IntKind.u8.wrap (n : Int) = n := by
  simp only [IntKind.wrap, IntKind.bits, IntKind.signed]
  simp
  omega
theorem of8 (x : Nat) (h : x < 256) : (BitVec.ofInt 8 (x : Int)).toNat = x := by
  rw [BitVec.toNat_ofInt]
  omega
theorem xor_lt {x y : Nat} (hx : x < 256) (hy : y < 256) : x ^^^ y < 256 := Nat.xor_lt_two_pow (n := 8) hx hy
theorem or_lt {x y : Nat} (hx : x < 256) (hy : y < 256) : x ||| y < 256 := Nat.or_lt_two_pow (n := 8) hx hy
theorem b_xor {x y : Nat} (hx : x < 256) (hy : y < 256) : bits .xor .u8 (x : Int) (y : Int) = ((x ^^^ y : Nat) : Int) := by
  show IntKind.u8.wrap (((BitVec.ofInt 8 (x : Int) ^^^ BitVec.ofInt 8 (y : Int)).toNat : Nat) : Int) = _
  rw [BitVec.toNat_xor, of8 _ hx, of8 _ hy]
  exact wrap8 _ (xor_lt hx hy)
theorem b_or {x y : Nat} (hx : x < 256) (hy : y < 256) : bits .or .u8 (x : Int) (y : Int) = ((x ||| y : Nat) : Int) := by
  show IntKind.u8.wrap (((BitVec.ofInt 8 (x : Int) ||| BitVec.ofInt 8 (y : Int)).toNat : Nat) : Int) = _
  rw [BitVec.toNat_or, of8 _ hx, of8 _ hy]
  exact wrap8 _ (or_lt hx hy)
/-- Where the first k bytes of both part. -/
def apS (xs ys : List Nat) : Nat → Nat
  | 0 => 0
  | k + 1 => apS xs ys k ||| (xs.getD k 0 ^^^ ys.getD k 0)
theorem getD_low {xs : List Nat} (h : ∀ x ∈ xs, x < 256) (k : Nat) : xs.getD k 0 < 256 := by
  rw [List.getD_eq_getElem?_getD]
  cases e : xs[k]? with
  | none => simp
  | some x => exact h x (List.mem_of_getElem? e)
theorem apS_lt {xs ys : List Nat} (hx : ∀ x ∈ xs, x < 256) (hy : ∀ x ∈ ys, x < 256) : ∀ k, apS xs ys k < 256
  | 0 => by simp [apS]
  | k + 1 => or_lt (apS_lt hx hy k) (xor_lt (getD_low hx k) (getD_low hy k))
theorem xor_zero {x y : Nat} : x ^^^ y = 0 ↔ x = y := by
  constructor
  · intro h
    apply Nat.eq_of_testBit_eq
    intro i
    have := congrArg (·.testBit i) h
    simpa using this
  · rintro rfl; simp
theorem or_zero {x y : Nat} : x ||| y = 0 ↔ x = 0 ∧ y = 0 := by
  constructor
  · intro h
    have hb : ∀ i, (x ||| y).testBit i = false := fun i => by rw [h]; simp
    constructor <;>
    · apply Nat.eq_of_testBit_eq
      intro i
      have := hb i
      simp at this
      simp [this]
  · rintro ⟨rfl, rfl⟩; simp
theorem apS_zero (xs ys : List Nat) : ∀ k, apS xs ys k = 0 ↔ ∀ j, j < k → xs.getD j 0 = ys.getD j 0
  | 0 => by simp [apS]
  | k + 1 => by
    rw [apS, or_zero, apS_zero xs ys k, xor_zero]
    constructor
    · rintro ⟨h1, h2⟩ j hj
      rcases Nat.lt_or_ge j k with h | h
      · exact h1 j h
      · rw [show j = k by omega]; exact h2
    · exact fun h => ⟨fun j hj => h j (by omega), h k (by omega)⟩
theorem ext_getD {xs ys : List Nat} (hl : xs.length = ys.length) (h : ∀ j, j < xs.length → xs.getD j 0 = ys.getD j 0) : xs = ys := by
  apply List.ext_getElem hl
  intro j h1 h2
  have := h j h1
  simpa [List.getD_eq_getElem?_getD, h1, h2] using this
theorem apS_all (xs ys : List Nat) (hl : xs.length = ys.length) (m : Nat) (hm : m = xs.length) : apS xs ys m = 0 ↔ xs = ys := by
  subst hm
  rw [apS_zero]
  exact ⟨ext_getD hl, fun h j _ => by rw [h]⟩
theorem same_end (xs ys : List Nat) (m : Nat) (h3 : m = xs.length ∨ m = ys.length) : (decide (apS xs ys m = 0) && decide (xs.length = ys.length)) = decide (xs = ys) := by
  by_cases hl : xs.length = ys.length
  · rw [decide_eq_true hl, Bool.and_true]
    exact decide_eq_decide.2 (apS_all xs ys hl m (by omega))
  · rw [decide_eq_false hl, Bool.and_false, decide_eq_false (fun h => hl (by rw [h]))]
theorem int_beq (n k : Nat) : ((n : Int) == (k : Int)) = decide (n = k) := by
  by_cases h : n = k
  · subst h; simp
  · rw [decide_eq_false h]; simp; omega
set_option maxRecDepth 20000 in
set_option maxHeartbeats 2000000 in
theorem msame_fun (u v : Value) (xs ys : List Nat) (hx : ∀ x ∈ xs, x < 256) (hy : ∀ y ∈ ys, y < 256) (lx : xs.length ≤ 9223372036854775807) (ly : ys.length ≤ 9223372036854775807) (w : World) (hu : By w u xs) (hv : By w v ys) :
    Calls Try.prog 33 #[u, v] w fun e w' => e = .returned (.bool (decide (xs = ys))) ∧ Below w.heap.size w w' := by
  obtain ⟨a, c, rfl, h1, h2, h3⟩ := hu
  obtain ⟨a', c', rfl, h1', h2', h3'⟩ := hv
  have H3 : Hid _ := h3
  have H3' : Hid _ := h3'
  have HX : Hid _ := getD_low hx
  have HY : Hid _ := getD_low hy
  have HA : Hid _ := apS_lt hx hy
  obtain ⟨m, hm⟩ : ∃ m, m = min xs.length ys.length := ⟨_, rfl⟩
  have SE : Hid _ := same_end xs ys m (by omega)
  have M1 : m ≤ xs.length := by omega
  have M2 : m ≤ ys.length := by omega
  generalize hn : xs.length = n at *
  generalize hn' : ys.length = n' at *
  clear h1 h2 h3 h1' h2' h3' hx hy
  rcases Nat.lt_or_ge n' n with hh | hh
  · obtain rfl : m = n' := by omega
    have i0 : (m : Int) < (n : Int) := by omega
    clear hm hh
    go_enter Try.func33, Try.ntmps33
    go_wp2_with fail
    go_loopw [5, 12] (fun x i wr => ∃ k : Nat, k ≤ m ∧ i = .int .i64 k ∧ x = .int .u8 ((apS xs ys k : Nat) : Int) ∧ Hid (Below w.heap.size w wr)) (fun _ i _ => m - (intOf i).toNat)
    case atStart => exact ⟨0, by omega, rfl, rfl, Below.refl _ _⟩
    case round =>
      obtain ⟨k, hk, rfl, rfl, hb⟩ := hrel
      by_cases hlt : k < m
      · obtain ⟨b, o, rfl, hc⟩ := H3.out (by omega)
        obtain ⟨b', o', rfl, hc'⟩ := H3'.out (by omega)
        have q1 := (hb.out.cell (p := ⟨b, o + k, none⟩) (lt_of_cellB (hc k (by omega)))).trans (hc k (by omega))
        have q2 := (hb.out.cell (p := ⟨b', o' + k, none⟩) (lt_of_cellB (hc' k (by omega)))).trans (hc' k (by omega))
        have e1 := HX.out k
        have e2 := HY.out k
        have e3 := HA.out k
        have E4 : Hid _ := b_xor e1 e2
        have E5 : Hid _ := b_or e3 (xor_lt e1 e2)
        have E6 : Hid (apS xs ys k ||| (xs.getD k 0 ^^^ ys.getD k 0) = apS xs ys (k + 1)) := rfl
        rw [E6.out] at E5
        clear hc hc' H3 H3' e1 e2 e3 E6
        generalize xs.getD k 0 = x1 at *
        generalize ys.getD k 0 = y1 at *
        go_wp2_with fail
        go_region
        rw [E4.out, E5.out]
        go_wp2_with fail
        go_roundw
        case rel => exact ⟨k + 1, by omega, by go_num, rfl, hb.out.drew⟩
        case measure => simp [intOf]; omega
      · obtain rfl : k = m := by omega
        clear H3 H3' HX HY HA
        by_cases hz : apS xs ys k = 0
        · have SF := SE.out
          rw [decide_eq_true hz, Bool.true_and] at SF
          have z1 : ((apS xs ys k : Nat) : Int) = 0 := by omega
          have SG : Hid _ := SF
          clear SF SE hz
          generalize apS xs ys k = ap at *
          go_wp2_with fail
          go_ret
          refine ⟨?_, hb.out⟩
          rw [← SG.out]
          exact congrArg (fun b => Ending.returned (.bool b)) (int_beq _ _)
        · have SF := SE.out
          rw [decide_eq_false hz, Bool.false_and] at SF
          have z1 : ¬ ((apS xs ys k : Nat) : Int) = 0 := by omega
          have SG : Hid _ := SF
          clear SF SE hz
          generalize apS xs ys k = ap at *
          go_wp2_with fail
          go_ret
          refine ⟨?_, hb.out⟩
          rw [← SG.out]
          rfl
  · obtain rfl : m = n := by omega
    have i0 : ¬ (n' : Int) < (m : Int) := by omega
    clear hm hh
    go_enter Try.func33, Try.ntmps33
    go_wp2_with fail
    go_loopw [5, 12] (fun x i wr => ∃ k : Nat, k ≤ m ∧ i = .int .i64 k ∧ x = .int .u8 ((apS xs ys k : Nat) : Int) ∧ Hid (Below w.heap.size w wr)) (fun _ i _ => m - (intOf i).toNat)
    case atStart => exact ⟨0, by omega, rfl, rfl, Below.refl _ _⟩
    case round =>
      obtain ⟨k, hk, rfl, rfl, hb⟩ := hrel
      by_cases hlt : k < m
      · obtain ⟨b, o, rfl, hc⟩ := H3.out (by omega)
        obtain ⟨b', o', rfl, hc'⟩ := H3'.out (by omega)
        have q1 := (hb.out.cell (p := ⟨b, o + k, none⟩) (lt_of_cellB (hc k (by omega)))).trans (hc k (by omega))
        have q2 := (hb.out.cell (p := ⟨b', o' + k, none⟩) (lt_of_cellB (hc' k (by omega)))).trans (hc' k (by omega))
        have e1 := HX.out k
        have e2 := HY.out k
        have e3 := HA.out k
        have E4 : Hid _ := b_xor e1 e2
        have E5 : Hid _ := b_or e3 (xor_lt e1 e2)
        have E6 : Hid (apS xs ys k ||| (xs.getD k 0 ^^^ ys.getD k 0) = apS xs ys (k + 1)) := rfl
        rw [E6.out] at E5
        clear hc hc' H3 H3' e1 e2 e3 E6
        generalize xs.getD k 0 = x1 at *
        generalize ys.getD k 0 = y1 at *
        go_wp2_with fail
        go_region
        rw [E4.out, E5.out]
        go_wp2_with fail
        go_roundw
        case rel => exact ⟨k + 1, by omega, by go_num, rfl, hb.out.drew⟩
        case measure => simp [intOf]; omega
      · obtain rfl : k = m := by omega
        clear H3 H3' HX HY HA
        by_cases hz : apS xs ys k = 0
        · have SF := SE.out
          rw [decide_eq_true hz, Bool.true_and] at SF
          have z1 : ((apS xs ys k : Nat) : Int) = 0 := by omega
          have SG : Hid _ := SF
          clear SF SE hz
          generalize apS xs ys k = ap at *
          go_wp2_with fail
          go_ret
          refine ⟨?_, hb.out⟩
          rw [← SG.out]
          exact congrArg (fun b => Ending.returned (.bool b)) (int_beq _ _)
        · have SF := SE.out
          rw [decide_eq_false hz, Bool.false_and] at SF
          have z1 : ¬ ((apS xs ys k : Nat) : Int) = 0 := by omega
          have SG : Hid _ := SF
          clear SF SE hz
          generalize apS xs ys k = ap at *
          go_wp2_with fail
          go_ret
          refine ⟨?_, hb.out⟩
          rw [← SG.out]
          rfl
end Go.Proofs.Ytejabkmhpiabnaa
