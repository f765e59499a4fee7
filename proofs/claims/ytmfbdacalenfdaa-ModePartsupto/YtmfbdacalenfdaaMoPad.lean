/- The contracts of mode.padding and mode.onward. -/
import Derived.Test.YtmfbdacalenfdaaMoSum
namespace Go.Proofs.Ytmfbdacalenfdaa
open Go.RowKit
set_option linter.unusedSimpArgs false
attribute [local go_sem] YieldsP execOp
attribute [local simp] MP.eq_p
namespace A
/-- Where the bytes from i on part from n. -/
def offN (l : List Nat) (n i : Nat) : Nat → Nat
  | 0 => 0
  | j + 1 => offN l n i j ||| (l.getD (i + j) 0 ^^^ n)
theorem xor_nil {x y : Nat} : x ^^^ y = 0 ↔ x = y := by
  constructor
  · intro h
    apply Nat.eq_of_testBit_eq
    intro i
    have := congrArg (·.testBit i) h
    simpa using this
  · rintro rfl; simp
theorem or_nil {x y : Nat} : x ||| y = 0 ↔ x = 0 ∧ y = 0 := by
  constructor
  · intro h
    have hb : ∀ i, (x ||| y).testBit i = false := fun i => by rw [h]; simp
    constructor <;>
    · apply Nat.eq_of_testBit_eq
      intro i
      have := hb i
      simp at this
      simp [this]
  · rintro ⟨rfl, rfl⟩; simp
theorem offN_lt {l : List Nat} {k n : Nat} (hl : ok k l) (hn : n < 256) (i : Nat) : ∀ j, offN l n i j < 256
  | 0 => by simp [offN]
  | j + 1 => Nat.or_lt_two_pow (n := 8) (offN_lt hl hn i j) (G.xor_lt (hl.at _) hn)
theorem offN_zero (l : List Nat) (n i : Nat) : ∀ j, offN l n i j = 0 ↔ ∀ t, t < j → l.getD (i + t) 0 = n
  | 0 => by simp [offN]
  | j + 1 => by
    rw [offN, or_nil, offN_zero l n i j, xor_nil]
    constructor
    · rintro ⟨h1, h2⟩ t ht
      rcases Nat.lt_or_ge t j with h | h
      · exact h1 t h
      · rw [show t = j by omega]; exact h2
    · exact fun h => ⟨fun t ht => h t (by omega), h j (by omega)⟩
/-- How many, or 0. -/
def padI (l : List Nat) : Nat := (padOf l).getD 0
theorem padI_bad {l : List Nat} {n : Nat} (hn : l.getD (l.length - 1) 0 = n) (h : n = 0 ∨ 16 < n) : padI l = 0 := by
  unfold padI
  rw [show padOf l = none by unfold padOf; simp only [hn]; rw [if_pos h]]
  rfl
theorem padI_else {l : List Nat} {n : Nat} (hn : l.getD (l.length - 1) 0 = n) (h : ¬ (n = 0 ∨ 16 < n)) (hl : n ≤ l.length) : padI l = if offN l n (l.length - n) n = 0 then n else 0 := by
  unfold padI padOf
  simp only [hn]
  rw [if_neg h]
  have e : ((l.drop (l.length - n)).all (· == n) = true) ↔ offN l n (l.length - n) n = 0 := by
    rw [offN_zero, List.all_eq_true]
    constructor
    · intro ha t ht
      have hlt : l.length - n + t < l.length := by omega
      have hm : l[l.length - n + t] ∈ l.drop (l.length - n) := by
        have e2 : l[l.length - n + t] = (l.drop (l.length - n))[t]'(by rw [List.length_drop]; omega) := by rw [List.getElem_drop]
        rw [e2]
        exact List.getElem_mem _
      have := ha _ hm
      rw [List.getD_eq_getElem?_getD, List.getElem?_eq_getElem hlt]
      simpa using this
    · intro ha x hx
      obtain ⟨i, hi, e⟩ := List.getElem_of_mem hx
      rw [List.length_drop] at hi
      rw [List.getElem_drop] at e
      have h1 := ha i (by omega)
      rw [List.getD_eq_getElem?_getD, List.getElem?_eq_getElem (by omega)] at h1
      have h2 : l[l.length - n + i] = n := h1
      rw [e] at h2
      simpa using h2
  by_cases hc : offN l n (l.length - n) n = 0
  · rw [if_pos (e.2 hc), if_pos hc]; rfl
  · rw [if_neg (fun h => hc (e.1 h)), if_neg hc]; rfl
end A
theorem mo_or {x y : Nat} (hx : x < 256) (hy : y < 256) : bits .or .u8 (x : Int) (y : Int) = ((x ||| y : Nat) : Int) := by
  show IntKind.u8.wrap (((BitVec.ofInt 8 (x : Int) ||| BitVec.ofInt 8 (y : Int)).toNat : Nat) : Int) = _
  have of8 : ∀ x : Nat, x < 256 → (BitVec.ofInt 8 (x : Int)).toNat = x := fun x h => by rw [BitVec.toNat_ofInt]; omega
  have hlt : x ||| y < 256 := Nat.or_lt_two_pow (n := 8) hx hy
  rw [BitVec.toNat_or, of8 _ hx, of8 _ hy, IntKind.wrap_u8]
  omega
/-- An array sliced from a place on, in a walk. -/
theorem wp_from {ops : Array Oper} {rest : List Oper} {o : Oper} {a : Act} {Q : Exit → Act → World → Prop} {w : World} {t e : TypeId} {n : Nat} (hgd : o.guard = none) (ht : Try.prog.underlying t = some (.array n e)) (hz : (Try.prog.info? e).map (·.size) = some 1) (x y : Operand) (ho : o.op = .slice t x (some y) none none) (b f i : Nat) (k : IntKind) (hi : i < n) (hx : a.eval x = .pointer (some ⟨b, f, none⟩)) (z : Int) (hy : a.eval y = .int k z) (hz2 : z = (i : Int)) (m : Nat) (hm : m = n - i)
    (h : wpList Try.prog ops Q rest (a.put o.dst (.slice (some ⟨b, f + i, none⟩) m m)) w) : wpList Try.prog ops Q (o :: rest) a w := by
  subst hz2 hm
  refine wpList_plain hgd fun K hK => ?_
  have e1 := slice_from ht hz k i hi b f w
  unfold Oper.wp
  simp [execOp, ho, hx, hy, e1, Result.andThen]
  exact hK _ _ h
set_option maxRecDepth 20000 in
set_option maxHeartbeats 1000000 in
theorem mpad_fun (l : List Nat) (hl : A.ok 16 l) (w : World) : Calls Try.prog 39 #[aB l] w fun e w' => e = .returned (.int .i64 ((A.padI l : Nat) : Int)) ∧ Below w.heap.size w w' := by
  obtain ⟨x0, x1⟩ := al1 w (l.map b8).toArray 23
  have X0 : Hid (Blk _ w.heap.size (l.map b8)) := x0
  have X1 : Hid (Below w.heap.size w _) := x1
  have LL : Hid (l.length = 16) := hl.1
  obtain ⟨n, hn⟩ : ∃ n, l.getD (l.length - 1) 0 = n := ⟨_, rfl⟩
  have HN : Hid (l.getD (l.length - 1) 0 = n) := hn
  have n256 : n < 256 := by rw [← hn]; exact hl.at _
  have c15 : Hid (∀ W, Blk W w.heap.size (l.map b8) → W.cell? ⟨w.heap.size, 15, none⟩ = some (b8 n)) := fun W h => by
    have := h.byte 15 (by rw [hl.1]; decide)
    rw [hl.1] at hn
    rw [hn] at this
    exact this
  have cc := c15.out _ x0
  have OL : Hid (∀ j, A.offN l n (16 - n) j < 256) := fun j => A.offN_lt hl n256 _ j
  have LO : Hid (∀ j, l.getD j 0 < 256) := fun j => hl.at j
  clear x0 x1 hn hl c15
  by_cases hb : n = 0 ∨ 16 < n
  · have PV : Hid (A.padI l = 0) := A.padI_bad HN.out hb
    rw [PV.out]
    by_cases h0 : n = 0
    · have b1 : (n : Int) < 1 := by omega
      clear h0 hb
      go_enter Try.func39, Try.ntmps39
      go_wp2_with fail
      go_ret
      exact ⟨rfl, X1.out⟩
    · have b1 : ¬ (n : Int) < 1 := by omega
      have b2 : (16 : Int) < (n : Int) := by omega
      clear h0 hb
      go_enter Try.func39, Try.ntmps39
      go_wp2_with fail
      go_ret
      exact ⟨rfl, X1.out⟩
  · have b1 : ¬ (n : Int) < 1 := by omega
    have b2 : ¬ (16 : Int) < (n : Int) := by omega
    have PV : Hid (A.padI l = if A.offN l n (16 - n) n = 0 then n else 0) := by
      have := A.padI_else HN.out hb (by rw [LL.out]; omega)
      rw [LL.out] at this
      exact this
    obtain ⟨i, hi⟩ : ∃ i, i = 16 - n := ⟨_, rfl⟩
    rw [← hi] at OL PV
    obtain ⟨rv, hrv⟩ : ∃ rv, rv = A.padI l := ⟨_, rfl⟩
    rw [← hrv] at PV ⊢
    have wi : IntKind.u8.wrap (16 - (n : Int)) = (i : Int) := by rw [IntKind.wrap_u8]; omega
    have IN : Hid (i + n = 16 ∧ 1 ≤ n) := by show _ ∧ _; omega
    clear hb hi HN hrv
    go_enter Try.func39, Try.ntmps39
    go_wp2_with (refine wp_from rfl u_a16 gi_u8 (.tmp 1) (.tmp 16) rfl w.heap.size 0 i .u8 (by have := IN.out; omega) rfl _ rfl rfl n (by have := IN.out; omega) ?_)
    generalize w.alloc _ = w1 at *
    go_loopw [4, 19] (fun x t wr => ∃ j : Nat, j ≤ n ∧ t = .int .i64 (j : Int) ∧ x = b8 (A.offN l n i j) ∧ Hid (Blk wr w.heap.size (l.map b8)) ∧ Hid (Below w.heap.size w wr)) (fun _ t _ => n - (intOf t).toNat)
    case atStart => exact ⟨0, by omega, rfl, rfl, X0, X1⟩
    case round =>
      clear X0 X1
      obtain ⟨j, hj, rfl, rfl, X0, X1⟩ := hrel
      by_cases hj1 : j < n
      · have j1 : (j : Int) < (n : Int) := by omega
        have wj : IntKind.i64.wrap ((j : Int) + 1) = (j : Int) + 1 := by rw [IntKind.wrap_i64]; omega
        have J1 : Hid (j < n) := hj1
        have cj := X0.out.byte (i + j) (by rw [LL.out]; have := IN.out; omega)
        have e1 := LO.out (i + j)
        have e3 := OL.out j
        have E4 : Hid _ := g_xor e1 n256
        have E5 : Hid _ := mo_or e3 (G.xor_lt e1 n256)
        have E6 : Hid (A.offN l n i j ||| (l.getD (i + j) 0 ^^^ n) = A.offN l n i (j + 1)) := rfl
        rw [E6.out] at E5
        have q4 := E4.out
        have q5 := E5.out
        obtain ⟨a1, ha1⟩ : ∃ a1, a1 = A.offN l n i (j + 1) := ⟨_, rfl⟩
        have A1 : Hid (a1 = A.offN l n i (j + 1)) := ha1
        rw [← ha1] at q5
        clear E5 E6 E4 ha1
        generalize A.offN l n i j = a0 at *
        generalize l.getD (i + j) 0 ^^^ n = xx at *
        generalize l.getD (i + j) 0 = lx at *
        clear hj hj1 cc
        go_wp2_with fail
        go_roundw
        case rel => exact ⟨j + 1, J1.out, by first | rfl | go_num, by rw [A1.out], X0, X1⟩
        case measure => have := J1.out; simp [intOf]; omega
      · obtain rfl : j = n := by omega
        clear hj hj1 cc
        by_cases hz : A.offN l j i j = 0
        · have HZ : Hid (A.offN l j i j = 0) := hz
          rw [hz]
          clear hz
          have wn : IntKind.i64.wrap (j : Int) = (j : Int) := by rw [IntKind.wrap_i64]; omega
          go_wp2_with fail
          go_ret
          exact ⟨by rw [PV.out, if_pos HZ.out]; rfl, X1.out⟩
        · have hz2 : ¬ ((A.offN l j i j : Nat) : Int) = 0 := by omega
          have hz3 : (((A.offN l j i j : Nat) : Int) != 0) = true := by simp; omega
          have HZ : Hid (rv = 0) := by rw [PV.out, if_neg hz]; exact rfl
          clear hz PV
          generalize A.offN l j i j = aj at *
          go_wp2_with fail
          go_ret
          exact ⟨by rw [HZ.out]; rfl, X1.out⟩
end Go.Proofs.Ytmfbdacalenfdaa
