/- Texts that were joined: MoPad, MoOn, MoPadd. -/
import Derived.Test.YtmfbdacalenfdaaGrp28
import Derived.Test.YtmfbdacalenfdaaGrp27
import Derived.Laws.IdiomCopy
/- The contracts of mode.padding and mode.onward. -/
namespace Go.Proofs.Ytmfbdacalenfdaa
open Go.RowKit
set_option linter.unusedSimpArgs false
attribute [local go_sem] YieldsP execOp
attribute [local simp] MP.eq_p
namespace A
/-- Where the bytes from i on part from n. -/
def offN (l : List Nat) (n i : Nat) : Nat → Nat
  | 0 => 0
  | j + 1 => offN l n i j ||| (l.getD (i + j) 0 ^^^ n)
theorem xor_nil {x y : Nat} : x ^^^ y = 0 ↔ x = y := by
  constructor
  · intro h
    apply Nat.eq_of_testBit_eq
    intro i
    have := congrArg (·.testBit i) h
    simpa using this
  · rintro rfl; simp
theorem or_nil {x y : Nat} : x ||| y = 0 ↔ x = 0 ∧ y = 0 := by
  constructor
  · intro h
    have hb : ∀ i, (x ||| y).testBit i = false := fun i => by rw [h]; simp
    constructor <;>
    · apply Nat.eq_of_testBit_eq
      intro i
      have := hb i
      simp at this
      simp [this]
  · rintro ⟨rfl, rfl⟩; simp
theorem offN_lt {l : List Nat} {k n : Nat} (hl : ok k l) (hn : n < 256) (i : Nat) : ∀ j, offN l n i j < 256
  | 0 => by simp [offN]
  | j + 1 => Nat.or_lt_two_pow (n := 8) (offN_lt hl hn i j) (G.xor_lt (hl.at _) hn)
theorem offN_zero (l : List Nat) (n i : Nat) : ∀ j, offN l n i j = 0 ↔ ∀ t, t < j → l.getD (i + t) 0 = n
  | 0 => by simp [offN]
  | j + 1 => by
    rw [offN, or_nil, offN_zero l n i j, xor_nil]
    constructor
    · rintro ⟨h1, h2⟩ t ht
      rcases Nat.lt_or_ge t j with h | h
      · exact h1 t h
      · rw [show t = j by omega]; exact h2
    · exact fun h => ⟨fun t ht => h t (by omega), h j (by omega)⟩
/-- How many, or 0. -/
def padI (l : List Nat) : Nat := (padOf l).getD 0
theorem padI_bad {l : List Nat} {n : Nat} (hn : l.getD (l.length - 1) 0 = n) (h : n = 0 ∨ 16 < n) : padI l = 0 := by
  unfold padI
  rw [show padOf l = none by unfold padOf; simp only [hn]; rw [if_pos h]]
  rfl
theorem padI_else {l : List Nat} {n : Nat} (hn : l.getD (l.length - 1) 0 = n) (h : ¬ (n = 0 ∨ 16 < n)) (hl : n ≤ l.length) : padI l = if offN l n (l.length - n) n = 0 then n else 0 := by
  unfold padI padOf
  simp only [hn]
  rw [if_neg h]
  have e : ((l.drop (l.length - n)).all (· == n) = true) ↔ offN l n (l.length - n) n = 0 := by
    rw [offN_zero, List.all_eq_true]
    constructor
    · intro ha t ht
      have hlt : l.length - n + t < l.length := by omega
      have hm : l[l.length - n + t] ∈ l.drop (l.length - n) := by
        have e2 : l[l.length - n + t] = (l.drop (l.length - n))[t]'(by rw [List.length_drop]; omega) := by rw [List.getElem_drop]
        rw [e2]
        exact List.getElem_mem _
      have := ha _ hm
      rw [List.getD_eq_getElem?_getD, List.getElem?_eq_getElem hlt]
      simpa using this
    · intro ha x hx
      obtain ⟨i, hi, e⟩ := List.getElem_of_mem hx
      rw [List.length_drop] at hi
      rw [List.getElem_drop] at e
      have h1 := ha i (by omega)
      rw [List.getD_eq_getElem?_getD, List.getElem?_eq_getElem (by omega)] at h1
      have h2 : l[l.length - n + i] = n := h1
      rw [e] at h2
      simpa using h2
  by_cases hc : offN l n (l.length - n) n = 0
  · rw [if_pos (e.2 hc), if_pos hc]; rfl
  · rw [if_neg (fun h => hc (e.1 h)), if_neg hc]; rfl
end A
theorem mo_or {x y : Nat} (hx : x < 256) (hy : y < 256) : bits .or .u8 (x : Int) (y : Int) = ((x ||| y : Nat) : Int) := by
  show IntKind.u8.wrap (((BitVec.ofInt 8 (x : Int) ||| BitVec.ofInt 8 (y : Int)).toNat : Nat) : Int) = _
  have of8 : ∀ x : Nat, x < 256 → (BitVec.ofInt 8 (x : Int)).toNat = x := fun x h => by rw [BitVec.toNat_ofInt]; omega
  have hlt : x ||| y < 256 := Nat.or_lt_two_pow (n := 8) hx hy
  rw [BitVec.toNat_or, of8 _ hx, of8 _ hy, IntKind.wrap_u8]
  omega
/-- An array sliced from a place on, in a walk. -/
theorem wp_from {ops : Array Oper} {rest : List Oper} {o : Oper} {a : Act} {Q : Exit → Act → World → Prop} {w : World} {t e : TypeId} {n : Nat} (hgd : o.guard = none) (ht : Try.prog.underlying t = some (.array n e)) (hz : (Try.prog.info? e).map (·.size) = some 1) (x y : Operand) (ho : o.op = .slice t x (some y) none none) (b f i : Nat) (k : IntKind) (hi : i < n) (hx : a.eval x = .pointer (some ⟨b, f, none⟩)) (z : Int) (hy : a.eval y = .int k z) (hz2 : z = (i : Int)) (m : Nat) (hm : m = n - i)
    (h : wpList Try.prog ops Q rest (a.put o.dst (.slice (some ⟨b, f + i, none⟩) m m)) w) : wpList Try.prog ops Q (o :: rest) a w := by
  subst hz2 hm
  refine wpList_plain hgd fun K hK => ?_
  have e1 := slice_from ht hz k i hi b f w
  unfold Oper.wp
  simp [execOp, ho, hx, hy, e1, Result.andThen]
  exact hK _ _ h
set_option maxRecDepth 20000 in
set_option maxHeartbeats 1000000 in
theorem mpad_fun (l : List Nat) (hl : A.ok 16 l) (w : World) : Calls Try.prog 39 #[aB l] w fun e w' => e = .returned (.int .i64 ((A.padI l : Nat) : Int)) ∧ Below w.heap.size w w' := by
  obtain ⟨x0, x1⟩ := al1 w (l.map b8).toArray 23
  have X0 : Hid (Blk _ w.heap.size (l.map b8)) := x0
  have X1 : Hid (Below w.heap.size w _) := x1
  have LL : Hid (l.length = 16) := hl.1
  obtain ⟨n, hn⟩ : ∃ n, l.getD (l.length - 1) 0 = n := ⟨_, rfl⟩
  have HN : Hid (l.getD (l.length - 1) 0 = n) := hn
  have n256 : n < 256 := by rw [← hn]; exact hl.at _
  have c15 : Hid (∀ W, Blk W w.heap.size (l.map b8) → W.cell? ⟨w.heap.size, 15, none⟩ = some (b8 n)) := fun W h => by
    have := h.byte 15 (by rw [hl.1]; decide)
    rw [hl.1] at hn
    rw [hn] at this
    exact this
  have cc := c15.out _ x0
  have OL : Hid (∀ j, A.offN l n (16 - n) j < 256) := fun j => A.offN_lt hl n256 _ j
  have LO : Hid (∀ j, l.getD j 0 < 256) := fun j => hl.at j
  clear x0 x1 hn hl c15
  by_cases hb : n = 0 ∨ 16 < n
  · have PV : Hid (A.padI l = 0) := A.padI_bad HN.out hb
    rw [PV.out]
    by_cases h0 : n = 0
    · have b1 : (n : Int) < 1 := by omega
      clear h0 hb
      go_enter Try.func39, Try.ntmps39
      go_wp2_with fail
      go_ret
      exact ⟨rfl, X1.out⟩
    · have b1 : ¬ (n : Int) < 1 := by omega
      have b2 : (16 : Int) < (n : Int) := by omega
      clear h0 hb
      go_enter Try.func39, Try.ntmps39
      go_wp2_with fail
      go_ret
      exact ⟨rfl, X1.out⟩
  · have b1 : ¬ (n : Int) < 1 := by omega
    have b2 : ¬ (16 : Int) < (n : Int) := by omega
    have PV : Hid (A.padI l = if A.offN l n (16 - n) n = 0 then n else 0) := by
      have := A.padI_else HN.out hb (by rw [LL.out]; omega)
      rw [LL.out] at this
      exact this
    obtain ⟨i, hi⟩ : ∃ i, i = 16 - n := ⟨_, rfl⟩
    rw [← hi] at OL PV
    obtain ⟨rv, hrv⟩ : ∃ rv, rv = A.padI l := ⟨_, rfl⟩
    rw [← hrv] at PV ⊢
    have wi : IntKind.u8.wrap (16 - (n : Int)) = (i : Int) := by rw [IntKind.wrap_u8]; omega
    have IN : Hid (i + n = 16 ∧ 1 ≤ n) := by show _ ∧ _; omega
    clear hb hi HN hrv
    go_enter Try.func39, Try.ntmps39
    go_wp2_with (refine wp_from rfl u_a16 gi_u8 (.tmp 1) (.tmp 16) rfl w.heap.size 0 i .u8 (by have := IN.out; omega) rfl _ rfl rfl n (by have := IN.out; omega) ?_)
    generalize w.alloc _ = w1 at *
    go_loopw [4, 19] (fun x t wr => ∃ j : Nat, j ≤ n ∧ t = .int .i64 (j : Int) ∧ x = b8 (A.offN l n i j) ∧ Hid (Blk wr w.heap.size (l.map b8)) ∧ Hid (Below w.heap.size w wr)) (fun _ t _ => n - (intOf t).toNat)
    case atStart => exact ⟨0, by omega, rfl, rfl, X0, X1⟩
    case round =>
      clear X0 X1
      obtain ⟨j, hj, rfl, rfl, X0, X1⟩ := hrel
      by_cases hj1 : j < n
      · have j1 : (j : Int) < (n : Int) := by omega
        have wj : IntKind.i64.wrap ((j : Int) + 1) = (j : Int) + 1 := by rw [IntKind.wrap_i64]; omega
        have J1 : Hid (j < n) := hj1
        have cj := X0.out.byte (i + j) (by rw [LL.out]; have := IN.out; omega)
        have e1 := LO.out (i + j)
        have e3 := OL.out j
        have E4 : Hid _ := g_xor e1 n256
        have E5 : Hid _ := mo_or e3 (G.xor_lt e1 n256)
        have E6 : Hid (A.offN l n i j ||| (l.getD (i + j) 0 ^^^ n) = A.offN l n i (j + 1)) := rfl
        rw [E6.out] at E5
        have q4 := E4.out
        have q5 := E5.out
        obtain ⟨a1, ha1⟩ : ∃ a1, a1 = A.offN l n i (j + 1) := ⟨_, rfl⟩
        have A1 : Hid (a1 = A.offN l n i (j + 1)) := ha1
        rw [← ha1] at q5
        clear E5 E6 E4 ha1
        generalize A.offN l n i j = a0 at *
        generalize l.getD (i + j) 0 ^^^ n = xx at *
        generalize l.getD (i + j) 0 = lx at *
        clear hj hj1 cc
        go_wp2_with fail
        go_roundw
        case rel => exact ⟨j + 1, J1.out, by first | rfl | go_num, by rw [A1.out], X0, X1⟩
        case measure => have := J1.out; simp [intOf]; omega
      · obtain rfl : j = n := by omega
        clear hj hj1 cc
        by_cases hz : A.offN l j i j = 0
        · have HZ : Hid (A.offN l j i j = 0) := hz
          rw [hz]
          clear hz
          have wn : IntKind.i64.wrap (j : Int) = (j : Int) := by rw [IntKind.wrap_i64]; omega
          go_wp2_with fail
          go_ret
          exact ⟨by rw [PV.out, if_pos HZ.out]; rfl, X1.out⟩
        · have hz2 : ¬ ((A.offN l j i j : Nat) : Int) = 0 := by omega
          have hz3 : (((A.offN l j i j : Nat) : Int) != 0) = true := by simp; omega
          have HZ : Hid (rv = 0) := by rw [PV.out, if_neg hz]; exact rfl
          clear hz PV
          generalize A.offN l j i j = aj at *
          go_wp2_with fail
          go_ret
          exact ⟨by rw [HZ.out]; rfl, X1.out⟩
end Go.Proofs.Ytmfbdacalenfdaa

/- The contracts of mode.onward and mode.padded. -/
namespace Go.Proofs.Ytmfbdacalenfdaa
open Go.RowKit
set_option linter.unusedSimpArgs false
attribute [local go_sem] YieldsP execOp
attribute [local simp] MP.eq_p
namespace A
/-- Of sixteen places the last t are new ones. -/
def endN (old new : Nat → Nat) (t : Nat) : List Nat := by_ 16 fun p => if 16 - t ≤ p then new p else old p
theorem endN_length (old new : Nat → Nat) (t : Nat) : (endN old new t).length = 16 := by_length _ _
theorem endN_zero (old new : Nat → Nat) : endN old new 0 = by_ 16 old := by_congr fun _ hi => if_neg (by omega)
theorem endN_all (old new : Nat → Nat) : endN old new 16 = by_ 16 new := by_congr fun _ _ => if_pos (by omega)
theorem endN_at (old new : Nat → Nat) {t u : Nat} (h : u + t = 15) : (endN old new t).getD u 0 = old u := by
  unfold endN
  rw [by_get (by omega), if_neg (by omega)]
theorem endN_set (old new : Nat → Nat) {t u : Nat} (h : u + t = 15) : (endN old new t).set u (new u) = endN old new (t + 1) := by
  refine (by_self (l := (endN old new t).set u (new u)) (by rw [List.length_set, endN_length])).symm.trans (by_congr fun i hi => ?_)
  rw [getD_set _ _ _ _ (by rw [endN_length]; omega)]
  unfold endN
  rw [by_get hi]
  by_cases e : u = i
  · subst e
    rw [if_pos rfl, if_pos (by omega)]
  · rw [if_neg e]
    by_cases e2 : 16 - t ≤ i
    · rw [if_pos e2, if_pos (by omega)]
    · rw [if_neg e2, if_neg (by omega)]
/-- What is carried when t bytes are done. -/
def carr (iv : List Nat) (q : Nat) : Nat → Nat
  | 0 => q
  | t + 1 => (carr iv q t + iv.getD (15 - t) 0) / 256
theorem carr_lt {iv : List Nat} (hi : ok 16 iv) {q : Nat} (hq : q < 1152921504606846976) : ∀ t, carr iv q t < 1152921504606846976
  | 0 => hq
  | t + 1 => by
    have h1 := carr_lt hi hq t
    have h2 := hi.at (15 - t)
    rw [carr]
    omega
theorem carr_sum {iv : List Nat} (hi : ok 16 iv) (q : Nat) : ∀ t, t ≤ 16 → (beV iv + q) / 256 ^ t = beV (iv.take (16 - t)) + carr iv q t
  | 0, _ => by rw [Nat.pow_zero, Nat.div_one, carr, List.take_of_length_le (by rw [hi.1]; exact Nat.le_refl _)]
  | t + 1, ht => by
    have ih := carr_sum hi q t (by omega)
    have hlt : 15 - t < iv.length := by rw [hi.1]; omega
    rw [Nat.pow_succ, ← Nat.div_div_eq_div_mul, ih, show 16 - t = (15 - t) + 1 by omega, List.take_succ_eq_append_getElem hlt, beV_snoc, carr, List.getD_eq_getElem?_getD, List.getElem?_eq_getElem hlt, show 16 - (t + 1) = 15 - t by omega]
    show (beV (iv.take (15 - t)) * 256 + iv[15 - t] + carr iv q t) / 256 = beV (iv.take (15 - t)) + (carr iv q t + iv[15 - t]) / 256
    omega
theorem carr_byte {iv : List Nat} (hi : ok 16 iv) (q : Nat) {t u : Nat} (h : u + t = 15) : (beV iv + q) / 256 ^ t % 256 = (carr iv q t + iv.getD u 0) % 256 := by
  have hlt : u < iv.length := by rw [hi.1]; omega
  rw [carr_sum hi q t (by omega), show 16 - t = u + 1 by omega, List.take_succ_eq_append_getElem hlt, beV_snoc, List.getD_eq_getElem?_getD, List.getElem?_eq_getElem hlt]
  show (beV (iv.take u) * 256 + iv[u] + carr iv q t) % 256 = (carr iv q t + iv[u]) % 256
  omega
theorem carr_next (iv : List Nat) (q : Nat) {t u : Nat} (h : u + t = 15) : carr iv q (t + 1) = (carr iv q t + iv.getD u 0) / 256 := by
  rw [carr, show 15 - t = u by omega]
/-- A text and its padding, so far as it is in. -/
def padT (p : List Nat) (n t : Nat) : List Nat := p ++ (List.replicate t n ++ List.replicate (n - t) 0)
theorem padT_length (p : List Nat) {n t : Nat} (h : t ≤ n) : (padT p n t).length = p.length + n := by
  unfold padT
  simp only [List.length_append, List.length_replicate]
  omega
theorem padT_set (p : List Nat) {n t : Nat} (h : t < n) : (padT p n t).set (p.length + t) n = padT p n (t + 1) := by
  unfold padT
  rw [List.set_append_right _ _ (by omega), Nat.add_sub_cancel_left, List.set_append_right _ _ (by rw [List.length_replicate]; omega), List.length_replicate, Nat.sub_self, show n - t = n - (t + 1) + 1 by omega, List.replicate_succ, List.set_cons_zero, List.replicate_succ', List.append_assoc]
  rfl
theorem padT_all (p : List Nat) : padT p (padN p) (padN p) = padS p := by
  unfold padT padS
  rw [Nat.sub_self, List.replicate_zero, List.append_nil]
end A
set_option maxRecDepth 20000 in
set_option maxHeartbeats 1000000 in
theorem monw_fun (iv : List Nat) (hi : A.ok 16 iv) (q : Nat) (hq : q < 1152921504606846976) (w : World) : Calls Try.prog 27 #[aB iv, .int .u64 (q : Int)] w fun e w' => e = .returned (aB (A.ctr iv q)) ∧ Below w.heap.size w w' := by
  obtain ⟨old, hold⟩ : ∃ old : Nat → Nat, old = fun p => iv.getD p 0 := ⟨_, rfl⟩
  obtain ⟨new, hnew⟩ : ∃ new : Nat → Nat, new = fun p => (A.beV iv + q) / 256 ^ (15 - p) % 256 := ⟨_, rfl⟩
  obtain ⟨ca, hca⟩ : ∃ ca : Nat → Nat, ca = A.carr iv q := ⟨_, rfl⟩
  have NE : Hid (A.ctr iv q = A.by_ 16 new) := by
    unfold A.ctr
    rw [A.be16_mod, hnew]
    exact rfl
  have C0 : Hid (ca 0 = q) := by rw [hca]; exact rfl
  have CL : Hid (∀ t, ca t < 1152921504606846976) := fun t => by rw [hca]; exact A.carr_lt hi hq t
  have CN : Hid (∀ t u, u + t = 15 → ca (t + 1) = (ca t + old u) / 256 ∧ new u = (ca t + old u) % 256) := fun t u h => by
    rw [hca, hold, hnew]
    refine ⟨A.carr_next iv q h, ?_⟩
    show (A.beV iv + q) / 256 ^ (15 - u) % 256 = _
    rw [show 15 - u = t by omega]
    exact A.carr_byte hi q h
  have OL : Hid (∀ p, old p < 256) := fun p => by rw [hold]; exact hi.at p
  rw [NE.out]
  obtain ⟨x0, x1, x2⟩ := al2 w (iv.map b8).toArray #[Value.int IntKind.u8 0, Value.int IntKind.u8 0, Value.int IntKind.u8 0, Value.int IntKind.u8 0, Value.int IntKind.u8 0, Value.int IntKind.u8 0, Value.int IntKind.u8 0, Value.int IntKind.u8 0, Value.int IntKind.u8 0, Value.int IntKind.u8 0, Value.int IntKind.u8 0, Value.int IntKind.u8 0, Value.int IntKind.u8 0, Value.int IntKind.u8 0, Value.int IntKind.u8 0, Value.int IntKind.u8 0] 23 23
  rw [show (iv.map b8).toArray.toList = (A.endN old new 0).map b8 by rw [A.endN_zero, hold, A.by_self hi.1]] at x0
  have X0 : Hid (Blk _ w.heap.size ((A.endN old new 0).map b8)) := x0
  have X1 : Hid (Blk _ (w.heap.size + 1) (zB 16)) := x1
  have X2 : Hid (Below w.heap.size w _) := x2
  clear x0 x1 x2 hold hnew hca NE hi hq
  go_enter Try.func27, Try.ntmps27
  go_wp2_with (simp only [zero_a16])
  generalize World.alloc (w.alloc _) _ = w1 at *
  go_loopw [5, 1] (fun i c wr => ∃ (t : Nat), t ≤ 16 ∧ i = .int .i64 (15 - (t : Int)) ∧ c = .int .u64 ((ca t : Nat) : Int) ∧ Hid (Blk wr w.heap.size ((A.endN old new t).map b8)) ∧ Hid (Blk wr (w.heap.size + 1) (zB 16)) ∧ Hid (Below w.heap.size w wr)) (fun i _ _ => (intOf i + 1).toNat)
  case atStart => exact ⟨0, by omega, rfl, by rw [C0.out], X0, X1, X2⟩
  case round =>
    clear X0 X1 X2
    obtain ⟨t, ht, rfl, rfl, X0, X1, X2⟩ := hrel
    by_cases ht1 : t < 16
    · obtain ⟨u, hu⟩ : ∃ u, u = 15 - t := ⟨_, rfl⟩
      have eu : (15 : Int) - (t : Int) = (u : Int) := by omega
      rw [eu]
      have u0 : (0 : Int) ≤ (u : Int) := by omega
      have u1 : (u : Int) < 16 := by omega
      have wu : IntKind.i64.wrap ((u : Int) - 1) = (u : Int) - 1 := by rw [IntKind.wrap_i64]; omega
      have UT : Hid (u + t = 15) := by show _ = _; omega
      have cu := X0.out.byte u (by rw [A.endN_length]; omega)
      rw [A.endN_at old new UT.out] at cu
      have fu := X0.out.fz u
      have V0 : Hid (Blk (wr.setCell ⟨w.heap.size, u, none⟩ (b8 (new u))) w.heap.size ((A.endN old new (t + 1)).map b8)) := by
        rw [← A.endN_set old new UT.out]
        exact X0.out.setB _ _ (by rw [A.endN_length]; have := UT.out; omega)
      have V1 : Hid _ := X1.out.apart1 (k' := w.heap.size) (o := u) (v := b8 (new u)) (by omega)
      have V2 : Hid _ := X2.out.setCell (p := ⟨w.heap.size, u, none⟩) (Nat.le_refl _) (b8 (new u))
      have cb := CL.out t
      have ob := OL.out u
      have cn := CN.out t u UT.out
      obtain ⟨s, hs⟩ : ∃ s, s = ca t + old u := ⟨_, rfl⟩
      have wx : IntKind.u64.wrap ((old u : Nat) : Int) = ((old u : Nat) : Int) := by rw [IntKind.wrap_u64]; omega
      have ws : IntKind.u64.wrap (((ca t : Nat) : Int) + ((old u : Nat) : Int)) = (s : Int) := by rw [IntKind.wrap_u64]; omega
      have w8 : IntKind.u8.wrap (s : Int) = ((new u : Nat) : Int) := by rw [IntKind.wrap_u8, cn.2]; omega
      have S8 : Hid (s / 256 = ca (t + 1)) := by rw [cn.1, hs]; exact rfl
      have sh1 : s >>> 8 = s / 256 := by rw [Nat.shiftRight_eq_div_pow]
      have T1 : Hid (t < 16) := ht1
      generalize new u = nu at *
      generalize old u = ou at *
      generalize ca t = ct at *
      clear hs cn cb ob hu ht ht1 X0 X1 X2 eu
      go_wp2_with fail
      go_roundw
      case rel =>
        have h := UT.out
        have e : (u : Int) - 1 = 15 - ((t + 1 : Nat) : Int) := by omega
        rw [e]
        exact ⟨t + 1, T1.out, rfl, by rw [← S8.out]; first | rfl | go_num, V0, V1, V2⟩
      case measure => first | (simp [intOf]; done) | (have := UT.out; simp [intOf]; omega)
    · obtain rfl : t = 16 := by omega
      rw [A.endN_all] at X0
      have LL : Hid ((A.by_ 16 new).length = 16) := A.by_length _ _
      obtain ⟨l, hl⟩ : ∃ l, l = A.by_ 16 new := ⟨_, rfl⟩
      rw [← hl] at X0 LL
      have HE : Hid (l = A.by_ 16 new) := hl
      have n0 : ¬ (0 : Int) ≤ 15 - ((16 : Nat) : Int) := by omega
      clear hl ht ht1
      have T0 : Hid (wr.there (w.heap.size + 1) 0 (l.map b8).length) := X1.out.there (by rw [List.length_map, LL.out, zB_length]; omega)
      go_wp2_with (first | refine wpList_load_mid rfl 23 (.tmp 2) rfl w.heap.size 0 rfl (l.map b8) _ X0.out.all u_a16 rfl (info_n info_a16 l LL.out) ?_ | refine wp_store_eq rfl 23 (.tmp 4) (.tmp 22) rfl (w.heap.size + 1) 0 (l.map b8) rfl rfl T0.out (info_n info_a16 l LL.out) (one_b8 _) ?_)
      intro w9 hw9
      go_wp2_with fail
      refine bodyPost_ret (v := aB l) ?_ rfl ⟨by rw [HE.out], ?_⟩
      · rw [hw9.out]
        exact results_cell (b := w.heap.size + 1) rfl rfl (World.rangeAt_setCells_same _ _ _ _ T0.out) u_a16 rfl (info_n info_a16 l LL.out)
      · rw [hw9.out]
        exact below_setCells _ _ _ X2.out (by omega)
end Go.Proofs.Ytmfbdacalenfdaa

/- The contract of mode.padded. -/
namespace Go.Proofs.Ytmfbdacalenfdaa
open Go.RowKit
set_option linter.unusedSimpArgs false
attribute [local go_sem] YieldsP execOp
attribute [local simp] MP.eq_p
/-- copy of a whole text to the front of a row that has room; there may be nothing to copy. -/
theorem wp_copyAll {ops : Array Oper} {rest : List Oper} {o : Oper} {act : Act} {Q : Exit → Act → World → Prop} {w : World} (hgd : o.guard = none) (d s : Operand)
    (ho : o.op = .call { callee := .builtin .copy, args := #[d, s], argTypes := #[22, 22] }) (b dl dc : Nat) (a : Option Addr) (n c : Nat) (xs : List Nat) (hd : act.eval d = .slice (some ⟨b, 0, none⟩) dl dc) (hs : act.eval s = .slice a n c) (hn : n = xs.length) (hb : By w (.slice a n c) xs)
    (hl : xs.length ≤ dl) (ht : w.there b 0 xs.length)
    (h : ∀ w2, Hid (w2 = w.setCells b 0 (xs.map b8)) → wpList Try.prog ops Q rest (act.put o.dst (.int .i64 ((n : Nat) : Int))) w2) : wpList Try.prog ops Q (o :: rest) act w := by
  subst hn
  rcases Nat.eq_zero_or_pos xs.length with h0 | h0
  · refine wpList_plain hgd fun K hK => ?_
    have hrun := run_copy_none (P := Try.prog) w 22 22 o.type 5 (some ⟨b, 0, none⟩) a dl dc xs.length c Try.uBytes gi_u8 (by rw [h0]; exact Nat.zero_min _)
    unfold Oper.wp
    simp [execOp, ho, resolve, invoke, builtin, hd, hs, hrun, Result.andThen]
    have e : xs = [] := List.length_eq_zero_iff.1 h0
    have hw : w = w.setCells b 0 (xs.map b8) := by rw [e]; rfl
    have := h w hw
    rw [h0] at this
    exact hK _ _ this
  · obtain ⟨g, q, rfl, _, hr⟩ := hb.range h0
    exact wp_copyR hgd d s ho b 0 dl dc g q xs.length c xs hd hs (Nat.min_eq_left hl).symm hr ht h
set_option maxRecDepth 20000 in
set_option maxHeartbeats 1000000 in
theorem mpadd_fun (p : List Nat) (zp : p.length ≤ 140737488351248) (v : Value) (w : World) (hv : By w v p) : Calls Try.prog 43 #[v] w fun e w' => ∃ g, e = .returned (.slice (some ⟨g, 0, none⟩) (A.padS p).length (A.padS p).length) ∧ w.heap.size ≤ g ∧ RowB w' g 5 (A.padS p) ∧ Below w.heap.size w w' := by
  obtain ⟨va, vc, rfl⟩ := hv.len
  obtain ⟨n, hn⟩ : ∃ n, n = A.padN p := ⟨_, rfl⟩
  have NP := A.padN_pos p
  have FIN : Hid (A.padT p n n = A.padS p) := by rw [hn]; exact A.padT_all p
  have TS : Hid (∀ t, t < n → (A.padT p n t).set (p.length + t) n = A.padT p n (t + 1)) := fun t h => A.padT_set p h
  have TL : Hid (∀ t, t ≤ n → (A.padT p n t).length = p.length + n) := fun t h => A.padT_length p h
  have T0 : Hid (A.padT p n 0 = p ++ List.replicate n 0) := rfl
  have PL : Hid ((A.padS p).length = p.length + n) := by rw [← FIN.out]; exact A.padT_length p (Nat.le_refl _)
  have nm : n = 16 - p.length % 16 := hn
  rw [← hn] at NP
  rw [PL.out]
  have HV : Hid (By w (.slice va p.length vc) p) := hv
  have ZP : Hid (p.length ≤ 140737488351248) := zp
  have BZ : Hid (∀ W, Below w.heap.size w W → By W (.slice va p.length vc) p) := fun W hW => hv.up hW (Nat.le_refl _)
  obtain ⟨L, hL⟩ : ∃ L, L = p.length := ⟨_, rfl⟩
  have HL : Hid (L = p.length) := hL
  rw [← hL] at nm TS TL PL ZP BZ HV ⊢
  obtain ⟨rm, hrm⟩ : ∃ rm, rm = L % 16 := ⟨_, rfl⟩
  have m1 : (L : Int).tmod 16 = (rm : Int) := by rw [Int.tmod_eq_emod_of_nonneg (by omega)]; omega
  have m2 : (L : Int) % 16 = (rm : Int) := by omega
  have s1 : IntKind.i64.wrap (16 - (rm : Int)) = (n : Int) := by rw [IntKind.wrap_i64]; omega
  have n8 : IntKind.u8.wrap (n : Int) = (n : Int) := by rw [IntKind.wrap_u8]; omega
  obtain ⟨M, hM⟩ : ∃ M, M = L + n := ⟨_, rfl⟩
  have HM : Hid (M = L + n) := hM
  have zp' := ZP.out
  have s2 : IntKind.i64.wrap ((L : Int) + (n : Int)) = (M : Int) := by rw [IntKind.wrap_i64]; omega
  have NB : Hid (1 ≤ n ∧ n ≤ 16) := NP
  rw [← hM] at TL ⊢
  clear hn nm hrm hv zp hL hM NP zp' PL
  go_enter Try.func43, Try.ntmps43
  go_wp2_with (refine wp_mkB rfl (.tmp 13) (.tmp 13) rfl w.heap.size M (M : Int) (M : Int) rfl rfl rfl rfl (by have h1 := ZP.out; have h2 := HM.out; have h3 := NB.out; omega) (Nat.le_refl _) ?_)
  intro w1 k1 hb1
  have K1 : Hid (RowB w1 w.heap.size 5 (List.replicate M 0)) := k1.row (by rw [List.length_replicate])
  have B1 : Hid (Below w.heap.size w w1) := hb1
  have Y1 : Hid (By w1 (.slice va L vc) p) := BZ.out w1 hb1
  have TH : Hid (w1.there w.heap.size 0 p.length) := K1.out.blk.there (by rw [List.length_map, List.length_replicate, HM.out, HL.out]; omega)
  clear k1 hb1
  go_wp2_with (refine wp_copyAll rfl (.tmp 15) (.tmp 16) rfl w.heap.size M M va L vc p rfl rfl HL.out Y1.out (by rw [HM.out, HL.out]; omega) TH.out ?_)
  intro w2 hw2
  have K2 : Hid (RowB w2 w.heap.size 5 (A.padT p n 0)) := by
    rw [hw2.out, T0.out]
    have e : List.replicate M 0 = [] ++ (List.replicate p.length 0 ++ List.replicate n 0) := by rw [List.nil_append, List.replicate_append_replicate, HM.out, HL.out]
    have h1 := K1.out
    rw [e] at h1
    have := h1.put (b' := p) (o := 0) rfl (by rw [List.length_replicate])
    exact this
  have B2 : Hid (Below w.heap.size w w2) := by rw [hw2.out]; exact below_setCells _ _ _ B1.out (Nat.le_refl _)
  clear hw2 K1 B1 Y1 TH
  go_wp2_with fail
  go_loopw [5] (fun i wr => ∃ t : Nat, t ≤ n ∧ i = .int .i64 ((L + t : Nat) : Int) ∧ Hid (RowB wr w.heap.size 5 (A.padT p n t)) ∧ Hid (Below w.heap.size w wr)) (fun i _ => M - (intOf i).toNat)
  case atStart => exact ⟨0, by omega, rfl, K2, B2⟩
  case round =>
    clear K2 B2
    obtain ⟨t, ht, rfl, K2, B2⟩ := hrel
    obtain ⟨i, hi⟩ : ∃ i, i = L + t := ⟨_, rfl⟩
    rw [← hi]
    have HI : Hid (i = L + t) := hi
    have hm := HM.out
    have zp' := ZP.out
    by_cases ht1 : t < n
    · have t1 : (i : Int) < (M : Int) := by omega
      have i0 : (0 : Int) ≤ (i : Int) := by omega
      have iN : i < M := by omega
      have wi : IntKind.i64.wrap ((i : Int) + 1) = (i : Int) + 1 := by have := NB.out; rw [IntKind.wrap_i64]; omega
      have c1 := K2.out.blk.byte i (by rw [TL.out t ht]; omega)
      have f1 := K2.out.blk.fz i
      have V0 : Hid (RowB (wr.setCell ⟨w.heap.size, i, none⟩ (b8 n)) w.heap.size 5 (A.padT p n (t + 1))) := by
        rw [← TS.out t ht1, ← hi]
        exact K2.out.setB i n
      have V1 : Hid _ := B2.out.setCell (p := ⟨w.heap.size, i, none⟩) (Nat.le_refl _) (b8 n)
      have T1 : Hid (t < n) := ht1
      generalize (A.padT p n t).getD i 0 = ox at *
      clear hi ht ht1 K2 B2 hm zp'
      go_wp2_with fail
      go_roundw
      case rel => exact ⟨t + 1, T1.out, by rw [show L + (t + 1) = i + 1 by have := HI.out; omega]; first | rfl | go_num, V0, V1⟩
      case measure => have h1 := HI.out; have h2 := HM.out; have h3 := T1.out; simp [intOf]; omega
    · obtain rfl : t = n := by omega
      have t1 : ¬ (i : Int) < (M : Int) := by omega
      rw [FIN.out] at K2
      clear hi ht ht1 hm zp'
      go_wp2_with fail
      go_ret
      exact ⟨w.heap.size, rfl, Nat.le_refl _, K2.out, B2.out⟩
end Go.Proofs.Ytmfbdacalenfdaa
