/- Texts that were joined: UpG, ROpen. -/
import Derived.Test.YtmfbdacalenfdaaUp
import Derived.Test.YtmfbdacalenfdaaGrp51
import Derived.Test.YtmfbdacalenfdaaADec
import Derived.Test.YtmfbdacalenfdaaUpA
/- A drawn region in which some operations may be taken first (they yield their value in every world, and each other one waits for them or is apart from them), and the others then come one by one. Over any program. -/
namespace Go.Proofs.Ytmfbdacalenfdaa
open Go.RowKit
section
variable {P : Program} {ops : Array Oper} {Q : Exit → Act → World → Prop}
def firstB (ops : Array Oper) (listed : Array Bool) (i : Nat) : Bool := match ops[i]? with
  | some oi => (Region.ready .any ops listed).contains i && ((List.range ops.size).all fun j => (j == i) || listed.getD j true || (match ops[j]? with | some oj => (oj.after.any fun e => Region.binds .any e && (e.on == i)) || oi.apart ops oj | none => true))
  | none => false
theorem wp_first {i : Nat} {oi : Oper} {v : Value} {fuel : Nat} {listed : Array Bool} {a : Act} {w : World} (hi : ops[i]? = some oi) (hB : firstB ops listed i = true) (hN : Region.noSelect ops = true) (hQp : ∀ c a d v w, Q (.panic c) (a.put d v) w → Q (.panic c) a w) (hy : Yields P ops oi v a)
    (K : wpAny P .any ops Q fuel (listed.setIfInBounds i true) (a.put oi.dst v) w) : wpAny P .any ops Q (fuel + 1) listed a w := by
  unfold firstB at hB
  simp only [hi, Bool.and_eq_true, List.all_eq_true, List.mem_range] at hB
  obtain ⟨h1, h2⟩ := hB
  refine wpAny_first hi (Region.noSelect_spec hN) (fun c a w h => hQp c a _ _ w h) fuel listed a w ?_ (by simpa using h1) hy K
  intro j oj hoj hne hun hno
  have hlt : j < ops.size := (Array.getElem?_eq_some_iff.1 hoj).1
  have := h2 j hlt
  rw [show (j == i) = false by simp [hne], Bool.false_or, hun, Bool.false_or] at this
  simp only [hoj, Bool.or_eq_true] at this
  rcases this with h | h
  · obtain ⟨e, he, hb⟩ := Array.any_eq_true'.1 h
    simp only [Bool.and_eq_true, beq_iff_eq] at hb
    exact absurd hb.2 (hno e he hb.1)
  · exact h
def pathB (ops : Array Oper) : Array Bool → List Nat → Bool
  | listed, [] => (Region.ready .any ops listed).isEmpty
  | listed, j :: js => (Region.ready .any ops listed == [j]) && pathB ops (listed.setIfInBounds j true) js
theorem wpAny_path : ∀ (js : List Nat) (l : List Oper) (listed : Array Bool) (a : Act) (w : World), js.map (fun j => ops[j]?) = l.map some → pathB ops listed js = true → wpList P ops Q l a w → wpAny P .any ops Q js.length listed a w
  | [], [], _, _, _, _, hB, h => wpAny_done (by simpa [pathB] using hB) h _
  | j :: js, o :: l, listed, a, w, hl, hB, h => by
    simp only [List.map_cons, List.cons.injEq] at hl
    simp only [pathB, Bool.and_eq_true, beq_iff_eq] at hB
    obtain ⟨hr, hB'⟩ := hB
    refine wpAny_all (fuel := js.length) hr (by simp) fun i hi => ?_
    have hi : i = j := by simpa using hi
    subst hi
    have ih := fun a w => wpAny_path js l _ a w hl.2 hB'
    have h1 : wpOp P ops Q i (wpList P ops Q l) a w := by unfold wpOp; simp only [hl.1]; exact h
    exact wpOp_mono ih h1
  | [], _ :: _, _, _, _, hl, _, _ => by simp at hl
  | _ :: _, [], _, _, _, hl, _, _ => by simp at hl
/-- Two are taken first, then the others, one by one. -/
theorem wp_region_two {id : Nat} {a : Act} {w : World} {l : List Oper} (i1 i2 : Nat) (js : List Nat) (r : List Oper) {o1 o2 : Oper} (v1 v2 : Value) (hm : P.follows .mixedOrders = true) (hN : Region.noSelect l.toArray = true) (hQp : ∀ c a d v w, Q (.panic c) (a.put d v) w → Q (.panic c) a w)
    (h1 : l.toArray[i1]? = some o1) (h2 : l.toArray[i2]? = some o2) (hB1 : firstB l.toArray (Array.replicate l.length false) i1 = true) (hB2 : firstB l.toArray ((Array.replicate l.length false).setIfInBounds i1 true) i2 = true) (hl : js.length + 1 + 1 = l.length)
    (hr : js.map (fun j => l.toArray[j]?) = r.map some) (hB : pathB l.toArray (((Array.replicate l.length false).setIfInBounds i1 true).setIfInBounds i2 true) js = true)
    (y1 : Yields P l.toArray o1 v1 a) (y2 : Yields P l.toArray o2 v2 (a.put o1.dst v1)) (h : ∀ w', Hid (Below w.heap.size w w') → w'.heap = w.heap → wpList P l.toArray Q r ((a.put o1.dst v1).put o2.dst v2) w') : (Code.region id l.toArray true).wp P Q a w := by
  refine wp_region_any hm ?_
  have e : l.toArray.size = js.length + 1 + 1 := by rw [List.size_toArray, hl]
  have k := wp_first (fuel := js.length + 1) h1 hB1 hN hQp y1 (wp_first (fuel := js.length) h2 hB2 hN hQp y2 (wpAny_path js r _ _ { w with drawn := w.drawn + 1 } hr hB (h _ ((Below.refl _ _).drew) rfl)))
  rw [hl] at k
  simpa using k
end
end Go.Proofs.Ytmfbdacalenfdaa

/- The contract of sealringref's Cipher.Opened. -/
namespace Go.Proofs.Ytmfbdacalenfdaa
open Go.RowKit
set_option linter.unusedSimpArgs false
attribute [local go_sem] YieldsP execOp
attribute [local simp] MP.eq_p
/-- What Opened answers. -/
def opV : Option (List Nat) → Value
  | some p => .tuple #[.string (sOf p), .int .i64 0]
  | none => .tuple #[.string (sOf []), .int .i64 4]
set_option maxRecDepth 20000 in
set_option maxHeartbeats 1000000 in
theorem ropened_bad (i0 : List Nat) (s : List Nat) (h : s = [] ∨ s.length % 16 ≠ 0) (kc : Nat) (w : World) :
    Calls Try.prog 14 #[.pointer (some ⟨kc, 0, none⟩), aB i0, .string (sOf s)] w fun e w' => e = .returned (.tuple #[.string (sOf []), .int .i64 1]) ∧ Below w.heap.size w w' := by
  obtain ⟨x0, x1⟩ := al1 w (i0.map b8).toArray 23
  have X1 : Hid (Below w.heap.size w _) := x1
  clear x0 x1
  by_cases h0 : s = []
  · subst h0
    have e0 : sOf ([] : List Nat) = ⟨#[]⟩ := rfl
    rw [e0]
    go_enter Try.func14, Try.ntmps14
    go_wp2_with fail
    go_ret2
    exact ⟨rfl, X1.out⟩
  · have h1 : s.length % 16 ≠ 0 := h.resolve_left h0
    have sz : (sOf s).size = s.length := sOf_size s
    have ne : ((sOf s).toList == ([] : List UInt8)) = false := by
      rw [ByteArray.toList_eq, sOf_data]
      cases s with
      | nil => exact absurd rfl h0
      | cons a t => rfl
    obtain ⟨L, hL⟩ : ∃ L, L = s.length := ⟨_, rfl⟩
    rw [← hL] at sz h1
    obtain ⟨rm, hrm⟩ : ∃ rm, rm = L % 16 := ⟨_, rfl⟩
    have m1 : (L : Int).tmod 16 = (rm : Int) := by rw [Int.tmod_eq_emod_of_nonneg (by omega)]; omega
    have m2 : (L : Int) % 16 = (rm : Int) := by omega
    have r0 : (0 : Int) < (rm : Int) := by omega
    generalize sOf s = T at *
    clear h h0 h1 hL hrm
    go_enter Try.func14, Try.ntmps14
    go_wp2_with fail
    go_ret2
    exact ⟨rfl, X1.out⟩
namespace A
theorem padOf_bad {O : List Nat} {n : Nat} (hn : O.getD (O.length - 1) 0 = n) (h : n = 0 ∨ 16 < n) : padOf O = none := by
  unfold padOf
  simp only [hn]
  rw [if_pos h]
theorem padOf_yes {O : List Nat} {n : Nat} (hn : O.getD (O.length - 1) 0 = n) (h : ¬ (n = 0 ∨ 16 < n)) (ha : ∀ i, O.length - n ≤ i → i < O.length → O.getD i 0 = n) : padOf O = some n := by
  unfold padOf
  simp only [hn]
  rw [if_neg h, if_pos]
  rw [List.all_eq_true]
  intro x hx
  obtain ⟨i, hi, e⟩ := List.getElem_of_mem hx
  rw [List.length_drop] at hi
  rw [List.getElem_drop] at e
  have h1 := ha (O.length - n + i) (by omega) (by omega)
  rw [List.getD_eq_getElem?_getD, List.getElem?_eq_getElem (by omega)] at h1
  have h2 : O[O.length - n + i] = n := h1
  rw [e] at h2
  simpa using h2
theorem padOf_no {O : List Nat} {n : Nat} (hn : O.getD (O.length - 1) 0 = n) (h : ¬ (n = 0 ∨ 16 < n)) {i : Nat} (h1 : O.length - n ≤ i) (h2 : i < O.length) (h3 : ¬ O.getD i 0 = n) : padOf O = none := by
  unfold padOf
  simp only [hn]
  rw [if_neg h, if_neg]
  intro hall
  rw [List.all_eq_true] at hall
  have hm : O[i] ∈ O.drop (O.length - n) := by
    have e : O[i] = (O.drop (O.length - n))[i - (O.length - n)]'(by rw [List.length_drop]; omega) := by
      rw [List.getElem_drop]
      congr 1
      omega
    rw [e]
    exact List.getElem_mem _
  have := hall _ hm
  apply h3
  rw [List.getD_eq_getElem?_getD, List.getElem?_eq_getElem h2]
  simpa using this
end A
set_option maxRecDepth 20000 in
set_option maxHeartbeats 1000000 in
theorem ropened_fun (ws : List (List Nat)) (hw : A.okW ws) (r : Nat) (hl : ws.length = 4 * (r + 1)) (hz : r ≤ 20) (i0 : List Nat) (hi : A.ok 16 i0) (s : List Nat) (hs : ∀ x ∈ s, x < 256) (K : Nat) (hK : s.length = 16 * (K + 1)) (zs : s.length ≤ 140737488351232) (kc : Nat) (w : World) (hc : Cph w kc ws) :
    Calls Try.prog 14 #[.pointer (some ⟨kc, 0, none⟩), aB i0, .string (sOf s)] w fun e w' => e = .returned (opV (A.openS ws i0 s)) ∧ Below w.heap.size w w' := by
  obtain ⟨O, hO⟩ : ∃ O, O = A.openB ws (K + 1) i0 s := ⟨_, rfl⟩
  have TOT : Hid (([] ++ A.openB ws (K + 1) i0 s = O ∧ A.ok (16 * (K + 1)) s ∧ A.ok 16 i0) ∧ ([] : List Nat).length + 16 * (K + 1) = 16 * (K + 1)) := ⟨⟨by rw [hO]; rfl, ⟨hK, hs⟩, hi⟩, by simp⟩
  have OO : Hid (A.ok (16 * (K + 1)) O) := by rw [hO]; exact A.openB_ok hw (K + 1) hi ⟨hK, hs⟩
  have AN : Hid (∀ x, A.padOf O = x → opV (A.openS ws i0 s) = opV (match x with | some n => some (O.take (16 * (K + 1) - n)) | none => none)) := fun x hx => by
    unfold A.openS
    rw [hK, show 16 * (K + 1) / 16 = K + 1 by omega, ← hO, hx]
    cases x <;> exact rfl
  have DU : Hid (∀ b W, A.ok 16 b → Below w.heap.size w W → Calls Try.prog 42 #[.pointer (some ⟨kc, 0, none⟩), aB b] W fun e w' => e = .returned (aB (A.decS ws b)) ∧ Below W.heap.size W w') := fun b W hb hW => rdecrypt_fun ws hw r hl hz b hb kc W (hc.up hW)
  have DO : Hid (∀ b, A.ok 16 b → A.ok 16 (A.decS ws b)) := fun b hb => A.decS_ok hw hb
  obtain ⟨x0, x1⟩ := al1 w (i0.map b8).toArray 23
  have X0 : Hid (Blk _ w.heap.size (i0.map b8)) := x0
  have X1 : Hid (Below w.heap.size w _) := x1
  have sz : (sOf s).size = s.length := sOf_size s
  have ne : ((sOf s).toList == ([] : List UInt8)) = false := by
    rw [ByteArray.toList_eq, sOf_data]
    cases s with
    | nil => simp at hK
    | cons a t => rfl
  have ne2 : (sOf s).toList.isEmpty = false := by
    rw [ByteArray.toList_eq, sOf_data]
    cases s with
    | nil => simp at hK
    | cons a t => rfl
  have KL : Hid (16 * (K + 1) ≤ 140737488351232) := by rw [← hK]; exact zs
  rw [hK] at sz
  have m1 : ((16 * (K + 1) : Nat) : Int).tmod 16 = 0 := by rw [Int.tmod_eq_emod_of_nonneg (by omega)]; omega
  have m2 : ((16 * (K + 1) : Nat) : Int) % 16 = 0 := by omega
  have KN : Hid (∃ K', K' = K + 1) := ⟨_, rfl⟩
  have HK : Hid (s.length = 16 * (K + 1)) := hK
  obtain ⟨N, hN⟩ : ∃ N, N = 16 * (K + 1) := ⟨_, rfl⟩
  rw [← hN] at sz m1 m2
  have HN : Hid (N = 16 * (K + 1)) := hN
  have E0 : (sOf ([] : List Nat)) = ⟨#[]⟩ := rfl
  obtain ⟨T, hT⟩ : ∃ T, T = sOf s := ⟨_, rfl⟩
  have HT : Hid (T = sOf s) := hT
  rw [← hT] at sz ne ne2 ⊢
  clear x0 x1 hw hl hz hi hs zs hc hO hK hN hT
  go_enter Try.func14, Try.ntmps14
  go_wp2_with fail
  generalize w.alloc _ = w1 at *
  clear ne ne2 m1 m2 sz E0
  go_loopg [2, 8] (K + 1) (fun gk sv o wr => ∃ (iv P out : List Nat), sv = .string (sOf P) ∧ o = .string (sOf out) ∧ Hid ((out ++ A.openB ws gk iv P = O ∧ A.ok (16 * gk) P ∧ A.ok 16 iv) ∧ out.length + 16 * gk = 16 * (K + 1)) ∧ Hid (Blk wr w.heap.size (iv.map b8)) ∧ Hid (Below w.heap.size w wr))
  case atStart => exact ⟨i0, s, [], by rw [HT.out], rfl, TOT, X0, X1⟩
  case round =>
    clear X0 X1 TOT HT
    obtain ⟨iv, P, out, rfl, rfl, TT, X0, X1⟩ := hrel
    have PZ : (sOf P).size = 16 * gk := by rw [sOf_size]; exact TT.out.1.2.1.1
    rcases Nat.eq_zero_or_pos gk with h0 | h0
    · subst h0
      have z0 : ¬ (0 : Int) < ((sOf P).size : Int) := by rw [PZ]; decide
      have FE : out = O := by
        have := TT.out.1.1
        rw [A.openB, List.append_nil] at this
        exact this
      subst FE
      clear PZ TT
      generalize sOf P = TP at *
      have OG : Hid (∀ (j : Nat) (h : j < (sOf out).size), ((sOf out)[j]'h).toNat = out.getD j 0) := sOf_get OO.out.2
      have OZ : (sOf out).size = N := by rw [sOf_size, HN.out]; exact OO.out.1
      have OL : Hid (out.length = N) := by rw [HN.out]; exact OO.out.1
      have LOW : Hid (∀ j, out.getD j 0 < 256) := getD_low OO.out.2
      have NB : Hid (16 ≤ N ∧ N ≤ 140737488351232) := by have h1 := KL.out; have h2 := HN.out; show _ ∧ _; omega
      rw [← HN.out] at AN
      obtain ⟨n, hn⟩ : ∃ n, out.getD (out.length - 1) 0 = n := ⟨_, rfl⟩
      have HLn : Hid (out.getD (out.length - 1) 0 = n) := hn
      have n256 : n < 256 := by rw [← hn]; exact LOW.out _
      obtain ⟨l1, hl1⟩ : ∃ l1, l1 = N - 1 := ⟨_, rfl⟩
      have NB' := NB.out
      have w1_ : IntKind.i64.wrap ((N : Int) - 1) = (l1 : Int) := by rw [IntKind.wrap_i64]; omega
      have I1 : Hid (∀ W, (Instr.index 9 (.string (sOf out)) (.int .i64 (l1 : Int))).run Try.prog W = .ok (b8 n) W) := fun W => by
        have := run_idxS (sOf out) l1 (by omega) .i64 W
        have e : out.getD l1 0 = n := by rw [hl1, ← OL.out]; exact hn
        rw [OG.out l1 (by omega), e] at this
        exact this
      have i1 := fun W => I1.out W
      have wn : IntKind.i64.wrap (n : Int) = (n : Int) := by rw [IntKind.wrap_i64]; omega
      have FT : Hid (∀ m, (sOf out).extract 0 m = sOf (out.take m)) := fun m => sOf_front out m
      obtain ⟨TO, hTO⟩ : ∃ TO, TO = sOf out := ⟨_, rfl⟩
      rw [← hTO] at OZ i1 OG FT ⊢
      clear hTO hn I1 hl1 OO HN KN HK KL
      by_cases hb : n = 0 ∨ 16 < n
      · have PV : Hid _ := AN.out none (A.padOf_bad HLn.out hb)
        by_cases h0 : n = 0
        · have b1 : ((n : Int) == 0) = true := by simp [h0]
          clear h0 hb
          go_wp2_with fail
          go_ret2
          exact ⟨by rw [PV.out]; rfl, X1.out⟩
        · have b1 : ((n : Int) == 0) = false := by simp [h0]
          have b2 : (16 : Int) < (n : Int) := by omega
          clear h0 hb
          go_wp2_with fail
          go_ret2
          exact ⟨by rw [PV.out]; rfl, X1.out⟩
      · have b1 : ((n : Int) == 0) = false := by
          have : ¬ n = 0 := fun h => hb (.inl h)
          simp [this]
        have b2 : ¬ (16 : Int) < (n : Int) := by omega
        obtain ⟨l2, hl2⟩ : ∃ l2, l2 = N - n := ⟨_, rfl⟩
        have w2_ : IntKind.i64.wrap ((N : Int) - (n : Int)) = (l2 : Int) := by rw [IntKind.wrap_i64]; omega
        have HL2 : Hid (l2 + n = N ∧ 1 ≤ n ∧ n ≤ 16) := by show _ ∧ _; omega
        have HB : Hid (¬ (n = 0 ∨ 16 < n)) := hb
        clear hl2 hb
        go_wp2_with fail
        go_loopw [12] (fun i wr => ∃ j : Nat, l2 ≤ j ∧ j ≤ N ∧ i = .int .i64 (j : Int) ∧ Hid (∀ t, l2 ≤ t → t < j → out.getD t 0 = n) ∧ Hid (Below w.heap.size w wr)) (fun i _ => N - (intOf i).toNat)
        case atStart => exact ⟨l2, by omega, by have := HL2.out; omega, rfl, fun t h1 h2 => absurd h2 (by omega), X1⟩
        case round =>
          clear X1 X0
          obtain ⟨j, hj0, hj, rfl, same, X1⟩ := hrel
          by_cases hj1 : j < N
          · have j1 : (j : Int) < (N : Int) := by omega
            have wj : IntKind.i64.wrap ((j : Int) + 1) = (j : Int) + 1 := by rw [IntKind.wrap_i64]; omega
            have ij : ∀ W, (Instr.index 9 (.string TO) (.int .i64 (j : Int))).run Try.prog W = .ok (b8 (out.getD j 0)) W := fun W => by
              have := run_idxS TO j (by omega) .i64 W
              rw [OG.out j (by omega)] at this
              exact this
            have LJ := LOW.out j
            have HJ : Hid (l2 ≤ j ∧ j < N) := ⟨hj0, hj1⟩
            obtain ⟨x, hx⟩ : ∃ x, out.getD j 0 = x := ⟨_, rfl⟩
            have HX : Hid (out.getD j 0 = x) := hx
            rw [hx] at ij LJ
            have wx : IntKind.i64.wrap (x : Int) = (x : Int) := by rw [IntKind.wrap_i64]; omega
            clear hx i1 hj hj0 hj1
            by_cases he : x = n
            · have e1 : ((x : Int) != (n : Int)) = false := by simp [he]
              have HE : Hid (x = n) := he
              clear he
              go_wp2_with fail
              go_roundw
              case rel =>
                refine ⟨j + 1, by have := HJ.out; omega, HJ.out.2, by first | rfl | go_num, fun t h1 h2 => ?_, X1⟩
                rcases Nat.lt_succ_iff_lt_or_eq.1 h2 with h | rfl
                · exact same.out t h1 h
                · rw [HX.out, HE.out]
              case measure => have := HJ.out; simp [intOf]; omega
            · have e1 : ((x : Int) != (n : Int)) = true := by simp; omega
              have PV : Hid _ := AN.out none (A.padOf_no HLn.out HB.out (i := j) (by rw [OL.out]; have := HJ.out; have := HL2.out; omega) (by rw [OL.out]; exact HJ.out.2) (by rw [HX.out]; exact he))
              clear he
              go_wp2_with fail
              go_ret2
              exact ⟨by rw [PV.out]; rfl, X1.out⟩
          · obtain rfl : j = N := by omega
            have PV : Hid _ := AN.out (some n) (A.padOf_yes HLn.out HB.out (fun i h1 h2 => same.out i (by rw [OL.out] at h1; have := HL2.out; omega) (by rw [OL.out] at h2; exact h2)))
            have F2 : Hid (TO.extract 0 l2 = sOf (out.take (j - n))) := by rw [FT.out, show j - n = l2 by have := HL2.out; omega]; exact rfl
            have l2n : (l2 : Int) ≤ (j : Int) := by omega
            have l2m : l2 ≤ j := by omega
            clear hj hj1 hj0 same i1
            go_wp2_with fail
            go_ret2
            exact ⟨by rw [PV.out, F2.out]; rfl, X1.out⟩
    · obtain ⟨m, hm⟩ : ∃ m, gk = m + 1 := ⟨gk - 1, by omega⟩
      have z0 : (0 : Int) < ((sOf P).size : Int) := by rw [PZ]; omega
      have z16 : (16 : Int) ≤ ((sOf P).size : Int) := by rw [PZ]; omega
      have n16 : 16 ≤ (sOf P).size := by rw [PZ]; omega
      subst hm
      have OP := TT.out.1.2.1
      have TK : Hid (A.ok 16 (P.take 16)) := A.ok_take OP
      have DK : Hid (A.ok (16 * m) (P.drop 16)) := A.ok_drop OP
      have IV : Hid (A.ok 16 iv) := TT.out.1.2.2
      have SX : Hid _ := rsixteen_fun (P.take 16) TK.out.2 TK.out.1
      have DE : Hid _ := DU.out (P.take 16)
      have DC : Hid (A.ok 16 (A.decS ws (P.take 16))) := DO.out _ TK.out
      have XR : Hid _ := rxor_fun (A.decS ws (P.take 16)) iv DC.out IV.out
      have AK : Hid (A.ok 16 (A.addK (A.decS ws (P.take 16)) iv)) := A.addK_ok DC.out IV.out
      have NEXT : Hid ((out ++ A.addK (A.decS ws (P.take 16)) iv) ++ A.openB ws m (P.take 16) (P.drop 16) = O) := by
        have := TT.out.1.1
        rw [A.openB, ← List.append_assoc] at this
        exact this
      have FR : Hid ((sOf P).extract 0 16 = sOf (P.take 16)) := sOf_front P 16
      have BK : Hid ((sOf P).extract 16 (sOf P).size = sOf (P.drop 16)) := by rw [sOf_size]; exact sOf_back P 16
      have OL : Hid (out.length + 16 * (m + 1) = 16 * (K + 1)) := TT.out.2
      generalize A.addK (A.decS ws (P.take 16)) iv = ax at *
      generalize A.decS ws (P.take 16) = dx at *
      generalize P.take 16 = pt at *
      obtain ⟨TP, hTP⟩ : ∃ TP, TP = sOf P := ⟨_, rfl⟩
      rw [← hTP] at z0 z16 n16 FR BK ⊢
      clear hTP OP TT PZ h0
      go_wp2_with fail
      rw [FR.out]
      refine Calls.mono (SX.out wr) ?_
      rintro e w2 ⟨rfl, hb2⟩
      have Y2 : Hid (Blk w2 w.heap.size (iv.map b8)) := X0.out.up hb2 X0.out.lt
      have D2 : Hid (Below w.heap.size w w2) := X1.out.trans (hb2.mono X1.out.size)
      obtain ⟨y0, y1⟩ := al1 w2 #[Value.int IntKind.u8 0, Value.int IntKind.u8 0, Value.int IntKind.u8 0, Value.int IntKind.u8 0, Value.int IntKind.u8 0, Value.int IntKind.u8 0, Value.int IntKind.u8 0, Value.int IntKind.u8 0, Value.int IntKind.u8 0, Value.int IntKind.u8 0, Value.int IntKind.u8 0, Value.int IntKind.u8 0, Value.int IntKind.u8 0, Value.int IntKind.u8 0, Value.int IntKind.u8 0, Value.int IntKind.u8 0] 23
      have B2 : Hid (Blk (w2.alloc (.cells #[Value.int IntKind.u8 0, Value.int IntKind.u8 0, Value.int IntKind.u8 0, Value.int IntKind.u8 0, Value.int IntKind.u8 0, Value.int IntKind.u8 0, Value.int IntKind.u8 0, Value.int IntKind.u8 0, Value.int IntKind.u8 0, Value.int IntKind.u8 0, Value.int IntKind.u8 0, Value.int IntKind.u8 0, Value.int IntKind.u8 0, Value.int IntKind.u8 0, Value.int IntKind.u8 0, Value.int IntKind.u8 0] 23)) w2.heap.size (zB 16)) := y0
      have C2 : Hid (Below w2.heap.size w2 (w2.alloc (.cells #[Value.int IntKind.u8 0, Value.int IntKind.u8 0, Value.int IntKind.u8 0, Value.int IntKind.u8 0, Value.int IntKind.u8 0, Value.int IntKind.u8 0, Value.int IntKind.u8 0, Value.int IntKind.u8 0, Value.int IntKind.u8 0, Value.int IntKind.u8 0, Value.int IntKind.u8 0, Value.int IntKind.u8 0, Value.int IntKind.u8 0, Value.int IntKind.u8 0, Value.int IntKind.u8 0, Value.int IntKind.u8 0] 23))) := y1
      have T2 : Hid ((w2.alloc (.cells #[Value.int IntKind.u8 0, Value.int IntKind.u8 0, Value.int IntKind.u8 0, Value.int IntKind.u8 0, Value.int IntKind.u8 0, Value.int IntKind.u8 0, Value.int IntKind.u8 0, Value.int IntKind.u8 0, Value.int IntKind.u8 0, Value.int IntKind.u8 0, Value.int IntKind.u8 0, Value.int IntKind.u8 0, Value.int IntKind.u8 0, Value.int IntKind.u8 0, Value.int IntKind.u8 0, Value.int IntKind.u8 0] 23)).there w2.heap.size 0 (pt.map b8).length) := B2.out.there (by rw [List.length_map, TK.out.1, zB_length]; omega)
      clear hb2 y0 y1 X0 X1 SX
      go_wp2_with (first | simp only [zero_a16] | refine wp_store_eq rfl 23 (.tmp 9) (.tmp 26) rfl w2.heap.size 0 (pt.map b8) rfl rfl T2.out (info_n info_a16 pt TK.out.1) (one_b8 _) ?_)
      intro w3 hw3
      obtain ⟨kb, hkb⟩ : ∃ kb, kb = w2.heap.size := ⟨_, rfl⟩
      rw [← hkb] at B2 hw3 ⊢
      have KG : Hid (w.heap.size < kb) := by rw [hkb]; exact Y2.out.lt
      have B3 : Hid (Blk w3 kb (pt.map b8)) := by rw [hw3.out]; exact B2.out.put (by rw [List.length_map, TK.out.1, zB_length])
      have Y3 : Hid (Blk w3 w.heap.size (iv.map b8)) := by rw [hw3.out]; exact (Y2.out.up C2.out Y2.out.lt).apart (by have := KG.out; omega)
      have D3 : Hid (Below w.heap.size w w3) := by rw [hw3.out]; exact below_setCells _ _ _ (D2.out.trans (C2.out.mono D2.out.size)) (Nat.le_of_lt KG.out)
      clear hw3 T2 C2 B2 Y2 D2 hkb
      go_wp2_with fail
      try simp only [Act.put, List.setIfInBounds_toArray, List.set_cons_succ, List.set_cons_zero]
      refine wp_region_alloc1 5 (.cells #[Value.int IntKind.u8 0, Value.int IntKind.u8 0, Value.int IntKind.u8 0, Value.int IntKind.u8 0, Value.int IntKind.u8 0, Value.int IntKind.u8 0, Value.int IntKind.u8 0, Value.int IntKind.u8 0, Value.int IntKind.u8 0, Value.int IntKind.u8 0, Value.int IntKind.u8 0, Value.int IntKind.u8 0, Value.int IntKind.u8 0, Value.int IntKind.u8 0, Value.int IntKind.u8 0, Value.int IntKind.u8 0] 23) (by kernel_rfl) (by kernel_rfl) (by kernel_rfl) (by kernel_rfl) (by decide) (fun _ _ d _ _ h => by cases d <;> exact h) rfl rfl (fun _ _ => by kernel_rfl) ?_
      apply Exists.intro
      refine ⟨fun U hU f hf hcl => ?_, fun kd w6 hb6 hk6 hc6 => ?_⟩
      · have RB : Hid (∀ n, (f n).rangeAt kb 0 (pt.map b8)) := fun n => (B3.out.up (hf n).out B3.out.lt).all
        have RI : Hid (∀ n, (f n).rangeAt w.heap.size 0 (iv.map b8)) := fun n => (Y3.out.up (hf n).out Y3.out.lt).all
        have DF : Hid (∀ n, _) := fun n => DE.out (f n) TK.out (D3.out.trans ((hf n).out.mono D3.out.size))
        have XF : Hid (∀ n, _) := fun n => XR.out (f n)
        clear hf
        simp only [List.take_succ_cons, List.take_zero]
        repeat (first | (refine quietA_ld rfl u_a16 info_a16 (.tmp 9) rfl kb 0 rfl pt TK.out.1 (fun W hW => by obtain ⟨n, rfl⟩ := hW; exact RB.out n) ?_; simp only [Act.put, List.setIfInBounds_toArray, List.set_cons_succ, List.set_cons_zero]) | (refine quietA_ld rfl u_a16 info_a16 (.tmp 4) rfl w.heap.size 0 rfl iv IV.out.1 (fun W hW => by obtain ⟨n, rfl⟩ := hW; exact RI.out n) ?_; simp only [Act.put, List.setIfInBounds_toArray, List.set_cons_succ, List.set_cons_zero]) | go_big_quiet_step (first | (go_at_call 42; exact (DF.out _).mono fun e w'' ⟨he, hb⟩ => ⟨he, hcl.out _ _ hb⟩) | (go_at_call 41; exact (XF.out _).mono fun e w'' ⟨he, hb⟩ => ⟨he, hcl.out _ _ hb⟩)))
        exact wpQuiet_nil rfl
      simp only [List.drop_succ_cons, List.drop_zero]
      have K6 : Hid (Blk w6 kd (zB 16)) := Blk.of_heap hc6.out
      have B6 : Hid (Blk w6 kb (pt.map b8)) := B3.out.up hb6.out B3.out.lt
      have Y6 : Hid (Blk w6 w.heap.size (iv.map b8)) := Y3.out.up hb6.out Y3.out.lt
      have D6 : Hid (Below w.heap.size w w6) := D3.out.trans (hb6.out.mono D3.out.size)
      have KD : Hid (kb < kd) := Nat.lt_of_lt_of_le B3.out.lt hk6
      have T6 : Hid (w6.there kd 0 (ax.map b8).length) := K6.out.there (by rw [List.length_map, AK.out.1, zB_length]; omega)
      clear hb6 hk6 hc6 B3 Y3 D3 DE XR
      have SD : Hid (∀ W, _) := fun W => slice_all u_a16 info_b1 (by decide) kd 0 W
      go_wp2_with (refine wp_store_eq rfl 23 (.tmp 10) (.tmp 31) rfl kd 0 (ax.map b8) rfl rfl T6.out (info_n info_a16 ax AK.out.1) (one_b8 _) ?_)
      intro w7 hw7
      have K7 : Hid (Blk w7 kd (ax.map b8)) := by rw [hw7.out]; exact K6.out.put (by rw [List.length_map, AK.out.1, zB_length])
      have B7 : Hid (Blk w7 kb (pt.map b8)) := by rw [hw7.out]; exact B6.out.apart (by have := KD.out; omega)
      have Y7 : Hid (Blk w7 w.heap.size (iv.map b8)) := by rw [hw7.out]; exact Y6.out.apart (by have h1 := KD.out; have h2 := KG.out; omega)
      have D7 : Hid (Below w.heap.size w w7) := by rw [hw7.out]; exact below_setCells _ _ _ D6.out (by have h1 := KD.out; have h2 := KG.out; omega)
      have BY : Hid (By w7 (.slice (some ⟨kd, 0, none⟩) 16 16) ax) := By.of_blk K7.out AK.out.1
      have S7 := SD.out w7
      have oa : (sOf out).size = out.length := sOf_size out
      have ob : (sOf ax).size = 16 := by rw [sOf_size]; exact AK.out.1
      have OA : Hid (sOf out ++ sOf ax = sOf (out ++ ax)) := sOf_append out ax
      have KL' := KL.out
      have OL' := OL.out
      have hlim : ¬ 9223372036854775807 < out.length + 16 := by omega
      generalize sOf out = uo at *
      clear hw7 T6 K6 B6 Y6 D6 SD
      go_wp2_with (refine wp_conv rfl (.tmp 33) rfl _ ax rfl BY.out ?_)
      refine wp_region_two 1 2 [0, 3, 4] [_, _, _] (.string TP) (.string (sOf (P.drop 16))) (by kernel_rfl) (by kernel_rfl) (fun _ _ d _ _ h => by cases d <;> exact h) rfl rfl (by kernel_rfl) (by kernel_rfl) rfl rfl (by kernel_rfl) (.inl ⟨rfl, fun W => by simp [go_sem]⟩) (.inl ⟨rfl, fun W => by simp [go_sem, Act.put, n16, z16, BK.out]⟩) ?_
      intro w8 hb8 _
      simp only [Act.put, List.setIfInBounds_toArray, List.set_cons_succ, List.set_cons_zero, List.getElem_toArray, List.getElem_cons_zero, List.getElem_cons_succ]
      have B8 : Hid (Blk w8 kb (pt.map b8)) := B7.out.up hb8.out B7.out.lt
      have Y8 : Hid (Blk w8 w.heap.size (iv.map b8)) := Y7.out.up hb8.out Y7.out.lt
      have D8 : Hid (Below w.heap.size w w8) := D7.out.trans (hb8.out.mono D7.out.size)
      have T8 : Hid (w8.there w.heap.size 0 (pt.map b8).length) := Y8.out.there (by rw [List.length_map, List.length_map, TK.out.1, IV.out.1]; omega)
      have IT : Hid _ := info_n info_a16 pt TK.out.1
      clear hb8 B7 Y7 D7 K7 BY S7
      go_wp2_with (first | refine wpList_load_mid rfl 23 (.tmp 9) rfl kb 0 rfl (pt.map b8) _ B8.out.all u_a16 rfl IT.out ?_ | refine wp_store_eq rfl 23 (.tmp 4) (.tmp 36) rfl w.heap.size 0 (pt.map b8) rfl rfl T8.out IT.out (one_b8 _) ?_)
      intro w9 hw9
      have Y9 : Hid (Blk w9 w.heap.size (pt.map b8)) := by rw [hw9.out]; exact Y8.out.put (by rw [List.length_map, List.length_map, TK.out.1, IV.out.1])
      have D9 : Hid (Below w.heap.size w w9) := by rw [hw9.out]; exact below_setCells _ _ _ D8.out (Nat.le_refl _)
      clear hw9 T8 B8 Y8 D8 IT
      go_wp2_with fail
      rw [OA.out]
      go_roundg m
      case measure => omega
      case rel => exact ⟨pt, P.drop 16, out ++ ax, rfl, rfl, ⟨⟨NEXT.out, DK.out, TK.out⟩, by rw [List.length_append, AK.out.1]; have := OL.out; omega⟩, Y9, D9⟩
end Go.Proofs.Ytmfbdacalenfdaa
