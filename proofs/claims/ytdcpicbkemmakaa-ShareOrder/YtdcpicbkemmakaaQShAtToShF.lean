/- Texts that were joined: ShAt, ShF. -/
import Derived.Test.YtdcpicbkemmakaaQShAw
/- The document's value of the polynomial through shares, by numbers. -/
namespace Go.Proofs.Ytdcpicbkemmakaa
open Go.RowKit
set_option linter.unusedSimpArgs false
/-- A share's place and number, as numbers; of a list of shares. -/
def shX (l : List Shr) (i : Nat) : Nat := (l.getD i shr0).x.toNat % 256
def shN (l : List Shr) (i : Nat) : Nm := (l.getD i shr0).y
def shY (l : List Shr) (i : Nat) : Nat := (shN l i).nat % Cv.ord
/-- The value at x of the polynomial through shares. -/
def atN (l : List Shr) (x : Nat) : Nat := So.hn (shX l) (shY l) l.length x l.length
/-- Shares as the document takes them: places from 1 to 255, numbers below the order. -/
def shOk (s : Shr) : Prop := (1 ≤ s.x ∧ s.x ≤ 255) ∧ s.y.nat < Cv.ord
theorem pow_o (a : Nat) : a ^ (Cv.ord - 2) % Cv.ord = So.iv a := rfl
theorem o_pos : 0 < Cv.ord := by decide
theorem o_256 : Cv.ord < 2 ^ 256 := by decide
theorem sharesAt_fun (l : List Shr) (h0 : 0 < l.length) (h20 : l.length ≤ 20) (ho : ∀ s ∈ l, s.ok ∧ shOk s) (x : Nat) (hx : x < 256) (v : Value) (w : World) (hv : Shs w v l) :
    Calls Try.prog 7 #[v, .int .i64 (x : Int)] w fun e w' => e = .returned (N (nm (atN l x))) ∧ Below w.heap.size w w' := by
  have hv' := hv
  obtain ⟨a, cp, rfl, hc, hm⟩ := hv'
  obtain ⟨b, o, rfl, -⟩ := hm h0
  have XB : ∀ i, shX l i < 256 := fun i => Nat.mod_lt _ (by decide)
  have XO : ∀ i, shX l i < Cv.ord := fun i => Nat.lt_trans (XB i) (by decide)
  have YO : ∀ i, shY l i < Cv.ord := fun i => Nat.mod_lt _ o_pos
  have at_ : ∀ i, i < l.length → l[i]? = some ⟨(shX l i : Int), shN l i⟩ ∧ (shN l i).ok ∧ shY l i = (shN l i).nat := fun i hi => by
    have hm := ho l[i] (List.getElem_mem hi)
    have e : l.getD i shr0 = l[i] := by rw [List.getD_eq_getElem?_getD, List.getElem?_eq_getElem hi]; rfl
    unfold shX shY shN
    rw [e]
    have h1 := hm.2.1
    refine ⟨?_, hm.1.2, Nat.mod_eq_of_lt hm.2.2⟩
    rw [List.getElem?_eq_getElem hi, show (((l[i].x.toNat % 256 : Nat)) : Int) = l[i].x by omega]
  have DL : ∀ i k, So.dd (shX l) (shY l) i k < Cv.ord := fun i k => So.dd_lt _ _ YO i k
  have HL : ∀ m, So.hn (shX l) (shY l) l.length x m < Cv.ord := fun m => So.hn_lt _ _ _ _ _
  have big : ∀ p q : Nat, p < Cv.ord → q < Cv.ord → p * q < 65536 ^ 64 := fun p q hp hq => Nat.lt_of_lt_of_le (Nat.mul_lt_mul'' hp hq) (by decide)
  refine sharesAt_walk l.length b o cp x Cv.ord (Cv.ord - 2) h0 h20 hx (shX l) (So.hn (shX l) (shY l) l.length x) (fun J => So.ml x (shX l J))
    (fun m => So.hn (shX l) (shY l) l.length x m * So.ml x (shX l (l.length - (m + 1))))
    (fun m => So.hn (shX l) (shY l) l.length x m * So.ml x (shX l (l.length - (m + 1))) + So.dd (shX l) (shY l) (l.length - (m + 1)) (l.length - (m + 1)))
    (shN l) (nm (atN l x)) (So.dd (shX l) (shY l)) (fun I K => So.ml (shX l I) (shX l (I - K))) (fun I K => So.iv (So.ml (shX l I) (shX l (I - K))))
    (fun I K => So.ml (So.dd (shX l) (shY l) I (K - 1)) (So.dd (shX l) (shY l) (I - 1) (K - 1)))
    (fun I K => So.ml (So.dd (shX l) (shY l) I (K - 1)) (So.dd (shX l) (shY l) (I - 1) (K - 1)) * So.iv (So.ml (shX l I) (shX l (I - K)))) w
    XB ?_ ?_ prime_fun ?_ ?_ ?_ ?_ ?_ ?_ ?_ ?_ ?_ ?_ rfl ?_
  · intro W hW i hi
    obtain ⟨a', c', e, -, h⟩ := hv.up (hW.mono (Nat.le_refl _))
    cases e
    obtain ⟨b', o', e, h⟩ := h h0
    cases e
    exact h i _ (at_ i hi).1
  · intro i hi W
    have := ofNum_fun (shN l i) (at_ i hi).2.1 W
    rw [← (at_ i hi).2.2] at this
    exact this
  · intro u v W su sv
    have := minus_k Cv.ord 2 (by decide) (by decide) u v W su (by rw [show P.dg 2 = [2] by rw [P.dg_pos (by decide), show 2 / 65536 = 0 from rfl, P.dg_zero]]; exact sv)
    exact this
  · intro I K _ _ _ u v W su sv
    exact modLess_fun _ _ (XO _) (XO _) u v W su sv
  · intro I K _ _ _ u v t W su sv st
    have := power_fun (So.ml (shX l I) (shX l (I - K))) (Cv.ord - 2) Cv.ord (o64 (So.ml_lt _ _)) (Nat.lt_of_le_of_lt (Nat.sub_le _ _) o_256) o_pos o_256 u v t W su sv st
    rwa [pow_o] at this
  · intro I K _ _ _ u v W su sv
    exact modLess_fun _ _ (DL _ _) (DL _ _) u v W su sv
  · intro I K _ _ _ u v W su sv
    exact times_n _ _ (o64 (So.ml_lt _ _)) (o64 (So.iv_lt _)) u v W su sv
  · intro I K hK _ _ u v W su sv
    have := rest_n _ Cv.ord (big _ _ (So.ml_lt _ _) (So.iv_lt _)) o_pos (by decide) u v W su sv
    obtain ⟨k, rfl⟩ : ∃ k, K = k + 1 := ⟨K - 1, by omega⟩
    rw [Nat.add_sub_cancel] at this
    exact this
  · intro J _ u v W su sv
    exact modLess_fun x _ (Nat.lt_trans hx (by decide)) (XO _) u v W su sv
  · intro m _ u v W su sv
    exact times_n _ _ (o64 (HL m)) (o64 (So.ml_lt _ _)) u v W su sv
  · intro m _ u v W su sv
    exact plus_n _ _ (big _ _ (HL m) (So.ml_lt _ _)) (o64 (DL _ _)) u v W su sv
  · intro m _ u v W su sv
    refine rest_n _ Cv.ord ?_ o_pos (by decide) u v W su sv
    have h1 : So.hn (shX l) (shY l) l.length x m * So.ml x (shX l (l.length - (m + 1))) < Cv.ord * Cv.ord := Nat.mul_lt_mul'' (HL m) (So.ml_lt _ _)
    have h2 := DL (l.length - (m + 1)) (l.length - (m + 1))
    have h3 : Cv.ord * Cv.ord + Cv.ord < 65536 ^ 64 := by decide
    omega
  · intro u W su
    exact toNum_of _ (Nat.lt_trans (HL _) o_256) u W su
end Go.Proofs.Ytdcpicbkemmakaa

/- What is wrong with shares, as the document has it. -/
namespace Go.Proofs.Ytdcpicbkemmakaa
open Go.RowKit
attribute [local go_sem] World.cell?_alloc_some cell_alloc2 cell_alloc3 cell_alloc4 frozen?_alloc_cells frozen_out
set_option linter.unusedSimpArgs false
theorem elem_shs : Try.prog.elem 22 = 34 := by kernel_rfl
theorem selem_shs : Try.prog.underlying 22 = some (.slice (Try.prog.elem 22)) := by kernel_rfl
theorem size_shr (w : World) : (sizeOf 34).run Try.prog w = .ok 5 w := by
  obtain ⟨i0, hi, hz⟩ : ∃ i0, Try.prog.info? 34 = some i0 ∧ i0.size = 5 := by
    have h := info_shr
    cases hi : Try.prog.info? 34 with
    | none => rw [hi] at h; cases h
    | some i0 => rw [hi] at h; exact ⟨i0, rfl, by simpa using h⟩
  simp [sizeOf, typeInfo, hi, hz]
/-- The front of a slice of shares. -/
theorem wp_frontH {ops : Array Oper} {rest : List Oper} {o : Oper} {act : Act} {Q : Exit → Act → World → Prop} {w : World} (hgd : o.guard = none) (x l : Operand)
    (ho : o.op = .slice 22 x none (some l) none) (b q n c j : Nat) (hx : act.eval x = .slice (some ⟨b, q, none⟩) n c) (hl : act.eval l = .int .i64 (j : Int)) (hj : j ≤ c)
    (h : wpList Try.prog ops Q rest (act.put o.dst (.slice (some ⟨b, q, none⟩) j c)) w) : wpList Try.prog ops Q (o :: rest) act w := by
  refine wpList_plain hgd fun K hK2 => ?_
  have e : (Instr.sliceAt 22 (.slice (some ⟨b, q, none⟩) n c) none (some (.int .i64 (j : Int))) none).run Try.prog w = .ok (.slice (some ⟨b, q, none⟩) j c) w := by
    rw [run_sliceAt_slice (h := selem_shs), run_slice_h (ht := selem_shs) (h0 := by omega) (h2 := by omega), elem_shs, size_shr]
    simp [sliced, Addr.add_lit]
  unfold Oper.wp
  simp [execOp, ho, hx, hl, e, Result.andThen]
  exact hK2 _ _ h
/-- A share that the document refuses: no place, or too great, or there already. -/
def badS (Sx : Nat → Int) (q : Nat → Int) (i : Nat) : Prop := Sx i < 1 ∨ 255 < Sx i ∨ 0 ≤ q i ∨ ∃ j, j < i ∧ Sx j = Sx i
set_option maxRecDepth 20000 in
set_option maxHeartbeats 4000000 in
theorem fault_walk (n b o cp O : Nat) (x r : Int) (n1 : 0 < n) (n20 : n ≤ 20) (hcp : n ≤ cp) (x0 : 0 ≤ x) (x255 : x ≤ 255) (Sx : Nat → Int) (ys : Nat → Nm) (Y : Nat → Nat) (q : Nat → Int)
    (w : World)
    (CR : Hid (∀ W, Below w.heap.size w W → ∀ i, i < n → W.rangeAt b (o + i * 5) (shC ⟨Sx i, ys i⟩)))
    (r1 : Hid ((∃ i, i < n ∧ badS Sx q i) → r = 1)) (r0 : Hid ((∀ i, i < n → ¬ badS Sx q i) → r = 0))
    (ON : Hid (∀ i, i < n → ∀ W, Calls Try.prog 10 #[N (ys i)] W fun e w' => (∃ v', e = .returned v' ∧ Sl w' v' (P.dg (Y i))) ∧ Below W.heap.size W w'))
    (PR : Hid (∀ W, Calls Try.prog 11 #[] W fun e w' => (∃ v', e = .returned v' ∧ Sl w' v' (P.dg O)) ∧ Below W.heap.size W w'))
    (OR : Hid (∀ i, i < n → ∀ u v W, Sl W u (P.dg (Y i)) → Sl W v (P.dg O) → Calls Try.prog 9 #[u, v] W fun e w' => e = .returned (.int .i64 (q i)) ∧ Below W.heap.size W w')) :
    Calls Try.prog 5 #[.slice (some ⟨b, o, none⟩) n cp, .int .i64 x] w fun e w' => e = .returned (.int .i64 r) ∧ Below w.heap.size w w' := by
  have g20 : ¬ (n : Int) > 20 := by omega
  have z0 : ((n : Int) == 0) = false := by rw [beq_eq_false_iff_ne]; omega
  have xl : ¬ x < 0 := by omega
  have xg : ¬ x > 255 := by omega
  have HC : Hid (n ≤ cp ∧ n ≤ 20) := ⟨hcp, n20⟩
  clear n1 n20 hcp x0 x255
  go_enter Try.func5, Try.ntmps5
  go_wp2_with fail
  clear z0 xl xg g20
  go_loopw [25] (fun i wr => ∃ j : Nat, j ≤ n ∧ i = .int .i64 (j : Int) ∧ Hid (∀ i, i < j → ¬ badS Sx q i) ∧ Hid (Below w.heap.size w wr)) (fun i _ => n - (intOf i).toNat)
  case atStart => exact ⟨0, Nat.zero_le _, rfl, fun i hi => absurd hi (Nat.not_lt_zero _), Below.refl _ _⟩
  case round =>
    obtain ⟨j, hj, rfl, gk, bk⟩ := hrel
    by_cases hlt : j < n
    · have i1 : (j : Int) < (n : Int) := by omega
      have i0 : (0 : Int) ≤ (j : Int) := by omega
      have j20 : (j : Int) < 20 := by have := HC.out; omega
      have HJ : Hid (j < n) := hlt
      clear hlt hj
      have bd : Hid (badS Sx q j → r = 1) := fun h => r1.out ⟨j, HJ.out, h⟩
      have kn : Kn (wr.alloc (.cells (shC ⟨Sx j, ys j⟩).toArray 34)) [(wr.heap.size, shC ⟨Sx j, ys j⟩)] := (Kn.nil wr).al _ 34 rfl
      have ba : Below w.heap.size w (wr.alloc (.cells (shC ⟨Sx j, ys j⟩).toArray 34)) := bk.out.alloc bk.out.size _
      have s2 : Hid (Kn (wr.alloc (.cells #[.int .i64 (Sx j), .int .u64 (ys j).a, .int .u64 (ys j).b, .int .u64 (ys j).c, .int .u64 (ys j).d] 34)) [(wr.heap.size, shC ⟨Sx j, ys j⟩)]) := kn
      have b2 : Hid (Below w.heap.size w (wr.alloc (.cells #[.int .i64 (Sx j), .int .u64 (ys j).a, .int .u64 (ys j).b, .int .u64 (ys j).c, .int .u64 (ys j).d] 34))) := ba
      have c2 : Hid (wr.rangeAt b (o + j * 5) (shC ⟨Sx j, ys j⟩)) := CR.out _ bk.out j HJ.out
      have c3 : Hid ((wr.alloc (.cells shZ.toArray 34)).rangeAt b (o + j * 5) (shC ⟨Sx j, ys j⟩)) := CR.out _ (bk.out.alloc bk.out.size _) j HJ.out
      clear kn ba
      by_cases d1 : Sx j < 1
      · have e1 := bd.out (.inl d1)
        clear bd s2
        go_wp2_with (first | simp only [zero_share] | refine wp_ldW rfl 34 _ rfl b (o + j * 5) rfl [.int .i64 (Sx j), .int .u64 (ys j).a, .int .u64 (ys j).b, .int .u64 (ys j).c, .int .u64 (ys j).d] _ (by first | exact c2.out | exact c3.out) u_share rfl (info_share ⟨Sx j, ys j⟩) ?_)
        go_ret
        exact ⟨by first | rfl | (rw [e1]; rfl), b2.out⟩
      have D1 : Hid (¬ Sx j < 1) := d1
      by_cases d2 : Sx j > 255
      · have e1 := bd.out (.inr (.inl d2))
        clear bd s2
        go_wp2_with (first | simp only [zero_share] | refine wp_ldW rfl 34 _ rfl b (o + j * 5) rfl [.int .i64 (Sx j), .int .u64 (ys j).a, .int .u64 (ys j).b, .int .u64 (ys j).c, .int .u64 (ys j).d] _ (by first | exact c2.out | exact c3.out) u_share rfl (info_share ⟨Sx j, ys j⟩) ?_)
        go_ret
        exact ⟨by first | rfl | (rw [e1]; rfl), b2.out⟩
      have D2 : Hid (¬ Sx j > 255) := d2
      go_wp2_with (first | simp only [zero_share] | refine wp_ldW rfl 34 _ rfl b (o + j * 5) rfl [.int .i64 (Sx j), .int .u64 (ys j).a, .int .u64 (ys j).b, .int .u64 (ys j).c, .int .u64 (ys j).d] _ (by first | exact c2.out | exact c3.out) u_share rfl (info_share ⟨Sx j, ys j⟩) ?_)
      refine (ON.out j HJ.out _).mono ?_
      rintro e w3 ⟨⟨v3, rfl, h3⟩, hb3⟩
      have s3 : Hid (Kn w3 [(wr.heap.size, shC ⟨Sx j, ys j⟩)]) := s2.out.up hb3
      have b3 : Hid (Below w.heap.size w w3) := b2.out.trans (hb3.mono b2.out.size)
      have S3 : Hid (Sl w3 v3 (P.dg (Y j))) := h3
      clear h3 hb3 s2 b2 c2 c3
      go_wp2_with fail
      refine (PR.out _).mono ?_
      rintro e w4 ⟨⟨v4, rfl, h4⟩, hb4⟩
      have s4 : Hid (Kn w4 [(wr.heap.size, shC ⟨Sx j, ys j⟩)]) := s3.out.up hb4
      have b4 : Hid (Below w.heap.size w w4) := b3.out.trans (hb4.mono b3.out.size)
      have S4 : Hid (Sl w4 v3 (P.dg (Y j))) := Sl.up (xs := P.dg (Y j)) S3.out hb4
      have T4 : Hid (Sl w4 v4 (P.dg O)) := h4
      clear h4 hb4 s3 b3 S3
      go_wp2_with fail
      refine (OR.out j HJ.out _ _ _ S4.out T4.out).mono ?_
      rintro e w5 ⟨rfl, hb5⟩
      have s5 : Hid (Kn w5 [(wr.heap.size, shC ⟨Sx j, ys j⟩)]) := s4.out.up hb5
      have b5 : Hid (Below w.heap.size w w5) := b4.out.trans (hb5.mono b4.out.size)
      clear hb5 s4 b4 S4 T4
      by_cases d3 : q j ≥ 0
      · have e1 := bd.out (.inr (.inr (.inl d3)))
        clear bd s5
        go_wp2_with fail
        go_ret
        exact ⟨by first | rfl | (rw [e1]; rfl), b5.out⟩
      have bd2 : Hid ((∃ i, i < j ∧ Sx i = Sx j) → r = 1) := fun h => bd.out (.inr (.inr (.inr h)))
      have nd : Hid ((¬ ∃ i, i < j ∧ Sx i = Sx j) → ¬ badS Sx q j) := fun h hb => by
        rcases hb with h1 | h1 | h1 | h1
        · have := D1.out
          omega
        · have := D2.out
          omega
        · exact d3 h1
        · exact h h1
      have HF : Hid (j ≤ cp) := Nat.le_trans (Nat.le_of_lt HJ.out) HC.out.1
      have d3' : ¬ q j ≥ 0 := d3
      clear bd d1 d2
      go_wp2_with (refine wp_frontH rfl _ _ rfl b o n cp j rfl rfl HF.out ?_)
      clear d3 d3'
      generalize hk : wr.heap.size = k at s5 ⊢
      clear hk
      go_loopw [50] (fun i wr => ∃ m : Nat, m ≤ j ∧ i = .int .i64 (m : Int) ∧ Hid (∀ i, i < m → Sx i ≠ Sx j) ∧ Hid (Kn wr [(k, shC ⟨Sx j, ys j⟩)]) ∧ Hid (Below w.heap.size w wr)) (fun i _ => j - (intOf i).toNat)
      case atStart => exact ⟨0, Nat.zero_le _, rfl, fun i hi => absurd hi (Nat.not_lt_zero _), s5, b5⟩
      case round =>
        clear s5 b5
        obtain ⟨m, hm, rfl, gm, sm, bm⟩ := hrel
        by_cases hl2 : m < j
        · have m1 : (m : Int) < (j : Int) := by omega
          have m0 : (0 : Int) ≤ (m : Int) := by omega
          have HM : Hid (m < j) := hl2
          have c2 : Hid (wr.rangeAt b (o + m * 5) (shC ⟨Sx m, ys m⟩)) := CR.out _ bm.out m (Nat.lt_trans hl2 HJ.out)
          have c3 : Hid ((wr.alloc (.cells shZ.toArray 34)).rangeAt b (o + m * 5) (shC ⟨Sx m, ys m⟩)) := CR.out _ (bm.out.alloc bm.out.size _) m (Nat.lt_trans hl2 HJ.out)
          have s6 : Hid (Kn (wr.alloc (.cells #[.int .i64 (Sx m), .int .u64 (ys m).a, .int .u64 (ys m).b, .int .u64 (ys m).c, .int .u64 (ys m).d] 34)) [(k, shC ⟨Sx j, ys j⟩)]) := sm.out.up ((Below.refl _ _).alloc (Nat.le_refl _) _)
          have b6 : Hid (Below w.heap.size w (wr.alloc (.cells #[.int .i64 (Sx m), .int .u64 (ys m).a, .int .u64 (ys m).b, .int .u64 (ys m).c, .int .u64 (ys m).d] 34))) := bm.out.alloc bm.out.size _
          have cj := Kn.get s6.out 0 0 rfl (rfl : (shC ⟨Sx j, ys j⟩)[0]? = some (.int .i64 (Sx j)))
          clear hl2 hm sm bm
          by_cases hx : Sx m = Sx j
          · have e1 := bd2.out ⟨m, HM.out, hx⟩
            have hx' : (Sx m == Sx j) = true := beq_iff_eq.2 hx
            clear hx bd2
            go_wp2_with (first | simp only [zero_share] | refine wp_ldW rfl 34 _ rfl b (o + m * 5) rfl [.int .i64 (Sx m), .int .u64 (ys m).a, .int .u64 (ys m).b, .int .u64 (ys m).c, .int .u64 (ys m).d] _ (by first | exact c2.out | exact c3.out) u_share rfl (info_share ⟨Sx m, ys m⟩) ?_)
            go_ret
            exact ⟨by first | rfl | (rw [e1]; rfl), b6.out⟩
          · have hx' : (Sx m == Sx j) = false := beq_eq_false_iff_ne.2 hx
            have gm' : Hid (∀ i, i < m + 1 → Sx i ≠ Sx j) := fun i hi => by
              by_cases e : i = m
              · rw [e]; exact hx
              · exact gm.out i (by omega)
            clear hx gm
            go_wp2_with (first | simp only [zero_share] | refine wp_ldW rfl 34 _ rfl b (o + m * 5) rfl [.int .i64 (Sx m), .int .u64 (ys m).a, .int .u64 (ys m).b, .int .u64 (ys m).c, .int .u64 (ys m).d] _ (by first | exact c2.out | exact c3.out) u_share rfl (info_share ⟨Sx m, ys m⟩) ?_)
            clear cj hx'
            go_roundw
            case rel => exact ⟨m + 1, HM.out, by go_num, gm', s6, b6⟩
            case measure => simp [intOf]; have := HM.out; omega
        · have m1 : ¬ (m : Int) < (j : Int) := by omega
          have gk' : Hid (∀ i, i < j + 1 → ¬ badS Sx q i) := fun i hi => by
            by_cases e : i = j
            · rw [e]
              exact nd.out fun ⟨t, ht, hs⟩ => gm.out t (by omega) hs
            · exact gk.out i (by omega)
          have bB : Hid (Below w.heap.size w wr) := bm.out
          clear gm gk nd bd2 sm bm hl2 hm
          go_wp2_with fail
          go_roundw
          case rel => exact ⟨j + 1, HJ.out, by go_num, gk', bB⟩
          case measure => simp [intOf]; have := HJ.out; omega
    · have i1 : ¬ (j : Int) < (n : Int) := by omega
      have e1 := r0.out fun i hi => gk.out i (by omega)
      clear hlt hj
      go_wp2_with fail
      go_ret
      exact ⟨by first | rfl | (rw [e1]; rfl), bk.out⟩
set_option maxHeartbeats 1000000 in
theorem fault_large (a : Option Addr) (n c : Nat) (hn : 20 < n) (x : Int) (w : World) : Calls Try.prog 5 #[.slice a n c, .int .i64 x] w fun e w' => e = .returned (.int .i64 2) ∧ Below w.heap.size w w' := by
  have g : (n : Int) > 20 := by omega
  clear hn
  go_enter Try.func5, Try.ntmps5
  go_wp2_with fail
  go_ret
  exact ⟨rfl, Below.refl _ _⟩
set_option maxHeartbeats 1000000 in
theorem fault_none (a : Option Addr) (c : Nat) (x : Int) (w : World) : Calls Try.prog 5 #[.slice a 0 c, .int .i64 x] w fun e w' => e = .returned (.int .i64 1) ∧ Below w.heap.size w w' := by
  go_enter Try.func5, Try.ntmps5
  go_wp2_with fail
  go_ret
  exact ⟨rfl, Below.refl _ _⟩
set_option maxHeartbeats 1000000 in
theorem fault_less (a : Option Addr) (n c : Nat) (hn : n ≤ 20) (h0 : n ≠ 0) (x : Int) (hx : x < 0) (w : World) : Calls Try.prog 5 #[.slice a n c, .int .i64 x] w fun e w' => e = .returned (.int .i64 1) ∧ Below w.heap.size w w' := by
  have g20 : ¬ (n : Int) > 20 := by omega
  have z0 : ((n : Int) == 0) = false := by rw [beq_eq_false_iff_ne]; omega
  clear hn h0
  go_enter Try.func5, Try.ntmps5
  go_wp2_with fail
  go_ret
  exact ⟨rfl, Below.refl _ _⟩
set_option maxHeartbeats 1000000 in
theorem fault_more (a : Option Addr) (n c : Nat) (hn : n ≤ 20) (h0 : n ≠ 0) (x : Int) (hx : 255 < x) (w : World) : Calls Try.prog 5 #[.slice a n c, .int .i64 x] w fun e w' => e = .returned (.int .i64 1) ∧ Below w.heap.size w w' := by
  have g20 : ¬ (n : Int) > 20 := by omega
  have z0 : ((n : Int) == 0) = false := by rw [beq_eq_false_iff_ne]; omega
  have x0 : ¬ x < 0 := by omega
  have x1 : x > 255 := hx
  clear hn h0 hx
  go_enter Try.func5, Try.ntmps5
  go_wp2_with fail
  go_ret
  exact ⟨rfl, Below.refl _ _⟩
end Go.Proofs.Ytdcpicbkemmakaa
