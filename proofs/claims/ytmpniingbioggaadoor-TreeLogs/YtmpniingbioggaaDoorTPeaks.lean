/- The contract of sealringref.Peaks; slices of slices that are cut. -/
import Derived.Test.YtmpniingbioggaaDoorTCheck
namespace Go.Proofs.YtmpniingbioggaaDoor
open Go.RowKit
set_option linter.unusedSimpArgs false
theorem size_bytes (w : World) : (sizeOf 23).run Tryd.prog w = .ok 1 w := by
  have e : (Tryd.prog.info? 23).map (·.size) = some 1 := by kernel_rfl
  cases hq : Tryd.prog.info? 23 with
  | none => simp [hq] at e
  | some i =>
    have hi : i.size = 1 := by simpa [hq] using e
    simp [sizeOf, typeInfo, hq, hi]
theorem slice_elemS : Tryd.prog.underlying 22 = some (.slice (Tryd.prog.elem 22)) := by kernel_rfl
theorem elem_bss : Tryd.prog.elem 22 = 23 := by kernel_rfl
theorem Sb.cut {w : World} {a : Option Addr} {c n : Nat} {ls : List (List Nat)} (h : Sb w (.slice a ls.length c) ls) (hn : n ≤ ls.length) : Sb w (sliced a n ls.length c 1) (ls.drop n) := by
  obtain ⟨a', c', e, h1, h3⟩ := h
  cases e
  have hl : (ls.drop n).length = ls.length - n := List.length_drop
  refine ⟨if c = n then a else a.map (·.add (n * 1)), c - n, by rw [hl, sliced], by omega, fun hp => ?_⟩
  obtain ⟨b, o, e, hc⟩ := h3 (by omega)
  subst e
  refine ⟨b, o + n, ?_, fun j hj => ?_⟩
  · rw [if_neg (by omega), Nat.mul_one]
    simp [Addr.add_lit]
  · obtain ⟨u, hu, hy⟩ := hc (n + j) (by omega)
    refine ⟨u, by rw [Nat.add_assoc]; exact hu, ?_⟩
    have e : (ls.drop n).getD j [] = ls.getD (n + j) [] := by simp [List.getD_eq_getElem?_getD]
    rw [e]
    exact hy
theorem Sb.front {w : World} {a : Option Addr} {c n : Nat} {ls : List (List Nat)} (h : Sb w (.slice a ls.length c) ls) (hn : n ≤ ls.length) : Sb w (sliced a 0 n c 1) (ls.take n) := by
  obtain ⟨a', c', e, h1, h3⟩ := h
  cases e
  have hl : (ls.take n).length = n := by rw [List.length_take]; omega
  refine ⟨a, c, ?_, by omega, fun hp => ?_⟩
  · rw [hl, sliced]
    cases a with
    | none => simp
    | some a => simp [Addr.add_zero']
  · obtain ⟨b, o, e, hc⟩ := h3 (by omega)
    refine ⟨b, o, e, fun j hj => ?_⟩
    obtain ⟨u, hu, hy⟩ := hc j (by omega)
    refine ⟨u, hu, ?_⟩
    have e : (ls.take n).getD j [] = ls.getD j [] := by simp [List.getD_eq_getElem?_getD, List.getElem?_take, show j < n by omega]
    rw [e]
    exact hy
theorem wp_cutS {ops : Array Oper} {rest : List Oper} {o : Oper} {act : Act} {Q : Exit → Act → World → Prop} {w : World} (hgd : o.guard = none) (x l : Operand)
    (ho : o.op = .slice 22 x (some l) none none) (a : Option Addr) (m c n : Nat) (k : IntKind) (z : Int) (ls : List (List Nat)) (hx : act.eval x = .slice a m c) (hm : m = ls.length) (hl : act.eval l = .int k z) (hz : z = (n : Int)) (hn : n ≤ ls.length) (W0 : World) (hb : Sb W0 (.slice a m c) ls)
    (h : ∀ v', Sb W0 v' (ls.drop n) → wpList Tryd.prog ops Q rest (act.put o.dst v') w) : wpList Tryd.prog ops Q (o :: rest) act w := by
  subst hm hz
  refine wpList_plain hgd fun K hK2 => ?_
  have e : (Instr.sliceAt 22 (.slice a ls.length c) (some (.int k (n : Int))) none none).run Tryd.prog w = .ok (sliced a n ls.length c 1) w := by
    rw [run_sliceAt_slice (h := slice_elemS), run_slice_l (ht := slice_elemS) (h0 := by omega) (h1 := by omega), elem_bss, size_bytes]
    simp
  unfold Oper.wp
  simp [execOp, ho, hx, hl, e, Result.andThen]
  exact hK2 _ _ (h _ (hb.cut hn))
theorem wp_frontS {ops : Array Oper} {rest : List Oper} {o : Oper} {act : Act} {Q : Exit → Act → World → Prop} {w : World} (hgd : o.guard = none) (x l : Operand)
    (ho : o.op = .slice 22 x none (some l) none) (a : Option Addr) (m c n : Nat) (k : IntKind) (z : Int) (ls : List (List Nat)) (hx : act.eval x = .slice a m c) (hm : m = ls.length) (hl : act.eval l = .int k z) (hz : z = (n : Int)) (hn : n ≤ ls.length) (W0 : World) (hb : Sb W0 (.slice a m c) ls)
    (h : ∀ v', Sb W0 v' (ls.take n) → wpList Tryd.prog ops Q rest (act.put o.dst v') w) : wpList Tryd.prog ops Q (o :: rest) act w := by
  subst hm hz
  refine wpList_plain hgd fun K hK2 => ?_
  have hc : ls.length ≤ c := by obtain ⟨_, _, e, h1, _⟩ := hb; cases e; exact h1
  have e : (Instr.sliceAt 22 (.slice a ls.length c) none (some (.int k (n : Int))) none).run Tryd.prog w = .ok (sliced a 0 n c 1) w := by
    rw [run_sliceAt_slice (h := slice_elemS), run_slice_h (ht := slice_elemS) (h0 := by omega) (h2 := by omega), elem_bss, size_bytes]
    simp
  unfold Oper.wp
  simp [execOp, ho, hx, hl, e, Result.andThen]
  exact hK2 _ _ (h _ (hb.front hn))
theorem i64_and (a b : Nat) (ha : a < 4611686018427387904) (hb : b < 4611686018427387904) : bits .and .i64 (a : Int) (b : Int) = ((a &&& b : Nat) : Int) := by
  show IntKind.i64.wrap (((BitVec.ofInt 64 (a : Int) &&& BitVec.ofInt 64 (b : Int)).toNat : Nat) : Int) = _
  have e1 : (BitVec.ofInt 64 (a : Int)).toNat = a := by rw [BitVec.toNat_ofInt]; omega
  have e2 : (BitVec.ofInt 64 (b : Int)).toNat = b := by rw [BitVec.toNat_ofInt]; omega
  have hl : a &&& b ≤ a := Nat.and_le_left
  rw [BitVec.toNat_and, e1, e2, IntKind.wrap_i64]
  omega
theorem and_pow_pos (a k : Nat) : 0 < a &&& 2 ^ k ↔ a / 2 ^ k % 2 = 1 := by
  have h : a / 2 ^ k % 2 = 1 ↔ a.testBit k = true := by
    rw [Nat.testBit_eq_decide_div_mod_eq]
    simp
  rw [h, Nat.pos_iff_ne_zero]
  constructor
  · intro hn
    apply Classical.byContradiction
    intro hf
    apply hn
    apply Nat.eq_of_testBit_eq
    intro j
    rw [Nat.testBit_and, Nat.zero_testBit]
    by_cases e : k = j
    · subst e
      simp at hf
      simp [hf]
    · simp [Nat.testBit_two_pow_of_ne e]
  · intro hb hz
    have := congrArg (·.testBit k) hz
    simp [hb] at this
def peaksS (ls : List (List Nat)) : List (List Nat) := T.peaksF nodeS (sumS []) 21 (ls.map leafS)
theorem rootS_low (ls : List (List Nat)) : (rootS ls).length = 32 ∧ ∀ x ∈ rootS ls, x < 256 :=
  T.top_all (P := fun d => d.length = 32 ∧ ∀ x ∈ d, x < 256) nodeS (sumS []) nodeS_low ⟨sumS_length _, sumS_low _⟩ (Dlow.leaves ls)
theorem rootS_length (ls : List (List Nat)) : (rootS ls).length = 32 := (rootS_low ls).1
theorem pathS_low (ls : List (List Nat)) (i : Nat) : Dlow (pathS ls i) := T.pathF_all (P := fun d => d.length = 32 ∧ ∀ x ∈ d, x < 256) nodeS nodeS_low _ i (Dlow.leaves ls)
theorem peaksS_low (ls : List (List Nat)) : Dlow (peaksS ls) := T.peaksF_all (P := fun d => d.length = 32 ∧ ∀ x ∈ d, x < 256) nodeS (sumS []) nodeS_low ⟨sumS_length _, sumS_low _⟩ 21 (Dlow.leaves ls)
theorem pow_half (k : Nat) : 2 ^ (k + 1) / 2 = 2 ^ k := by rw [Nat.pow_succ]; omega
theorem pow_le20 {k : Nat} (h : k + 1 ≤ 21) : 2 ^ k ≤ 1048576 := Nat.pow_le_pow_right (n := 2) (by decide) (show k ≤ 20 by omega)
set_option maxRecDepth 20000 in
set_option maxHeartbeats 4000000 in
theorem rpeaks_fun (ls : List (List Nat)) (low : ∀ p ∈ ls, (∀ x ∈ p, x < 256) ∧ p.length ≤ 500000000000000) (zl : ls.length ≤ 1000000) (v : Value) (w : World) (hv : Sb w v ls) (hT : RTab w) :
    Calls Tryd.prog 23 #[v] w fun e w' => (∃ v', e = .returned v' ∧ Od w' w.heap.size v' (peaksS ls)) ∧ Below w.heap.size w w' := by
  have HV : Hid (Sb w v ls) := hv
  have HT : Hid (RTab w) := hT
  have LO : Hid (∀ p ∈ ls, (∀ x ∈ p, x < 256) ∧ p.length ≤ 500000000000000) := low
  have TG : Hid ([] ++ T.peaksF nodeS (sumS []) 21 (ls.map leafS) = peaksS ls) := rfl
  have ZL : Hid (ls.length < 2 ^ 21 ∧ ls.length ≤ 1000000) := (by omega : ls.length < 2 ^ 21 ∧ ls.length ≤ 1000000)
  generalize peaksS ls = target at *
  clear hv hT low zl
  go_enter Tryd.func23, Tryd.ntmps23
  go_wp2_with fail
  go_loopw [0, 3, 4] (fun s o nx wr => ∃ (K : Nat) (rest out : List (List Nat)), K ≤ 21 ∧ nx = .int .i64 ((2 ^ K / 2 : Nat) : Int) ∧ Hid (Sb w s rest) ∧ Hid (rest.length < 2 ^ K ∧ rest.length ≤ 1000000) ∧ Hid (∀ p ∈ rest, (∀ x ∈ p, x < 256) ∧ p.length ≤ 500000000000000) ∧ Hid (Od wr w.heap.size o out) ∧ Hid (out.length + K ≤ 21) ∧ Hid (out ++ T.peaksF nodeS (sumS []) K (rest.map leafS) = target) ∧ Hid (Below w.heap.size w wr)) (fun _ _ nx _ => (intOf nx).toNat)
  case atStart => exact ⟨21, ls, [], by omega, rfl, HV, ZL, LO, Od.nil _ _, (by decide : 0 + 21 ≤ 21), TG, Below.refl _ _⟩
  case round =>
    clear HV ZL LO TG
    obtain ⟨K, rest, out, hK, rfl, sb, rl, lo, oo, ol, tg, hb⟩ := hrel
    obtain ⟨sa, sc, rfl, _, _⟩ := id sb.out
    cases K with
    | zero =>
      have RS : Hid (out = target) := by
        have h := tg.out
        rw [T.peaksF, List.append_nil] at h
        exact h
      rw [RS.out] at oo
      clear tg rl lo ol sb RS
      go_wp2_with fail
      go_ret
      exact ⟨⟨_, rfl, oo.out⟩, hb.out⟩
    | succ k =>
      rw [pow_half]
      have P1 := pow_le20 hK
      have P0 : 0 < 2 ^ k := Nat.two_pow_pos k
      have tg1 := tg.out
      rw [T.peaksF, List.length_map] at tg1
      have rl1 := rl.out.1
      have rl2 := rl.out.2
      rw [Nat.pow_succ] at rl1
      have AN := i64_and rest.length (2 ^ k) (by omega) (by omega)
      have AP := and_pow_pos rest.length k
      have BT := T.below_two rl1
      have OL : Hid (out.length + 1 ≤ 4398046511103) := by
        have : out.length + 1 ≤ 4398046511103 := by have := ol.out; omega
        exact this
      have wq : ∀ P : Nat, P ≤ 1048576 → IntKind.i64.wrap ((P : Int) / 2) = (P : Int) / 2 := fun P h => by rw [IntKind.wrap_i64]; omega
      have wp := wq (2 ^ k) P1
      by_cases hbit : rest.length / 2 ^ k % 2 = 1
      · rw [if_pos hbit] at tg1
        have a0 : (0 : Int) < ((rest.length &&& 2 ^ k : Nat) : Int) := by have := AP.2 hbit; omega
        have hP : 2 ^ k ≤ rest.length := by
          have := (Nat.le_div_iff_mul_le (Nat.two_pow_pos k)).1 (T.bit_one hbit)
          omega
        have RR : Hid _ := rroot_fun (rest.take (2 ^ k)) (fun p hp => lo.out p (List.mem_of_mem_take hp)) (by rw [List.length_take]; omega)
        have RL : Hid ((rootS (rest.take (2 ^ k))).length = 32) := rootS_length _
        have RE : Hid (rootS (rest.take (2 ^ k)) = T.top nodeS (sumS []) ((rest.map leafS).take (2 ^ k))) := by
          have : rootS (rest.take (2 ^ k)) = T.top nodeS (sumS []) ((rest.map leafS).take (2 ^ k)) := by rw [rootS, List.map_take]
          exact this
        have TG : Hid ((out ++ [rootS (rest.take (2 ^ k))]) ++ T.peaksF nodeS (sumS []) k ((rest.drop (2 ^ k)).map leafS) = target) := by
          have : (out ++ [rootS (rest.take (2 ^ k))]) ++ T.peaksF nodeS (sumS []) k ((rest.drop (2 ^ k)).map leafS) = target := by
            rw [RE.out, List.append_assoc, List.map_drop]
            exact tg1
          exact this
        have RD : Hid ((rest.drop (2 ^ k)).length < 2 ^ k ∧ (rest.drop (2 ^ k)).length ≤ 1000000) := by
          have : (rest.drop (2 ^ k)).length < 2 ^ k ∧ (rest.drop (2 ^ k)).length ≤ 1000000 := by rw [List.length_drop]; omega
          exact this
        have LD : Hid (∀ p ∈ rest.drop (2 ^ k), (∀ x ∈ p, x < 256) ∧ p.length ≤ 500000000000000) := fun p hp => lo.out p (List.mem_of_mem_drop hp)
        have HP : Hid (2 ^ k ≤ rest.length) := hP
        have SB : Hid (Sb w (.slice sa rest.length sc) rest) := sb.out
        have OK : Hid (out.length + (k + 1) ≤ 21) := ol.out
        clear tg tg1 rl rl1 rl2 AP BT wq hbit hP RE lo sb ol
        generalize hR : rootS (rest.take (2 ^ k)) = rr at *
        generalize rest.length &&& 2 ^ k = an at *
        generalize hpp : 2 ^ k = P at *
        have HPP : Hid (2 ^ k = P) := hpp
        generalize hm : rest.length = m at *
        have HM : Hid (m = rest.length) := hm.symm
        have HKK : Hid (k + 1 ≤ 21) := hK
        clear hR hpp hm hK
        have p0 : (0 : Int) < (P : Int) := by omega
        go_wp2_with (refine wp_frontS rfl (.tmp 15) (.tmp 16) rfl sa m sc P .i64 (P : Int) rest rfl HM.out rfl rfl (by rw [← HM.out]; exact HP.out) w SB.out ?_)
        intro v5 s5
        have S5 : Hid (Sb w v5 (rest.take P)) := s5
        clear s5
        go_wp2_with fail
        refine (RR.out v5 wr (S5.out.up hb.out (Nat.le_refl _)) (HT.out.up hb.out HT.out.pos)).mono ?_
        rintro e w6 ⟨rfl, hb6⟩
        have B6 : Hid (Below wr.heap.size wr w6) := hb6
        clear hb6 S5 RR
        go_wp2_with (refine wp_bsD rfl (.tmp 18) rfl rr RL.out rfl ?_)
        intro w7 cc7 hb7
        have B7 : Hid (Below wr.heap.size wr w7) := B6.out.trans (hb7.mono B6.out.size)
        have C7 : Hid (w7.rangeAt w6.heap.size 0 (rr.map b8)) := cc7
        clear cc7 hb7 B6
        go_wp2_with (refine wp_appD rfl (.tmp 14) (.tmp 19) rfl w.heap.size _ out wr _ rr rfl oo.out B7.out rfl C7.out RL.out OL.out hb.out.size ?_)
        intro v8 w8 o8 hb8 _
        have O8 : Hid (Od w8 w.heap.size v8 (out ++ [rr])) := o8
        have D8 : Hid (Below w.heap.size w w8) := hb.out.trans hb8
        clear o8 hb8 B7 C7 oo hb
        go_wp2_with (refine wp_cutS rfl (.tmp 21) (.tmp 22) rfl sa m sc P .i64 (P : Int) rest rfl HM.out rfl rfl (by rw [← HM.out]; exact HP.out) w SB.out ?_)
        intro v9 s9
        have S9 : Hid (Sb w v9 (rest.drop P)) := s9
        clear s9
        go_wp2_with fail
        go_roundw
        case rel =>
          have hpp := HPP.out
          have hkk := HKK.out
          exact ⟨k, rest.drop P, out ++ [rr], by omega, by rw [hpp]; first | rfl | (congr 1; omega), S9, by rw [hpp]; exact RD, LD, O8, (by have := OK.out; rw [List.length_append, List.length_singleton]; omega : (out ++ [rr]).length + k ≤ 21), TG, D8⟩
        case measure =>
          simp [intOf]
          omega
      · rw [if_neg hbit] at tg1
        have a0 : ¬ (0 : Int) < ((rest.length &&& 2 ^ k : Nat) : Int) := by
          have : ¬ 0 < rest.length &&& 2 ^ k := fun h => hbit (AP.1 h)
          omega
        have TG : Hid _ := tg1
        have h4 : rest.length / 2 ^ k = 0 := T.bit_zero BT hbit
        have RD : Hid (rest.length < 2 ^ k ∧ rest.length ≤ 1000000) := ⟨(Nat.div_eq_zero_iff_lt (Nat.two_pow_pos k)).1 h4, rl2⟩
        have OK : Hid (out.length + (k + 1) ≤ 21) := ol.out
        have SB : Hid (Sb w (.slice sa rest.length sc) rest) := sb.out
        clear tg tg1 rl rl1 rl2 AP BT wq hbit h4 ol sb
        generalize rest.length &&& 2 ^ k = an at *
        generalize hpp : 2 ^ k = P at *
        have HPP : Hid (2 ^ k = P) := hpp
        generalize hm : rest.length = m at *
        have HKK : Hid (k + 1 ≤ 21) := hK
        clear hpp hK
        have p0 : (0 : Int) < (P : Int) := by omega
        go_wp2_with fail
        go_roundw
        case rel =>
          have hpp := HPP.out
          have hkk := HKK.out
          exact ⟨k, rest, out, by omega, by rw [hpp]; first | rfl | (congr 1; omega), SB, by rw [hpp, hm]; exact RD, lo, oo, (by have := OK.out; omega : out.length + k ≤ 21), TG, hb⟩
        case measure =>
          simp [intOf]
          omega
end Go.Proofs.YtmpniingbioggaaDoor
