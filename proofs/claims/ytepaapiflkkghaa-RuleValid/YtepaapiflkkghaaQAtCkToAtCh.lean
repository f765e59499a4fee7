/- Texts that were joined: AtCk, AtCh. -/
import Derived.Test.YtepaapiflkkghaaQAtL
import Derived.Test.YtepaapiflkkghaaQUpToKnO
import Derived.BigQuiet
import Derived.Test.YtepaapiflkkghaaQAtFl
/- Package attr, as it landed: what a kind asks of a value. -/
namespace Go.Proofs.Ytepaapiflkkghaa
open Go.RowKit
attribute [local go_sem] World.cell?_alloc_some cell_alloc2 cell_alloc3 cell_alloc4 frozen?_alloc_cells frozen_out
set_option linter.unusedSimpArgs false
/-- A function that asks for one byte. -/
abbrev oneV (a b : Nat) : Value := .func (.func 74) #[] #[.pointer (some ⟨a, 0, none⟩), .pointer (some ⟨b, 0, none⟩)]
/-- A function that asks for so many bytes at most. -/
abbrev mostV (a : Nat) : Value := .func (.func 75) #[] #[.pointer (some ⟨a, 0, none⟩)]
theorem eql_fit0 (w : World) : (binOp .eql 81 .nilFunc .nilFunc).run Try.prog w = .ok (.bool true) w := by kernel_rfl
theorem eql_fit1 (p q : Nat) (w : World) : (binOp .eql 81 (oneV p q) .nilFunc).run Try.prog w = .ok (.bool false) w := by kernel_rfl
theorem eql_fit2 (p : Nat) (w : World) : (binOp .eql 81 (mostV p) .nilFunc).run Try.prog w = .ok (.bool false) w := by kernel_rfl
set_option maxHeartbeats 1000000 in
theorem oneByte_fun (lo hi : Nat) (w : World) : Calls Try.prog 67 #[.int .u8 (lo : Int), .int .u8 (hi : Int)] w fun e w' => e = .returned (oneV w.heap.size (w.heap.size + 1)) ∧ Kn w' [(w.heap.size + 1, [.int .u8 (hi : Int)]), (w.heap.size, [.int .u8 (lo : Int)])] ∧ Below w.heap.size w w' := by
  have s1 : Hid (Kn ((w.alloc (.cells #[.int .u8 (lo : Int)] 5)).alloc (.cells #[.int .u8 (hi : Int)] 5)) [(w.heap.size + 1, [.int .u8 (hi : Int)]), (w.heap.size, [.int .u8 (lo : Int)])]) := ((Kn.nil w).al [.int .u8 (lo : Int)] 5 rfl).al [.int .u8 (hi : Int)] 5 (by simp)
  have b1 : Hid (Below w.heap.size w ((w.alloc (.cells #[.int .u8 (lo : Int)] 5)).alloc (.cells #[.int .u8 (hi : Int)] 5))) := ((Below.refl _ _).alloc (Nat.le_refl _) _).alloc (by simp) _
  go_enter Try.func67, Try.ntmps67
  go_wp2_with fail
  go_ret
  exact ⟨rfl, s1.out, b1.out⟩
set_option maxHeartbeats 1000000 in
theorem atMost_fun (n : Nat) (w : World) : Calls Try.prog 68 #[.int .i64 (n : Int)] w fun e w' => e = .returned (mostV w.heap.size) ∧ Kn w' [(w.heap.size, [.int .i64 (n : Int)])] ∧ Below w.heap.size w w' := by
  have s1 : Hid (Kn (w.alloc (.cells #[.int .i64 (n : Int)] 3)) [(w.heap.size, [.int .i64 (n : Int)])]) := (Kn.nil w).al [.int .i64 (n : Int)] 3 rfl
  have b1 : Hid (Below w.heap.size w (w.alloc (.cells #[.int .i64 (n : Int)] 3))) := (Below.refl _ _).alloc (Nat.le_refl _) _
  go_enter Try.func68, Try.ntmps68
  go_wp2_with fail
  go_ret
  exact ⟨rfl, s1.out, b1.out⟩
set_option maxHeartbeats 1000000 in
theorem most_fun (n m c : Nat) (a : Option Addr) (p : Nat) (w : World) (hk : Hid (Kn w [(p, [.int .i64 (n : Int)])])) : Calls Try.prog 75 #[.slice a m c, .pointer (some ⟨p, 0, none⟩)] w fun e w' => e = .returned (.bool (decide (m ≤ n))) ∧ Below w.heap.size w w' := by
  have u0 := Kn.get hk.out 0 0 rfl rfl
  have e0 : decide ((m : Int) ≤ (n : Int)) = decide (m ≤ n) := by simp
  go_enter Try.func75, Try.ntmps75
  go_wp2_with fail
  go_ret
  first | exact ⟨rfl, Below.refl _ _⟩ | (rw [e0]; exact ⟨rfl, Below.refl _ _⟩)
set_option maxHeartbeats 2000000 in
theorem one_fun (lo hi : Nat) (xs : List Nat) (v : Value) (p q : Nat) (w : World) (hk : Hid (Kn w [(q, [.int .u8 (hi : Int)]), (p, [.int .u8 (lo : Int)])])) (hv : Hid (By w v xs)) : Calls Try.prog 74 #[v, .pointer (some ⟨p, 0, none⟩), .pointer (some ⟨q, 0, none⟩)] w fun e w' => e = .returned (.bool (decide (xs.length = 1 ∧ lo ≤ xs.getD 0 0 ∧ xs.getD 0 0 ≤ hi))) ∧ Below w.heap.size w w' := by
  have u0 := Kn.get hk.out 0 0 rfl rfl
  have u1 := Kn.get hk.out 1 0 rfl rfl
  obtain ⟨a, c, rfl, -, -, h3⟩ := id hv.out
  by_cases h1 : xs.length = 1
  · obtain ⟨b, o, rfl, h4⟩ := h3 (by omega)
    have u2 : w.cell? ⟨b, o, none⟩ = some (.int .u8 ((xs.getD 0 0 : Nat) : Int)) := h4 0 (by omega)
    generalize xs.getD 0 0 = x at *
    rw [h1]
    clear h3 h4 hk hv
    by_cases g1 : lo ≤ x
    · have g1' : (lo : Int) ≤ (x : Int) := by omega
      by_cases g2 : x ≤ hi
      · have g2' : (x : Int) ≤ (hi : Int) := by omega
        have e1 : decide (1 = 1 ∧ lo ≤ x ∧ x ≤ hi) = true := decide_eq_true ⟨rfl, g1, g2⟩
        rw [e1]
        clear e1 g1 g2 h1
        go_enter Try.func74, Try.ntmps74
        go_wp2_with fail
        go_quiet (fail)
        go_wp2_with fail
        go_ret
        exact ⟨rfl, below_drewN (Below.refl _ _)⟩
      · have g2' : decide (x ≤ hi) = false := decide_eq_false (by omega)
        have e1 : decide (1 = 1 ∧ lo ≤ x ∧ x ≤ hi) = false := decide_eq_false fun h => g2 h.2.2
        rw [e1]
        clear e1 g1 g2 h1
        go_enter Try.func74, Try.ntmps74
        go_wp2_with fail
        go_quiet (fail)
        go_wp2_with fail
        go_ret
        exact ⟨rfl, below_drewN (Below.refl _ _)⟩
    · have g1' : decide (lo ≤ x) = false := decide_eq_false (by omega)
      have e1 : decide (1 = 1 ∧ lo ≤ x ∧ x ≤ hi) = false := decide_eq_false fun h => g1 h.2.1
      rw [e1]
      clear e1 g1 h1
      go_enter Try.func74, Try.ntmps74
      go_wp2_with fail
      go_quiet (fail)
      go_wp2_with fail
      go_ret
      exact ⟨rfl, below_drewN (Below.refl _ _)⟩
  · have n1 : ((xs.length : Int) == 1) = false := beq_eq_false_iff_ne.2 (by omega)
    have e1 : decide (xs.length = 1 ∧ lo ≤ xs.getD 0 0 ∧ xs.getD 0 0 ≤ hi) = false := decide_eq_false fun h => h1 h.1
    rw [e1]
    clear e1 h1 h3 hk hv
    go_enter Try.func74, Try.ntmps74
    go_wp2_with fail
    go_quiet (fail)
    go_wp2_with fail
    go_ret
    exact ⟨rfl, below_drewN (Below.refl _ _)⟩
/-- A function that tells whether a value is one of that kind's. -/
def FitV (w : World) (k : Int) (f : Value) : Prop :=
  (∃ p q lo hi : Nat, f = oneV p q ∧ Kn w [(q, [.int .u8 (hi : Int)]), (p, [.int .u8 (lo : Int)])] ∧ ∀ v, fitA k v = decide (v.length = 1 ∧ lo ≤ v.getD 0 0 ∧ v.getD 0 0 ≤ hi)) ∨
  (∃ p n : Nat, f = mostV p ∧ Kn w [(p, [.int .i64 (n : Int)])] ∧ ∀ v, fitA k v = decide (v.length ≤ n))
theorem fit_one {k : Int} (h : k = 1) (v : List Nat) : fitA k v = decide (v.length = 1 ∧ 1 ≤ v.getD 0 0 ∧ v.getD 0 0 ≤ 4) := by
  unfold fitA
  rw [if_neg (by omega), if_neg (by omega)]
  by_cases g : v.length = 1
  · rw [if_pos g, if_pos h]
    exact decide_eq_decide.2 ⟨fun h => ⟨g, h⟩, fun h => h.2⟩
  · rw [if_neg g]
    exact (decide_eq_false fun h => g h.1).symm
theorem fit_flag {k : Int} (h1 : ¬ k = 1) (h2 : ¬ (k = 2 ∨ k = 3)) (h4 : ¬ k = 4) (v : List Nat) : fitA k v = decide (v.length = 1 ∧ 0 ≤ v.getD 0 0 ∧ v.getD 0 0 ≤ 1) := by
  unfold fitA
  rw [if_neg h2, if_neg h4]
  by_cases g : v.length = 1
  · rw [if_pos g, if_neg h1]
    exact decide_eq_decide.2 ⟨fun h => ⟨g, Nat.zero_le _, h⟩, fun h => h.2.2⟩
  · rw [if_neg g]
    exact (decide_eq_false fun h => g h.1).symm
set_option maxHeartbeats 1000000 in
theorem asked_bad (k : Int) (h : k < 1 ∨ 18 < k) (w : World) : Calls Try.prog 57 #[.int .i64 k] w fun e w' => e = .returned .nilFunc ∧ Below w.heap.size w w' := by
  by_cases h1 : k < 1
  · clear h
    go_enter Try.func57, Try.ntmps57
    go_wp2_with fail
    go_ret
    exact ⟨rfl, Below.refl _ _⟩
  · have h2 : k > 18 := by omega
    clear h
    go_enter Try.func57, Try.ntmps57
    go_wp2_with fail
    go_ret
    exact ⟨rfl, Below.refl _ _⟩
set_option maxHeartbeats 2000000 in
theorem asked_fun (k : Int) (h1 : ¬ k < 1) (h2 : ¬ k > 18) (w : World) : Calls Try.prog 57 #[.int .i64 k] w fun e w' => (∃ f, e = .returned f ∧ FitV w' k f) ∧ Below w.heap.size w w' := by
  have O1 := fun lo hi => oneByte_fun lo hi w
  have M1 := fun n => atMost_fun n w
  by_cases k1 : k = 1
  · have q1 : (k == 1) = true := beq_iff_eq.2 k1
    have HF : Hid _ := fit_one k1
    have O2 := O1 1 4
    clear k1 O1 M1
    go_enter Try.func57, Try.ntmps57
    go_wp2_with fail
    refine O2.mono ?_
    rintro e w1 ⟨rfl, hk, hb⟩
    have HK : Hid _ := hk
    have HB : Hid _ := hb
    clear hk hb O2
    go_wp2_with fail
    go_ret
    exact ⟨⟨_, rfl, .inl ⟨_, _, _, _, rfl, HK.out, HF.out⟩⟩, HB.out⟩
  have q1 : (k == 1) = false := beq_eq_false_iff_ne.2 k1
  by_cases k2 : k = 2 ∨ k = 3
  · have q2 : (k == 2) = true ∨ ((k == 2) = false ∧ (k == 3) = true) := by
      rcases k2 with k | k
      · exact .inl (beq_iff_eq.2 k)
      · exact .inr ⟨beq_eq_false_iff_ne.2 (by omega), beq_iff_eq.2 k⟩
    have HF : Hid (∀ v : List Nat, fitA k v = decide (v.length ≤ 32)) := fun v => by unfold fitA; rw [if_pos k2]
    have M2 := M1 32
    clear k1 k2 O1 M1
    rcases q2 with q2 | ⟨q2, q3⟩
    · go_enter Try.func57, Try.ntmps57
      go_wp2_with fail
      refine M2.mono ?_
      rintro e w1 ⟨rfl, hk, hb⟩
      have HK : Hid _ := hk
      have HB : Hid _ := hb
      clear hk hb M2
      go_wp2_with fail
      go_ret
      exact ⟨⟨_, rfl, .inr ⟨_, _, rfl, HK.out, HF.out⟩⟩, HB.out⟩
    · go_enter Try.func57, Try.ntmps57
      go_wp2_with fail
      refine M2.mono ?_
      rintro e w1 ⟨rfl, hk, hb⟩
      have HK : Hid _ := hk
      have HB : Hid _ := hb
      clear hk hb M2
      go_wp2_with fail
      go_ret
      exact ⟨⟨_, rfl, .inr ⟨_, _, rfl, HK.out, HF.out⟩⟩, HB.out⟩
  have q2 : (k == 2) = false := beq_eq_false_iff_ne.2 (by omega)
  have q3 : (k == 3) = false := beq_eq_false_iff_ne.2 (by omega)
  by_cases k4 : k = 4
  · have q4 : (k == 4) = true := beq_iff_eq.2 k4
    have HF : Hid (∀ v : List Nat, fitA k v = decide (v.length ≤ 64)) := fun v => by unfold fitA; rw [if_neg k2, if_pos k4]
    have M2 := M1 64
    clear k1 k2 k4 O1 M1
    go_enter Try.func57, Try.ntmps57
    go_wp2_with fail
    refine M2.mono ?_
    rintro e w1 ⟨rfl, hk, hb⟩
    have HK : Hid _ := hk
    have HB : Hid _ := hb
    clear hk hb M2
    go_wp2_with fail
    go_ret
    exact ⟨⟨_, rfl, .inr ⟨_, _, rfl, HK.out, HF.out⟩⟩, HB.out⟩
  · have q4 : (k == 4) = false := beq_eq_false_iff_ne.2 k4
    have HF : Hid _ := fit_flag k1 k2 k4
    have O2 := O1 0 1
    clear k1 k2 k4 O1 M1
    go_enter Try.func57, Try.ntmps57
    go_wp2_with fail
    refine O2.mono ?_
    rintro e w1 ⟨rfl, hk, hb⟩
    have HK : Hid _ := hk
    have HB : Hid _ := hb
    clear hk hb O2
    go_wp2_with fail
    go_ret
    exact ⟨⟨_, rfl, .inl ⟨_, _, _, _, rfl, HK.out, HF.out⟩⟩, HB.out⟩
end Go.Proofs.Ytepaapiflkkghaa

/- Package attr, as it landed: Check. -/
namespace Go.Proofs.Ytepaapiflkkghaa
open Go.RowKit
attribute [local go_sem] World.cell?_alloc_some cell_alloc2 cell_alloc3 cell_alloc4 frozen?_alloc_cells frozen_out
set_option linter.unusedSimpArgs false
/-- Which kinds are there, as a row. -/
def thF (p : List Ar) (k : Nat) : Bool := p.any fun y => y.k == (k : Int)
def thC (p : List Ar) : List Value := (List.range 19).map fun k => .bool (thF p k)
def thZ : List Value := List.replicate 19 (.bool false)
theorem zero_th (w : World) : (zeroValue 28).run Try.prog w = .ok (.agg thZ.toArray) w := I.zero_of (by kernel_rfl) w
theorem thC_length (p : List Ar) : (thC p).length = 19 := by rw [thC, List.length_map, List.length_range]
theorem thC_get (p : List Ar) (x : Nat) (hx : x < 19) : (thC p)[x]? = some (.bool (thF p x)) := by
  rw [thC, List.getElem?_map, List.getElem?_range hx]
  rfl
theorem thC_nil : thC [] = thZ := by
  unfold thC thF thZ
  simp only [List.any_nil]
  rw [List.map_const', List.length_range]
theorem thC_set (p : List Ar) (x : Ar) (i : Nat) (hi : x.k = (i : Int)) : (thC p).set i (.bool true) = thC (p ++ [x]) := by
  refine List.ext_getElem (by rw [List.length_set, thC_length, thC_length]) fun m h1 h2 => ?_
  rw [List.getElem_set]
  simp only [thC, List.getElem_map, List.getElem_range]
  unfold thF
  rw [List.any_append, List.any_cons, List.any_nil, Bool.or_false]
  by_cases h : i = m
  · rw [if_pos h, hi, h, beq_self_eq_true, Bool.or_true]
  · rw [if_neg h, hi, beq_eq_false_iff_ne.2 (show ¬ (i : Int) = (m : Int) by omega), Bool.or_false]
theorem thF_mem {p : List Ar} {x : Ar} {i : Nat} (hi : x.k = (i : Int)) (h : thF p i = true) : ∃ y ∈ p, y.k = x.k := by
  obtain ⟨y, hy, e⟩ := List.any_eq_true.1 h
  exact ⟨y, hy, by rw [hi]; exact beq_iff_eq.1 e⟩
theorem thF_out {p : List Ar} {x : Ar} {i : Nat} (hi : x.k = (i : Int)) (h : thF p i = false) : ∀ y ∈ p, y.k ≠ x.k := fun y hy e => by
  have : thF p i = true := List.any_eq_true.2 ⟨y, hy, beq_iff_eq.2 (by rw [e, hi])⟩
  rw [h] at this
  cases this
set_option maxRecDepth 20000 in
set_option maxHeartbeats 4000000 in
theorem check_walk (l : List Ar) (n : Nat) (hn : l.length = n) (n24 : n ≤ 24) (b o c : Nat) (w : World) (HA : Hid (Ats w (.slice (some ⟨b, o, none⟩) n c) l)) :
    Calls Try.prog 33 #[.slice (some ⟨b, o, none⟩) n c] w fun e w' => e = .returned (.int .i64 ((fltL [] l : Nat) : Int)) ∧ Below w.heap.size w w' := by
  have g24 : ¬ (n : Int) > 24 := by omega
  have HN : Hid (l.length = n ∧ n ≤ 24) := ⟨hn, n24⟩
  clear hn n24
  go_enter Try.func33, Try.ntmps33
  have s0 : Hid (Kn (w.alloc (.cells thZ.toArray 28)) [(w.heap.size, thC (l.take 0))]) := by
    rw [List.take_zero, thC_nil]
    exact (Kn.nil w).al thZ 28 rfl
  have b0 : Hid (Below w.heap.size w (w.alloc (.cells thZ.toArray 28))) := (Below.refl _ _).alloc (Nat.le_refl _) _
  go_wp2_with (simp only [zero_th])
  clear g24
  go_loopw [12] (fun i wr => ∃ j : Nat, j ≤ n ∧ i = .int .i64 (j : Int) ∧ Hid (fltL [] l = fltL (l.take j) (l.drop j)) ∧ Hid (Kn wr [(w.heap.size, thC (l.take j))]) ∧ Hid (Below w.heap.size w wr)) (fun i _ => n - (intOf i).toNat)
  case atStart => exact ⟨0, Nat.zero_le _, rfl, rfl, s0, b0⟩
  case round =>
    clear s0 b0
    obtain ⟨j, hj, rfl, no, sk, bk⟩ := hrel
    by_cases hlt : j < n
    · have i1 : (j : Int) < (n : Int) := by omega
      have i0 : (0 : Int) ≤ (j : Int) := by omega
      have j20 : (j : Int) < 24 := by have := HN.out; omega
      have HJ : Hid (j < n) := hlt
      obtain ⟨x, hx⟩ : ∃ x, Hid (l[j]? = some x) := ⟨l[j]'(by have := HN.out; omega), List.getElem?_eq_getElem _⟩
      obtain ⟨xa, xc, ex⟩ := HA.out.elem hx.out
      have E1 : Hid (AtE wr b (o + j * 2) x xa xc) := ex.up bk.out
      have E2 : Hid (∀ (C : Array Value) t, AtE (wr.alloc (.cells C t)) b (o + j * 2) x xa xc) := fun C t => ex.up (bk.out.alloc bk.out.size _)
      have V2 : Hid (By (wr.alloc (.cells #[.int .i64 x.k, .slice xa x.v.length xc] 64)) (.slice xa x.v.length xc) x.v) := (E2.out _ _).2.2
      have s2 : Hid (Kn (wr.alloc (.cells #[.int .i64 x.k, .slice xa x.v.length xc] 64)) [(wr.heap.size, [.int .i64 x.k, .slice xa x.v.length xc]), (w.heap.size, thC (l.take j))]) := sk.out.al [.int .i64 x.k, .slice xa x.v.length xc] 64 rfl
      have b2 : Hid (Below w.heap.size w (wr.alloc (.cells #[.int .i64 x.k, .slice xa x.v.length xc] 64))) := bk.out.alloc bk.out.size _
      have ed : l.drop j = x :: l.drop (j + 1) := by
        have hl : j < l.length := (List.getElem?_eq_some_iff.1 hx.out).1
        rw [List.drop_eq_getElem_cons hl]
        congr 1
        exact (List.getElem?_eq_some_iff.1 hx.out).2
      rw [ed] at no
      have u0 := Kn.get s2.out 0 0 rfl rfl
      clear hlt hj ex bk ed sk
      by_cases kb : x.k < 1 ∨ 18 < x.k
      · have A1 := fun W => asked_bad x.k kb W
        have e1 := no.out.trans (fltL_bad (bad_kind kb) (by decide))
        clear s2 V2 no kb
        go_wp2_with (first | simp only [zero_attr] | refine wp_ldW rfl 64 _ rfl b (o + j * 2) rfl [.int .i64 x.k, .slice xa x.v.length xc] _ (by first | exact E1.out.rng | exact (E2.out _ _).rng) u_attr rfl (info_attr _ _) ?_)
        clear E1 E2
        refine (A1 _).mono ?_
        rintro e w3 ⟨rfl, hb⟩
        have b3 : Hid (Below w.heap.size w w3) := b2.out.trans (hb.mono b2.out.size)
        clear hb b2 A1 u0
        have en := eql_fit0
        go_wp2_with fail
        go_ret
        exact ⟨by first | rfl | (rw [e1]; rfl), b3.out⟩
      have gk : Hid (¬ (x.k < 1 ∨ 18 < x.k)) := kb
      have A1 := fun W => asked_fun x.k (by omega) (by omega) W
      clear kb
      go_wp2_with (first | simp only [zero_attr] | refine wp_ldW rfl 64 _ rfl b (o + j * 2) rfl [.int .i64 x.k, .slice xa x.v.length xc] _ (by first | exact E1.out.rng | exact (E2.out _ _).rng) u_attr rfl (info_attr _ _) ?_)
      clear E1 E2
      refine (A1 _).mono ?_
      rintro e w3 ⟨⟨f, rfl, hf⟩, hb⟩
      have b3 : Hid (Below w.heap.size w w3) := b2.out.trans (hb.mono b2.out.size)
      have s3 : Hid (Kn w3 [(wr.heap.size, [.int .i64 x.k, .slice xa x.v.length xc]), (w.heap.size, thC (l.take j))]) := s2.out.up hb
      have V3 : Hid (By w3 (.slice xa x.v.length xc) x.v) := V2.out.up hb (Nat.le_refl _)
      clear hb b2 s2 V2 A1 u0
      have u1 := Kn.get s3.out 0 1 rfl rfl
      obtain ⟨t, ht⟩ : ∃ t, Hid (fitA x.k x.v = t) := ⟨_, rfl⟩
      rcases hf with ⟨p, q, lo, hi, rfl, hk, hF⟩ | ⟨p, m, rfl, hk, hF⟩
      · have F3 := one_fun lo hi x.v _ p q w3 hk V3
        have en := eql_fit1 p q
        rw [← hF x.v] at F3
        clear hk hF
        go_wp2_with fail
        refine F3.mono ?_
        rintro e w4 ⟨rfl, hb⟩
        have b4 : Hid (Below w.heap.size w w4) := b3.out.trans (hb.mono b3.out.size)
        have s4 : Hid (Kn w4 [(wr.heap.size, [.int .i64 x.k, .slice xa x.v.length xc]), (w.heap.size, thC (l.take j))]) := s3.out.up hb
        clear b3 s3 V3 u1
        clear hb F3 en
        rw [ht.out]
        cases t with
        | false =>
          have e1 := no.out.trans (fltL_bad (bad_form gk.out ht.out) (by decide))
          clear s4 no
          go_wp2_with fail
          go_ret
          exact ⟨by first | rfl | (rw [e1]; rfl), b4.out⟩
        | true =>
          obtain ⟨i, hi⟩ : ∃ i : Nat, Hid (x.k = (i : Int)) := ⟨x.k.toNat, by show _ = _; have := gk.out; omega⟩
          have HI : Hid (i < 19) := by show _ < _; have := gk.out; have := hi.out; omega
          have y0 : (0 : Int) ≤ (i : Int) := by omega
          have y19 : (i : Int) < 19 := by have := HI.out; omega
          have v0 := Kn.get s4.out 0 0 rfl rfl
          rw [hi.out] at v0
          have gx := Kn.get s4.out 1 i rfl (thC_get _ i HI.out)
          by_cases d : thF (l.take j) i = true
          · have e1 := no.out.trans (fltL_bad (by
              obtain ⟨y, hy, e⟩ := thF_mem hi.out d
              exact bad_twice gk.out ht.out hy e) (by decide))
            rw [d] at gx
            clear s4 no
            go_wp2_with fail
            go_ret
            exact ⟨by first | rfl | (rw [e1]; rfl), b4.out⟩
          · have D : Hid (thF (l.take j) i = false) := by show _ = _; simpa using d
            rw [D.out] at gx
            have zx := Kn.fz s4.out 1 rfl
            have etk : l.take (j + 1) = l.take j ++ [x] := by rw [List.take_add_one, hx.out]; rfl
            have no' : Hid (fltL [] l = fltL (l.take (j + 1)) (l.drop (j + 1))) := by
              show _ = _
              rw [no.out, fltL_next (bad_none gk.out ht.out (thF_out hi.out D.out)), etk]
            have s5 : Hid (Kn (w4.setCell ⟨w.heap.size, i, none⟩ (.bool true)) [(w.heap.size, thC (l.take (j + 1)))]) := by
              have := (Kn.set (L := [(wr.heap.size, [.int .i64 x.k, .slice xa x.v.length xc])]) (s4.out.front 1 rfl) i (.bool true) (by rw [thC_length]; exact HI.out)).drop 1
              rw [thC_set _ x i hi.out, ← etk] at this
              exact this
            have b5 : Hid (Below w.heap.size w (w4.setCell ⟨w.heap.size, i, none⟩ (.bool true))) := b4.out.setCell (p := ⟨w.heap.size, i, none⟩) (Nat.le_refl _) _
            clear s4 b4 no d etk
            go_wp2_with fail
            clear gx zx v0
            go_roundw
            case rel => exact ⟨j + 1, HJ.out, by go_num, no', s5, b5⟩
            case measure => simp [intOf]; have := HJ.out; omega
      · have F3 := most_fun m x.v.length xc xa p w3 hk
        have en := eql_fit2 p
        rw [← hF x.v] at F3
        clear hk hF
        go_wp2_with fail
        refine F3.mono ?_
        rintro e w4 ⟨rfl, hb⟩
        have b4 : Hid (Below w.heap.size w w4) := b3.out.trans (hb.mono b3.out.size)
        have s4 : Hid (Kn w4 [(wr.heap.size, [.int .i64 x.k, .slice xa x.v.length xc]), (w.heap.size, thC (l.take j))]) := s3.out.up hb
        clear b3 s3 V3 u1
        clear hb F3 en
        rw [ht.out]
        cases t with
        | false =>
          have e1 := no.out.trans (fltL_bad (bad_form gk.out ht.out) (by decide))
          clear s4 no
          go_wp2_with fail
          go_ret
          exact ⟨by first | rfl | (rw [e1]; rfl), b4.out⟩
        | true =>
          obtain ⟨i, hi⟩ : ∃ i : Nat, Hid (x.k = (i : Int)) := ⟨x.k.toNat, by show _ = _; have := gk.out; omega⟩
          have HI : Hid (i < 19) := by show _ < _; have := gk.out; have := hi.out; omega
          have y0 : (0 : Int) ≤ (i : Int) := by omega
          have y19 : (i : Int) < 19 := by have := HI.out; omega
          have v0 := Kn.get s4.out 0 0 rfl rfl
          rw [hi.out] at v0
          have gx := Kn.get s4.out 1 i rfl (thC_get _ i HI.out)
          by_cases d : thF (l.take j) i = true
          · have e1 := no.out.trans (fltL_bad (by
              obtain ⟨y, hy, e⟩ := thF_mem hi.out d
              exact bad_twice gk.out ht.out hy e) (by decide))
            rw [d] at gx
            clear s4 no
            go_wp2_with fail
            go_ret
            exact ⟨by first | rfl | (rw [e1]; rfl), b4.out⟩
          · have D : Hid (thF (l.take j) i = false) := by show _ = _; simpa using d
            rw [D.out] at gx
            have zx := Kn.fz s4.out 1 rfl
            have etk : l.take (j + 1) = l.take j ++ [x] := by rw [List.take_add_one, hx.out]; rfl
            have no' : Hid (fltL [] l = fltL (l.take (j + 1)) (l.drop (j + 1))) := by
              show _ = _
              rw [no.out, fltL_next (bad_none gk.out ht.out (thF_out hi.out D.out)), etk]
            have s5 : Hid (Kn (w4.setCell ⟨w.heap.size, i, none⟩ (.bool true)) [(w.heap.size, thC (l.take (j + 1)))]) := by
              have := (Kn.set (L := [(wr.heap.size, [.int .i64 x.k, .slice xa x.v.length xc])]) (s4.out.front 1 rfl) i (.bool true) (by rw [thC_length]; exact HI.out)).drop 1
              rw [thC_set _ x i hi.out, ← etk] at this
              exact this
            have b5 : Hid (Below w.heap.size w (w4.setCell ⟨w.heap.size, i, none⟩ (.bool true))) := b4.out.setCell (p := ⟨w.heap.size, i, none⟩) (Nat.le_refl _) _
            clear s4 b4 no d etk
            go_wp2_with fail
            clear gx zx v0
            go_roundw
            case rel => exact ⟨j + 1, HJ.out, by go_num, no', s5, b5⟩
            case measure => simp [intOf]; have := HJ.out; omega
    · have i1 : ¬ (j : Int) < (n : Int) := by omega
      have e1 : fltL [] l = 0 := by
        rw [no.out, List.drop_of_length_le (by have := HN.out; omega)]
        rfl
      clear hlt hj
      go_wp2_with fail
      go_ret
      exact ⟨by first | rfl | (rw [e1]; rfl), bk.out⟩
set_option maxHeartbeats 1000000 in
theorem check_large (a : Option Addr) (n c : Nat) (h : 24 < n) (w : World) : Calls Try.prog 33 #[.slice a n c] w fun e w' => e = .returned (.int .i64 2) ∧ Below w.heap.size w w' := by
  have g : (n : Int) > 24 := by omega
  clear h
  go_enter Try.func33, Try.ntmps33
  go_wp2_with fail
  go_ret
  exact ⟨rfl, Below.refl _ _⟩
set_option maxHeartbeats 1000000 in
theorem check_nil (a : Option Addr) (c : Nat) (w : World) : Calls Try.prog 33 #[.slice a 0 c] w fun e w' => e = .returned (.int .i64 0) ∧ Below w.heap.size w w' := by
  have b0 : Hid (Below w.heap.size w (w.alloc (.cells thZ.toArray 28))) := (Below.refl _ _).alloc (Nat.le_refl _) _
  go_enter Try.func33, Try.ntmps33
  go_wp2_with (simp only [zero_th])
  refine wp_loop_rounds 1 ?_
  rw [rounds_succ]
  go_wp2_with fail
  go_ret
  exact ⟨rfl, b0.out⟩
/-- Check. -/
theorem atCheckC : AtCheckC := fun v l w _ hv => by -- function 33
  obtain ⟨a, c, rfl⟩ := ats_parts hv
  by_cases h : 24 < l.length
  · have e : fltA l = 2 := if_pos h
    rw [e]
    exact check_large a _ c h w
  · have e : fltA l = fltL [] l := if_neg h
    rw [e]
    by_cases h0 : l.length = 0
    · have el := List.length_eq_zero_iff.1 h0
      subst el
      exact check_nil a c w
    · obtain ⟨b, o, rfl⟩ := hv.addr (by omega)
      exact check_walk l _ rfl (by omega) b o c w hv
end Go.Proofs.Ytepaapiflkkghaa
