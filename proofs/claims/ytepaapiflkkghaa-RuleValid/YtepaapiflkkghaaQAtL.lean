/- Package attr, as it landed: look, Get, Is; bytes.Clone. -/
import Derived.Test.YtepaapiflkkghaaQSameToAtK0
namespace Go.Proofs.Ytepaapiflkkghaa
open Go.RowKit
attribute [local go_sem] World.cell?_alloc_some cell_alloc2 cell_alloc3 cell_alloc4 frozen?_alloc_cells frozen_out
set_option linter.unusedSimpArgs false
theorem run_bs1 (y : Int) (w : World) : (Instr.buildSlice 42 1 #[(0, .int .u8 y)]).run Try.prog w = .ok (.slice (some ⟨w.heap.size, 0, none⟩) 1 1) (w.alloc (.cells #[.int .u8 y] 5)) := by kernel_rfl
theorem wp_bs1 {ops : Array Oper} {rest : List Oper} {o : Oper} {a : Act} {Q : Exit → Act → World → Prop} {w : World} (hgd : o.guard = none) (x : Operand) (ho : o.op = .buildSlice 42 1 #[(0, x)]) (y : Int) (hx : a.eval x = .int .u8 y)
    (h : wpList Try.prog ops Q rest (a.put o.dst (.slice (some ⟨w.heap.size, 0, none⟩) 1 1)) (w.alloc (.cells #[.int .u8 y] 5))) : wpList Try.prog ops Q (o :: rest) a w := by
  refine wpList_plain hgd fun K hK => ?_
  have e := run_bs1 y w
  unfold Oper.wp
  simp only [execOp, ho, Sem.run_bind, Array.map, hx]
  simp [hx, e]
  exact hK _ _ h
theorem by_one (w : World) (y : Nat) : By (w.alloc (.cells #[.int .u8 (y : Int)] 5)) (.slice (some ⟨w.heap.size, 0, none⟩) 1 1) [y] :=
  ⟨_, 1, rfl, Nat.le_refl _, (fun h => by cases h), fun _ => ⟨w.heap.size, 0, rfl, fun j hj => by
    obtain rfl : j = 0 := by simp only [List.length_cons, List.length_nil] at hj; omega
    exact Kn.get ((Kn.nil w).al [.int .u8 (y : Int)] 5 rfl) 0 0 rfl rfl⟩⟩
theorem wp_bs1G {ops : Array Oper} {rest : List Oper} {o : Oper} {a : Act} {Q : Exit → Act → World → Prop} {w : World} (hgd : Region.wanted o (yielded ops a.tmps) = true) (x : Operand) (ho : o.op = .buildSlice 42 1 #[(0, x)]) (y : Int) (hx : a.eval x = .int .u8 y)
    (h : wpList Try.prog ops Q rest (a.put o.dst (.slice (some ⟨w.heap.size, 0, none⟩) 1 1)) (w.alloc (.cells #[.int .u8 y] 5))) : wpList Try.prog ops Q (o :: rest) a w := by
  refine wpList_step fun K hK => ?_
  simp only [hgd, if_true]
  have e := run_bs1 y w
  unfold Oper.wp
  simp only [execOp, ho, Sem.run_bind, Array.map, hx]
  simp [hx, e]
  exact hK _ _ h
set_option maxHeartbeats 1000000 in
theorem look_nil (a : Option Addr) (c : Nat) (k : Int) (w : World) : Calls Try.prog 55 #[.slice a 0 c, .int .i64 k] w fun e w' => e = .returned (.tuple #[.slice none 0 0, .bool false]) ∧ Below w.heap.size w w' := by
  go_enter Try.func55, Try.ntmps55
  go_wp2_with fail
  refine wp_loop_rounds 1 ?_
  rw [rounds_succ]
  go_wp2_with fail
  go_ret2
  exact ⟨rfl, Below.refl _ _⟩
set_option maxRecDepth 20000 in
set_option maxHeartbeats 2000000 in
theorem look_walk (l : List Ar) (n : Nat) (hn : l.length = n) (hs : n ≤ 4611686018427387904) (b o c : Nat) (k : Int) (w : World) (HA : Hid (Ats w (.slice (some ⟨b, o, none⟩) n c) l)) :
    Calls Try.prog 55 #[.slice (some ⟨b, o, none⟩) n c, .int .i64 k] w fun e w' => (∃ u, e = .returned (.tuple #[u, .bool (getA l k).isSome]) ∧ By w' u ((getA l k).getD [])) ∧ Below w.heap.size w w' := by
  have HN : Hid (l.length = n ∧ (n : Int) ≤ 4611686018427387904) := ⟨hn, by omega⟩
  clear hn hs
  go_enter Try.func55, Try.ntmps55
  go_wp2_with fail
  go_loopw [10] (fun i wr => ∃ j : Nat, j ≤ n ∧ i = .int .i64 (j : Int) ∧ Hid (∀ (i : Nat) (y : Ar), i < j → l[i]? = some y → y.k ≠ k) ∧ Hid (Below w.heap.size w wr)) (fun i _ => n - (intOf i).toNat)
  case atStart => exact ⟨0, Nat.zero_le _, rfl, fun i y hi => absurd hi (Nat.not_lt_zero _), Below.refl _ _⟩
  case round =>
    obtain ⟨j, hj, rfl, no, bk⟩ := hrel
    by_cases hlt : j < n
    · have i1 : (j : Int) < (n : Int) := by omega
      have i0 : (0 : Int) ≤ (j : Int) := by omega
      have jn : (n : Int) ≤ 4611686018427387904 := HN.out.2
      have HJ : Hid (j < n) := hlt
      obtain ⟨x, hx⟩ : ∃ x, Hid (l[j]? = some x) := ⟨l[j]'(by have := HN.out; omega), List.getElem?_eq_getElem _⟩
      obtain ⟨xa, xc, ex⟩ := (HA.out.up bk.out (Nat.le_refl _)).elem hx.out
      have EX : Hid (AtE wr b (o + j * 2) x xa xc) := ex
      have E1 : Hid (∀ (C : Array Value) t, AtE (wr.alloc (.cells C t)) b (o + j * 2) x xa xc) := fun C t => EX.out.up ((Below.refl _ _).alloc (Nat.le_refl _) _)
      have s2 : Hid (Kn (wr.alloc (.cells #[.int .i64 x.k, .slice xa x.v.length xc] 64)) [(wr.heap.size, [.int .i64 x.k, .slice xa x.v.length xc])]) := (Kn.nil wr).al [.int .i64 x.k, .slice xa x.v.length xc] 64 rfl
      have b2 : Hid (Below w.heap.size w (wr.alloc (.cells #[.int .i64 x.k, .slice xa x.v.length xc] 64))) := bk.out.alloc bk.out.size _
      have u0 := Kn.get s2.out 0 0 rfl rfl
      have u1 := Kn.get s2.out 0 1 rfl rfl
      have V2 : Hid (By (wr.alloc (.cells #[.int .i64 x.k, .slice xa x.v.length xc] 64)) (.slice xa x.v.length xc) x.v) := (E1.out _ _).2.2
      clear hlt hj ex bk
      by_cases hk : x.k = k
      · have hk' : (x.k == k) = true := beq_iff_eq.2 hk
        have hg := getA_take no.out hx.out hk
        clear hk no
        go_wp2_with (first | simp only [zero_attr] | refine wp_ldW rfl 64 _ rfl b (o + j * 2) rfl [.int .i64 x.k, .slice xa x.v.length xc] _ (by first | exact EX.out.rng | exact (E1.out _ _).rng) u_attr rfl (info_attr _ _) ?_)
        go_ret2
        rw [hg]
        exact ⟨⟨_, rfl, V2.out⟩, b2.out⟩
      · have hk' : (x.k == k) = false := beq_eq_false_iff_ne.2 hk
        have no' : Hid (∀ (i : Nat) (y : Ar), i < j + 1 → l[i]? = some y → y.k ≠ k) := fun i y hi hy => by
          by_cases e : i = j
          · rw [e, hx.out] at hy
            obtain rfl := Option.some.inj hy
            exact hk
          · exact no.out i y (by omega) hy
        clear hk no V2
        go_wp2_with (first | simp only [zero_attr] | refine wp_ldW rfl 64 _ rfl b (o + j * 2) rfl [.int .i64 x.k, .slice xa x.v.length xc] _ (by first | exact EX.out.rng | exact (E1.out _ _).rng) u_attr rfl (info_attr _ _) ?_)
        clear u0 u1
        go_roundw
        case rel => exact ⟨j + 1, HJ.out, by go_num, no', b2⟩
        case measure => simp [intOf]; have := HJ.out; omega
    · have i1 : ¬ (j : Int) < (n : Int) := by omega
      have hg : getA l k = none := getA_out fun i y hy => no.out i y (by have := (List.getElem?_eq_some_iff.1 hy).1; have := HN.out; omega) hy
      clear hlt hj
      go_wp2_with fail
      go_ret2
      try rw [hg]
      exact ⟨⟨_, rfl, By.nil _⟩, bk.out⟩
/-- look: the value of the first of a kind. -/
theorem look_fun (l : List Ar) (hs : l.length ≤ 4611686018427387904) (k : Int) (v : Value) (w : World) (hv : Ats w v l) :
    Calls Try.prog 55 #[v, .int .i64 k] w fun e w' => (∃ u, e = .returned (.tuple #[u, .bool (getA l k).isSome]) ∧ By w' u ((getA l k).getD [])) ∧ Below w.heap.size w w' := by
  obtain ⟨a, c, rfl⟩ := ats_parts hv
  by_cases h0 : l.length = 0
  · have hl := List.length_eq_zero_iff.1 h0
    subst hl
    exact (look_nil a c k w).mono fun e w' ⟨he, hb⟩ => ⟨⟨_, he, By.nil _⟩, hb⟩
  · obtain ⟨b, o, rfl⟩ := hv.addr (by omega)
    exact look_walk l _ rfl hs b o c k w hv
theorem eql_nilC (a : Addr) (l c : Nat) (w : World) : (binOp .eql 42 (.slice (some a) l c) (.slice none 0 0)).run Try.prog w = .ok (.bool false) w := by
  have h : ∀ d : Nat, (Op.equalIn (d + 1) 42 (.slice (some a) l c) (.slice none 0 0)).run Try.prog w = .ok false w := fun d => by
    simp [Op.equalIn, run_underlying Try.uBytes]
  have h2 : (Op.equal 42 (.slice (some a) l c) (.slice none 0 0)).run Try.prog w = .ok false w := h 9999
  simp [binOp, h2]
theorem eql_nilC0 (w : World) : (binOp .eql 42 (.slice none 0 0) (.slice none 0 0)).run Try.prog w = .ok (.bool true) w := by
  have h : ∀ d : Nat, (Op.equalIn (d + 1) 42 (.slice none 0 0) (.slice none 0 0)).run Try.prog w = .ok true w := fun d => by
    simp [Op.equalIn, run_underlying Try.uBytes]
  have h2 : (Op.equal 42 (.slice none 0 0) (.slice none 0 0)).run Try.prog w = .ok true w := h 9999
  simp [binOp, h2]
set_option maxHeartbeats 1000000 in
theorem clone_nil (w : World) : Calls Try.prog 56 #[.slice none 0 0] w fun e w' => e = .returned (.slice none 0 0) ∧ Below w.heap.size w w' := by
  have en := eql_nilC0
  go_enter Try.func56, Try.ntmps56
  go_wp2_with fail
  go_ret
  exact ⟨rfl, Below.refl _ _⟩
set_option maxHeartbeats 2000000 in
theorem clone_some (xs : List Nat) (n : Nat) (hn : xs.length = n) (hs : n ≤ 140737488351232) (ad : Addr) (c : Nat) (w : World) (HV : Hid (By w (.slice (some ad) n c) xs)) :
    Calls Try.prog 56 #[.slice (some ad) n c] w fun e w' => (∃ u, e = .returned u ∧ Bk w' u xs) ∧ Below w.heap.size w w' := by
  have en := eql_nilC ad n c
  have HV1 : Hid (By (w.alloc (.cells #[] 5)) (.slice (some ad) n c) xs) := HV.out.up ((Below.refl _ _).alloc (Nat.le_refl _) _) (Nat.le_refl _)
  have O1 : Hid (Ob (w.alloc (.cells #[] 5)) w.heap.size (.slice (some ⟨w.heap.size, 0, none⟩) 0 0) []) := ⟨by simp, .inr ⟨w.heap.size, 0, #[], rfl, Nat.le_refl _, heap_alloc_new w _, Nat.le_refl _, by unfold maxLen; omega, by simp, by simp⟩⟩
  have Z1 : Hid (Below w.heap.size w (w.alloc (.cells #[] 5))) := (Below.refl _ _).alloc (Nat.le_refl _) _
  have G1 : Hid (w.heap.size ≤ (w.alloc (.cells #[] 5)).heap.size) := Z1.out.size
  have ZX : Hid (xs.length ≤ 140737488351232) := by show _ ≤ _; omega
  clear hs hn
  go_enter Try.func56, Try.ntmps56
  go_wp2_with (refine wp_appB rfl _ _ rfl w.heap.size _ _ [] xs _ rfl O1.out (Below.refl _ _) rfl HV1.out (by have := ZX.out; simp only [List.length_nil]; omega) G1.out ?_)
  intro v2 w2 o2 _ hb2
  have B2 : Hid (Below w.heap.size w w2) := Z1.out.trans hb2
  have O2 : Hid (Ob w2 w.heap.size v2 xs) := o2
  clear hb2 o2 HV HV1 O1 Z1 G1
  go_wp2_with fail
  go_ret
  exact ⟨⟨v2, rfl, O2.out.by, fun g hg => by
    obtain ⟨cur, h⟩ := O2.out.obj hg
    exact ⟨cur, _, h⟩⟩, B2.out⟩
/-- bytes.Clone. -/
theorem clone_fun (xs : List Nat) (hs : xs.length ≤ 140737488351232) (v : Value) (w : World) (hv : By w v xs) : Calls Try.prog 56 #[v] w fun e w' => (∃ u, e = .returned u ∧ Bk w' u xs) ∧ Below w.heap.size w w' := by
  obtain ⟨a, c, rfl, h1, h2, h3⟩ := id hv
  cases a with
  | none =>
    have hc := h2 rfl
    have e : xs = [] := List.length_eq_zero_iff.1 (by omega)
    subst hc e
    exact (clone_nil w).mono fun e w' ⟨he, hb⟩ => ⟨⟨_, he, By.nil _, fun g hg => by cases hg⟩, hb⟩
  | some ad => exact clone_some xs _ rfl hs ad c w hv
theorem getA_len {l : List Ar} {N : Nat} (h : ∀ x ∈ l, x.v.length ≤ N) (k : Int) : ((getA l k).getD []).length ≤ N := by
  cases hg : getA l k with
  | none => exact Nat.zero_le _
  | some t =>
    obtain ⟨x, hx, _, rfl⟩ := getA_mem hg
    exact h x hx
theorem getA_lowB {l : List Ar} (h : lowA l) (k : Int) : lowB ((getA l k).getD []) := by
  cases hg : getA l k with
  | none => exact fun y hy => absurd hy List.not_mem_nil
  | some t =>
    obtain ⟨x, hx, _, rfl⟩ := getA_mem hg
    exact (h x hx).2
set_option maxHeartbeats 1000000 in
theorem get_walk (k : Int) (v : Value) (xs : List Nat) (t : Bool) (w : World)
    (L1 : Calls Try.prog 55 #[v, .int .i64 k] w fun e w' => (∃ u, e = .returned (.tuple #[u, .bool t]) ∧ By w' u xs) ∧ Below w.heap.size w w')
    (C1 : ∀ u W, By W u xs → Calls Try.prog 56 #[u] W fun e w' => (∃ u, e = .returned u ∧ Bk w' u xs) ∧ Below W.heap.size W w') :
    Calls Try.prog 29 #[v, .int .i64 k] w fun e w' => (∃ u, e = .returned (.tuple #[u, .bool t]) ∧ Bk w' u xs) ∧ Below w.heap.size w w' := by
  go_enter Try.func29, Try.ntmps29
  go_wp2_with fail
  refine L1.mono ?_
  rintro e w1 ⟨⟨u, rfl, hu⟩, hb⟩
  have b1 : Hid (Below w.heap.size w w1) := hb
  have C2 := C1 u w1 hu
  clear hb hu C1 L1
  go_wp2_with fail
  refine C2.mono ?_
  rintro e w2 ⟨⟨u, rfl, hu⟩, hb⟩
  have b2 : Hid (Below w.heap.size w w2) := b1.out.trans (hb.mono b1.out.size)
  have U2 : Hid (Bk w2 u xs) := hu
  clear hb hu C2 b1
  go_wp2_with fail
  go_ret2
  exact ⟨⟨_, rfl, U2.out⟩, b2.out⟩
/-- Get: bytes in a row of their own. -/
theorem get_fun (v : Value) (l : List Ar) (k : Int) (w : World) (hs : l.length ≤ 4611686018427387904) (hz : ∀ x ∈ l, x.v.length ≤ 140737488351232) (h : Ats w v l) :
    Calls Try.prog 29 #[v, .int .i64 k] w fun e w' => (∃ u, e = .returned (.tuple #[u, .bool (getA l k).isSome]) ∧ Bk w' u ((getA l k).getD [])) ∧ Below w.heap.size w w' :=
  get_walk k v _ _ w (look_fun l hs k v w h) fun u W hu => clone_fun _ (getA_len hz k) u W hu
/-- Get. -/
theorem atGetC : AtGetC := fun v l k w _ hs hz _ _ h => -- function 29
  (get_fun v l k w hs hz h).mono fun _ _ ⟨⟨u, he, hu⟩, hb⟩ => ⟨⟨u, he, hu.1⟩, hb⟩
set_option maxHeartbeats 1000000 in
theorem is_walk (k : Int) (v : Value) (xs : List Nat) (t r : Bool) (w : World) (hr : Hid (t = false → r = false))
    (L1 : Calls Try.prog 55 #[v, .int .i64 k] w fun e w' => (∃ u, e = .returned (.tuple #[u, .bool t]) ∧ By w' u xs) ∧ Below w.heap.size w w')
    (E1 : ∀ u z W, By W u xs → By W z [1] → Calls Try.prog 30 #[u, z] W fun e w' => e = .returned (.bool r) ∧ Below W.heap.size W w') :
    Calls Try.prog 28 #[v, .int .i64 k] w fun e w' => e = .returned (.bool r) ∧ Below w.heap.size w w' := by
  go_enter Try.func28, Try.ntmps28
  go_wp2_with fail
  refine L1.mono ?_
  rintro e w1 ⟨⟨u, rfl, hu⟩, hb⟩
  have b1 : Hid (Below w.heap.size w w1) := hb
  have U1 : Hid (By w1 u xs) := hu
  clear hb hu L1
  cases t with
  | false =>
    have e := hr.out rfl
    subst e
    clear E1
    go_wp2_with fail
    go_ret
    exact ⟨rfl, b1.out⟩
  | true =>
    have b2 : Hid (Below w.heap.size w (w1.alloc (.cells #[.int .u8 1] 5))) := b1.out.alloc b1.out.size _
    have Z1 : By (w1.alloc (.cells #[.int .u8 1] 5)) (.slice (some ⟨w1.heap.size, 0, none⟩) 1 1) [1] := by_one w1 1
    have E2 := E1 u _ _ (U1.out.up ((Below.refl _ _).alloc (Nat.le_refl _) _) (Nat.le_refl _)) Z1
    clear Z1
    clear E1 U1 b1
    go_wp2_with (first | refine wp_bs1G (by first | rfl | simp [Region.wanted, yielded]) _ rfl 1 rfl ?_)
    refine E2.mono ?_
    rintro e w2 ⟨rfl, hb⟩
    have b3 : Hid (Below w.heap.size w w2) := b2.out.trans (hb.mono b2.out.size)
    clear hb b2
    go_wp2_with fail
    go_ret
    exact ⟨rfl, b3.out⟩
/-- Is. -/
theorem atIsC : AtIsC := fun v l k w lo hs _ _ h => -- function 28
  is_walk k v _ _ _ w (fun hn => decide_eq_false fun e => by
    cases hg : getA l k with
    | none => rw [hg] at e; cases e
    | some t => rw [hg] at hn; cases hn) (look_fun l hs k v w h) fun u z W hu hz => equal_fun u z _ [1] (getA_lowB lo k) (fun y hy => by obtain rfl := List.mem_singleton.1 hy; decide) W hu hz
end Go.Proofs.Ytepaapiflkkghaa
