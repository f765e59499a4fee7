/- LimbOrder returns true for every three numbers: numbers stand in one order, in which a sum keeps them; less is what borrows. No condition. -/
import Derived.Test.YtfnpjadfedmjiabAddSub
import Derived.Test.YtfnpjadfedmjiabCmp
import Derived.Test.YtfnpjadfedmjiabEq
import Derived.Test.YtfnpjadfedmjiabStore
import Derived.Test.YtfnpjadfedmjiabArr
import Derived.Test.YtfnpjadfedmjiabOwn
import Derived.Deep.RegionHeld
namespace Go.Proofs.Ytfnpjadfedmjiab
open Go.RowKit
open Go.ChangeShapes Go.WideShapes Go.ChangeAt
attribute [local go_sem] World.cell?_alloc_some

theorem cmp_anti (x y : Nm) : cmpV y x = - cmpV x y := by unfold cmpV; split <;> split <;> (try split) <;> omega
theorem cmp_range (x y : Nm) : -1 ≤ cmpV x y ∧ cmpV x y ≤ 1 := by unfold cmpV; split <;> (try split) <;> omega
theorem cmp_zero {x y : Nm} (hx : x.ok) (hy : y.ok) : (cmpV x y == 0) = Nm.beq x y := by
  by_cases h : x = y
  · subst h; simp [cmpV, Nm.beq_self]
  · rw [Nm.beq_ne h]
    have : x.val ≠ y.val := fun e => h (Nm.ext_val hx hy e)
    unfold cmpV
    split
    · rfl
    · rw [if_pos (by omega)]; rfl
theorem sub_less {x y : Nm} (hx : x.ok) (hy : y.ok) : (subC x y == 1) = decide (cmpV x y < 0) := by
  have := Nm.val_nonneg hx; have := Nm.val_lt hx; have := Nm.val_nonneg hy; have := Nm.val_lt hy
  unfold cmpV subC
  by_cases h : x.val < y.val
  · rw [if_pos h]
    have : -((x.val - y.val) / M) = 1 := by unfold M at *; omega
    rw [this]; rfl
  · rw [if_neg h]
    have : -((x.val - y.val) / M) = 0 := by unfold M at *; omega
    rw [this]
    split <;> rfl

theorem cmp_trans {x y z : Nm} (h1 : cmpV x y ≤ 0) (h2 : cmpV y z ≤ 0) : cmpV x z ≤ 0 := by
  unfold cmpV at *
  split at h1 <;> split at h2 <;> (try split at h1) <;> (try split at h2) <;> split <;> (try split) <;> omega
theorem cmp_add {x y z : Nm} (h1 : addC x z = 0) (h2 : addC y z = 0) : cmpV (addS x z) (addS y z) = cmpV x y := by
  have e1 := add_val' (x := x) (y := z); have e2 := add_val' (x := y) (y := z)
  rw [h1] at e1; rw [h2] at e2
  simp only [Int.mul_zero, Int.add_zero] at e1 e2
  unfold cmpV
  rw [e1, e2]
  by_cases h : x.val < y.val
  · rw [if_pos h, if_pos (by omega)]
  · rw [if_neg h, if_neg (by omega)]
    by_cases h' : y.val < x.val
    · rw [if_pos h', if_pos (by omega)]
    · rw [if_neg h', if_neg (by omega)]

set_option maxHeartbeats 1000000 in
theorem order_walk (x y z : Nm) (hx : x.ok) (hy : y.ok) (hz : z.ok) (w : World) :
    Calls Try.prog 3 #[N x, N y, N z] w fun e w' => e = .returned (.bool true) ∧ Below w.heap.size w w' := by
  obtain ⟨p1, q1⟩ := addC_01 hx hz
  obtain ⟨p2, q2⟩ := addC_01 hy hz
  go_enter Try.func3, Try.ntmps3
  go_wp2_with fail
  refine (sub_fun x y hx hy _).mono ?_
  rintro e w1 ⟨rfl, hb1⟩
  have z1 := hb1.size
  try simp at z1
  obtain ⟨qw_0_1, qw_1_1, qw_2_1, qw_3_1⟩ := Lies.up (x := x) (k := w.heap.size) (by constructor <;> simp [go_sem]) hb1
  obtain ⟨qw1_0_1, qw1_1_1, qw1_2_1, qw1_3_1⟩ := Lies.up (x := y) (k := w.heap.size + 1) (by constructor <;> simp [go_sem]) hb1
  obtain ⟨qw11_0_1, qw11_1_1, qw11_2_1, qw11_3_1⟩ := Lies.up (x := z) (k := w.heap.size + 1 + 1) (by constructor <;> simp [go_sem]) hb1
  have b1 : Hid (Below w.heap.size w w1) := by
    refine Below.trans ?_ (hb1.mono (by first | omega | (simp <;> omega)))
    repeat (first | exact Below.refl _ _ | refine Below.drew ?_ | refine Below.setCell ?_ (by first | omega | (simp <;> omega)) _ | refine Below.alloc ?_ (by first | omega | (simp <;> omega)) _)
  clear hb1
  go_wp2_with fail
  refine (cmp_fun x y hx hy _).mono ?_
  rintro e w2 ⟨rfl, hb2⟩
  have z2 := hb2.size
  try simp at z2
  obtain ⟨qw_0_2, qw_1_2, qw_2_2, qw_3_2⟩ := Lies.up (x := x) (k := w.heap.size) (by constructor <;> simp [go_sem, qw_0_1, qw_1_1, qw_2_1, qw_3_1]) hb2
  obtain ⟨qw1_0_2, qw1_1_2, qw1_2_2, qw1_3_2⟩ := Lies.up (x := y) (k := w.heap.size + 1) (by constructor <;> simp [go_sem, qw1_0_1, qw1_1_1, qw1_2_1, qw1_3_1]) hb2
  obtain ⟨qw11_0_2, qw11_1_2, qw11_2_2, qw11_3_2⟩ := Lies.up (x := z) (k := w.heap.size + 1 + 1) (by constructor <;> simp [go_sem, qw11_0_1, qw11_1_1, qw11_2_1, qw11_3_1]) hb2
  have b2 : Hid (Below w.heap.size w w2) := by
    refine Below.trans ?_ (hb2.mono (by first | omega | (simp <;> omega)))
    repeat (first | exact b1.out | refine Below.drew ?_ | refine Below.setCell ?_ (by first | omega | (simp <;> omega)) _ | refine Below.alloc ?_ (by first | omega | (simp <;> omega)) _)
  clear hb2 b1 qw_0_1 qw_1_1 qw_2_1 qw_3_1 qw1_0_1 qw1_1_1 qw1_2_1 qw1_3_1 qw11_0_1 qw11_1_1 qw11_2_1 qw11_3_1
  go_wp2_with fail
  refine (cmp_fun y x hy hx _).mono ?_
  rintro e w3 ⟨rfl, hb3⟩
  have z3 := hb3.size
  try simp at z3
  obtain ⟨qw_0_3, qw_1_3, qw_2_3, qw_3_3⟩ := Lies.up (x := x) (k := w.heap.size) (by constructor <;> simp [go_sem, qw_0_2, qw_1_2, qw_2_2, qw_3_2]) hb3
  obtain ⟨qw1_0_3, qw1_1_3, qw1_2_3, qw1_3_3⟩ := Lies.up (x := y) (k := w.heap.size + 1) (by constructor <;> simp [go_sem, qw1_0_2, qw1_1_2, qw1_2_2, qw1_3_2]) hb3
  obtain ⟨qw11_0_3, qw11_1_3, qw11_2_3, qw11_3_3⟩ := Lies.up (x := z) (k := w.heap.size + 1 + 1) (by constructor <;> simp [go_sem, qw11_0_2, qw11_1_2, qw11_2_2, qw11_3_2]) hb3
  have b3 : Hid (Below w.heap.size w w3) := by
    refine Below.trans ?_ (hb3.mono (by first | omega | (simp <;> omega)))
    repeat (first | exact b2.out | refine Below.drew ?_ | refine Below.setCell ?_ (by first | omega | (simp <;> omega)) _ | refine Below.alloc ?_ (by first | omega | (simp <;> omega)) _)
  clear hb3 b2 qw_0_2 qw_1_2 qw_2_2 qw_3_2 qw1_0_2 qw1_1_2 qw1_2_2 qw1_3_2 qw11_0_2 qw11_1_2 qw11_2_2 qw11_3_2
  rw [cmp_anti x y]
  have he := eqN x y
  have h0 := cmp_zero hx hy
  have h1 := sub_less hx hy
  obtain ⟨n0, n1⟩ := cmp_range x y
  by_cases hn : cmpV x y ≤ 0
  · go_wp2_with fail
    clear h0 h1 he
    refine (cmp_fun y z hy hz _).mono ?_
    rintro e w4 ⟨rfl, hb4⟩
    have z4 := hb4.size
    try simp at z4
    obtain ⟨qw_0_4, qw_1_4, qw_2_4, qw_3_4⟩ := Lies.up (x := x) (k := w.heap.size) (by constructor <;> simp [go_sem, qw_0_3, qw_1_3, qw_2_3, qw_3_3]) hb4
    obtain ⟨qw1_0_4, qw1_1_4, qw1_2_4, qw1_3_4⟩ := Lies.up (x := y) (k := w.heap.size + 1) (by constructor <;> simp [go_sem, qw1_0_3, qw1_1_3, qw1_2_3, qw1_3_3]) hb4
    obtain ⟨qw11_0_4, qw11_1_4, qw11_2_4, qw11_3_4⟩ := Lies.up (x := z) (k := w.heap.size + 1 + 1) (by constructor <;> simp [go_sem, qw11_0_3, qw11_1_3, qw11_2_3, qw11_3_3]) hb4
    have b4 : Hid (Below w.heap.size w w4) := by
      refine Below.trans ?_ (hb4.mono (by first | omega | (simp <;> omega)))
      repeat (first | exact b3.out | refine Below.drew ?_ | refine Below.setCell ?_ (by first | omega | (simp <;> omega)) _ | refine Below.alloc ?_ (by first | omega | (simp <;> omega)) _)
    clear hb4 b3 qw_0_3 qw_1_3 qw_2_3 qw_3_3 qw1_0_3 qw1_1_3 qw1_2_3 qw1_3_3 qw11_0_3 qw11_1_3 qw11_2_3 qw11_3_3
    by_cases hm : cmpV y z ≤ 0
    · have ht := cmp_trans hn hm
      go_wp2_with fail
      refine (cmp_fun x z hx hz _).mono ?_
      rintro e w5 ⟨rfl, hb5⟩
      have z5 := hb5.size
      try simp at z5
      obtain ⟨qw_0_5, qw_1_5, qw_2_5, qw_3_5⟩ := Lies.up (x := x) (k := w.heap.size) (by constructor <;> simp [go_sem, qw_0_4, qw_1_4, qw_2_4, qw_3_4]) hb5
      obtain ⟨qw1_0_5, qw1_1_5, qw1_2_5, qw1_3_5⟩ := Lies.up (x := y) (k := w.heap.size + 1) (by constructor <;> simp [go_sem, qw1_0_4, qw1_1_4, qw1_2_4, qw1_3_4]) hb5
      obtain ⟨qw11_0_5, qw11_1_5, qw11_2_5, qw11_3_5⟩ := Lies.up (x := z) (k := w.heap.size + 1 + 1) (by constructor <;> simp [go_sem, qw11_0_4, qw11_1_4, qw11_2_4, qw11_3_4]) hb5
      have b5 : Hid (Below w.heap.size w w5) := by
        refine Below.trans ?_ (hb5.mono (by first | omega | (simp <;> omega)))
        repeat (first | exact b4.out | refine Below.drew ?_ | refine Below.setCell ?_ (by first | omega | (simp <;> omega)) _ | refine Below.alloc ?_ (by first | omega | (simp <;> omega)) _)
      clear hb5 b4 qw_0_4 qw_1_4 qw_2_4 qw_3_4 qw1_0_4 qw1_1_4 qw1_2_4 qw1_3_4 qw11_0_4 qw11_1_4 qw11_2_4 qw11_3_4
      go_wp2_with fail
      refine (add_fun x z hx hz _).mono ?_
      rintro e w6 ⟨rfl, hb6⟩
      have z6 := hb6.size
      try simp at z6
      obtain ⟨qw1_0_6, qw1_1_6, qw1_2_6, qw1_3_6⟩ := Lies.up (x := y) (k := w.heap.size + 1) (by constructor <;> simp [go_sem, qw1_0_5, qw1_1_5, qw1_2_5, qw1_3_5]) hb6
      obtain ⟨qw11_0_6, qw11_1_6, qw11_2_6, qw11_3_6⟩ := Lies.up (x := z) (k := w.heap.size + 1 + 1) (by constructor <;> simp [go_sem, qw11_0_5, qw11_1_5, qw11_2_5, qw11_3_5]) hb6
      have b6 : Hid (Below w.heap.size w w6) := by
        refine Below.trans ?_ (hb6.mono (by first | omega | (simp <;> omega)))
        repeat (first | exact b5.out | refine Below.drew ?_ | refine Below.setCell ?_ (by first | omega | (simp <;> omega)) _ | refine Below.alloc ?_ (by first | omega | (simp <;> omega)) _)
      clear hb6 b5 qw_0_5 qw_1_5 qw_2_5 qw_3_5 qw1_0_5 qw1_1_5 qw1_2_5 qw1_3_5 qw11_0_5 qw11_1_5 qw11_2_5 qw11_3_5
      go_wp2_with fail
      refine (add_fun y z hy hz _).mono ?_
      rintro e w7 ⟨rfl, hb7⟩
      have z7 := hb7.size
      try simp at z7
      obtain ⟨qw6_0_7, qw6_1_7, qw6_2_7, qw6_3_7⟩ := Lies.up (x := addS x z) (k := w6.heap.size) (by constructor <;> simp [go_sem]) hb7
      have b7 : Hid (Below w.heap.size w w7) := by
        refine Below.trans ?_ (hb7.mono (by first | omega | (simp <;> omega)))
        repeat (first | exact b6.out | refine Below.drew ?_ | refine Below.setCell ?_ (by first | omega | (simp <;> omega)) _ | refine Below.alloc ?_ (by first | omega | (simp <;> omega)) _)
      clear hb7 b6 qw1_0_6 qw1_1_6 qw1_2_6 qw1_3_6 qw11_0_6 qw11_1_6 qw11_2_6 qw11_3_6
      have e1 : IntKind.u64.wrap (addC x z + addC y z) = addC x z + addC y z := by rw [IntKind.wrap_u64]; omega
      by_cases hs : 0 < addC x z + addC y z
      · go_wp2_with fail
        go_ret
        refine ⟨rfl, ?_⟩
        repeat (first | exact b7.out | refine Below.drew ?_ | refine Below.setCell ?_ (by first | omega | (simp <;> omega)) _ | refine Below.alloc ?_ (by first | omega | (simp <;> omega)) _)
      · have s1 : Hid (addC x z = 0) := by show _ = _; omega
        have s2 : Hid (addC y z = 0) := by show _ = _; omega
        go_wp2_with fail
        refine (cmp_fun (addS x z) (addS y z) (addS_ok _ _) (addS_ok _ _) _).mono ?_
        rintro e w8 ⟨rfl, hb8⟩
        have z8 := hb8.size
        try simp at z8
        have b8 : Hid (Below w.heap.size w w8) := by
          refine Below.trans ?_ (hb8.mono (by first | omega | (simp <;> omega)))
          repeat (first | exact b7.out | refine Below.drew ?_ | refine Below.setCell ?_ (by first | omega | (simp <;> omega)) _ | refine Below.alloc ?_ (by first | omega | (simp <;> omega)) _)
        clear hb8 b7 qw6_0_7 qw6_1_7 qw6_2_7 qw6_3_7
        rw [cmp_add s1.out s2.out]
        go_wp2_with fail
        go_ret
        refine ⟨rfl, ?_⟩
        repeat (first | exact b8.out | refine Below.drew ?_ | refine Below.setCell ?_ (by first | omega | (simp <;> omega)) _ | refine Below.alloc ?_ (by first | omega | (simp <;> omega)) _)
    · go_wp2_with fail
      refine (add_fun x z hx hz _).mono ?_
      rintro e w5 ⟨rfl, hb5⟩
      have z5 := hb5.size
      try simp at z5
      obtain ⟨qw1_0_5, qw1_1_5, qw1_2_5, qw1_3_5⟩ := Lies.up (x := y) (k := w.heap.size + 1) (by constructor <;> simp [go_sem, qw1_0_4, qw1_1_4, qw1_2_4, qw1_3_4]) hb5
      obtain ⟨qw11_0_5, qw11_1_5, qw11_2_5, qw11_3_5⟩ := Lies.up (x := z) (k := w.heap.size + 1 + 1) (by constructor <;> simp [go_sem, qw11_0_4, qw11_1_4, qw11_2_4, qw11_3_4]) hb5
      have b5 : Hid (Below w.heap.size w w5) := by
        refine Below.trans ?_ (hb5.mono (by first | omega | (simp <;> omega)))
        repeat (first | exact b4.out | refine Below.drew ?_ | refine Below.setCell ?_ (by first | omega | (simp <;> omega)) _ | refine Below.alloc ?_ (by first | omega | (simp <;> omega)) _)
      clear hb5 b4 qw_0_4 qw_1_4 qw_2_4 qw_3_4 qw1_0_4 qw1_1_4 qw1_2_4 qw1_3_4 qw11_0_4 qw11_1_4 qw11_2_4 qw11_3_4
      go_wp2_with fail
      refine (add_fun y z hy hz _).mono ?_
      rintro e w6 ⟨rfl, hb6⟩
      have z6 := hb6.size
      try simp at z6
      obtain ⟨qw5_0_6, qw5_1_6, qw5_2_6, qw5_3_6⟩ := Lies.up (x := addS x z) (k := w5.heap.size) (by constructor <;> simp [go_sem]) hb6
      have b6 : Hid (Below w.heap.size w w6) := by
        refine Below.trans ?_ (hb6.mono (by first | omega | (simp <;> omega)))
        repeat (first | exact b5.out | refine Below.drew ?_ | refine Below.setCell ?_ (by first | omega | (simp <;> omega)) _ | refine Below.alloc ?_ (by first | omega | (simp <;> omega)) _)
      clear hb6 b5 qw1_0_5 qw1_1_5 qw1_2_5 qw1_3_5 qw11_0_5 qw11_1_5 qw11_2_5 qw11_3_5
      have e1 : IntKind.u64.wrap (addC x z + addC y z) = addC x z + addC y z := by rw [IntKind.wrap_u64]; omega
      by_cases hs : 0 < addC x z + addC y z
      · go_wp2_with fail
        go_ret
        refine ⟨rfl, ?_⟩
        repeat (first | exact b6.out | refine Below.drew ?_ | refine Below.setCell ?_ (by first | omega | (simp <;> omega)) _ | refine Below.alloc ?_ (by first | omega | (simp <;> omega)) _)
      · have s1 : Hid (addC x z = 0) := by show _ = _; omega
        have s2 : Hid (addC y z = 0) := by show _ = _; omega
        go_wp2_with fail
        refine (cmp_fun (addS x z) (addS y z) (addS_ok _ _) (addS_ok _ _) _).mono ?_
        rintro e w7 ⟨rfl, hb7⟩
        have z7 := hb7.size
        try simp at z7
        have b7 : Hid (Below w.heap.size w w7) := by
          refine Below.trans ?_ (hb7.mono (by first | omega | (simp <;> omega)))
          repeat (first | exact b6.out | refine Below.drew ?_ | refine Below.setCell ?_ (by first | omega | (simp <;> omega)) _ | refine Below.alloc ?_ (by first | omega | (simp <;> omega)) _)
        clear hb7 b6 qw5_0_6 qw5_1_6 qw5_2_6 qw5_3_6
        rw [cmp_add s1.out s2.out]
        go_wp2_with fail
        go_ret
        refine ⟨rfl, ?_⟩
        repeat (first | exact b7.out | refine Below.drew ?_ | refine Below.setCell ?_ (by first | omega | (simp <;> omega)) _ | refine Below.alloc ?_ (by first | omega | (simp <;> omega)) _)
  · go_wp2_with fail
    clear h0 h1 he
    refine (add_fun x z hx hz _).mono ?_
    rintro e w4 ⟨rfl, hb4⟩
    have z4 := hb4.size
    try simp at z4
    obtain ⟨qw1_0_4, qw1_1_4, qw1_2_4, qw1_3_4⟩ := Lies.up (x := y) (k := w.heap.size + 1) (by constructor <;> simp [go_sem, qw1_0_3, qw1_1_3, qw1_2_3, qw1_3_3]) hb4
    obtain ⟨qw11_0_4, qw11_1_4, qw11_2_4, qw11_3_4⟩ := Lies.up (x := z) (k := w.heap.size + 1 + 1) (by constructor <;> simp [go_sem, qw11_0_3, qw11_1_3, qw11_2_3, qw11_3_3]) hb4
    have b4 : Hid (Below w.heap.size w w4) := by
      refine Below.trans ?_ (hb4.mono (by first | omega | (simp <;> omega)))
      repeat (first | exact b3.out | refine Below.drew ?_ | refine Below.setCell ?_ (by first | omega | (simp <;> omega)) _ | refine Below.alloc ?_ (by first | omega | (simp <;> omega)) _)
    clear hb4 b3 qw_0_3 qw_1_3 qw_2_3 qw_3_3 qw1_0_3 qw1_1_3 qw1_2_3 qw1_3_3 qw11_0_3 qw11_1_3 qw11_2_3 qw11_3_3
    go_wp2_with fail
    refine (add_fun y z hy hz _).mono ?_
    rintro e w5 ⟨rfl, hb5⟩
    have z5 := hb5.size
    try simp at z5
    obtain ⟨qw4_0_5, qw4_1_5, qw4_2_5, qw4_3_5⟩ := Lies.up (x := addS x z) (k := w4.heap.size) (by constructor <;> simp [go_sem]) hb5
    have b5 : Hid (Below w.heap.size w w5) := by
      refine Below.trans ?_ (hb5.mono (by first | omega | (simp <;> omega)))
      repeat (first | exact b4.out | refine Below.drew ?_ | refine Below.setCell ?_ (by first | omega | (simp <;> omega)) _ | refine Below.alloc ?_ (by first | omega | (simp <;> omega)) _)
    clear hb5 b4 qw1_0_4 qw1_1_4 qw1_2_4 qw1_3_4 qw11_0_4 qw11_1_4 qw11_2_4 qw11_3_4
    have e1 : IntKind.u64.wrap (addC x z + addC y z) = addC x z + addC y z := by rw [IntKind.wrap_u64]; omega
    by_cases hs : 0 < addC x z + addC y z
    · go_wp2_with fail
      go_ret
      refine ⟨rfl, ?_⟩
      repeat (first | exact b5.out | refine Below.drew ?_ | refine Below.setCell ?_ (by first | omega | (simp <;> omega)) _ | refine Below.alloc ?_ (by first | omega | (simp <;> omega)) _)
    · have s1 : Hid (addC x z = 0) := by show _ = _; omega
      have s2 : Hid (addC y z = 0) := by show _ = _; omega
      go_wp2_with fail
      refine (cmp_fun (addS x z) (addS y z) (addS_ok _ _) (addS_ok _ _) _).mono ?_
      rintro e w6 ⟨rfl, hb6⟩
      have z6 := hb6.size
      try simp at z6
      have b6 : Hid (Below w.heap.size w w6) := by
        refine Below.trans ?_ (hb6.mono (by first | omega | (simp <;> omega)))
        repeat (first | exact b5.out | refine Below.drew ?_ | refine Below.setCell ?_ (by first | omega | (simp <;> omega)) _ | refine Below.alloc ?_ (by first | omega | (simp <;> omega)) _)
      clear hb6 b5 qw4_0_5 qw4_1_5 qw4_2_5 qw4_3_5
      rw [cmp_add s1.out s2.out]
      go_wp2_with fail
      go_ret
      refine ⟨rfl, ?_⟩
      repeat (first | exact b6.out | refine Below.drew ?_ | refine Below.setCell ?_ (by first | omega | (simp <;> omega)) _ | refine Below.alloc ?_ (by first | omega | (simp <;> omega)) _)

set_option maxRecDepth 100000 in
theorem limbOrder_lifted (os : Os) (started : os.Started) (H : Type) (enc : TypeId × Value → H) :
    ReturnsInHanded {} Try.checked os 3 .any (Rows.limbOrderSpec.pre6 enc Try.prog Try.f3 Rows.limbOrderRow.domain false) (Rows.limbOrderSpec.post enc Try.prog Try.f3 false true false false) := by
  refine returnsInHanded_of_change (C := Try.checked) Try.own started (by kernel_rfl) Try.func3
    (ChangeSpec.witness6 (enc := enc) (C := Try.checked) false ⟨#[], #[.agg #[.int .u64 0, .int .u64 0, .int .u64 0, .int .u64 0], .agg #[.int .u64 0, .int .u64 0, .int .u64 0, .int .u64 0], .agg #[.int .u64 0, .int .u64 0, .int .u64 0, .int .u64 0]], []⟩ 8 (by kernel_rfl) (by kernel_rfl) (by kernel_rfl) (by kernel_rfl)) ?_
  intro W base args ds gs before hval0 hW hcnd _
  have hval : ∀ (j : Nat) t v, Try.f3.params[j]? = some t → args[j]? = some v → Value.okWide Try.prog W .any base t v := hval0
  have hW' := hW
  obtain ⟨p, q, hA0, hV, rfl, hfz, hnd⟩ := hW
  have hA : DataW.TrodAll enc Try.prog W 0 (fun _ => true) true Try.f3.params.toList args.toList ds p := hA0
  rw [Try.params3] at hA hval
  obtain ⟨v0, v1, v2, d0, d1, d2, p0, p1, p2, rfl, rfl, rfl, h0, h1, h2⟩ := trodAll_three hA
  obtain ⟨rfl, rfl⟩ := trodVars_none hV
  obtain ⟨xs0, l0, rfl, rfl, rfl, w0⟩ := open_arr Try.underlying24 Try.underlying22 Try.cellsU64 Try.cellsNum (hval 0 24 v0 rfl rfl) h0
  obtain ⟨xs1, l1, rfl, rfl, rfl, w1⟩ := open_arr Try.underlying24 Try.underlying22 Try.cellsU64 Try.cellsNum (hval 1 24 v1 rfl rfl) h1
  obtain ⟨xs2, l2, rfl, rfl, rfl, w2⟩ := open_arr Try.underlying24 Try.underlying22 Try.cellsU64 Try.cellsNum (hval 2 24 v2 rfl rfl) h2
  clear hA0 hval0 hval hA h0 h1 h2
  obtain ⟨a0, b0, c0, d0, rfl⟩ := list4 xs0 l0
  have ok0 : (⟨a0, b0, c0, d0⟩ : Nm).ok := ⟨word_of_wf (w0 _ (by simp)), word_of_wf (w0 _ (by simp)), word_of_wf (w0 _ (by simp)), word_of_wf (w0 _ (by simp))⟩
  obtain ⟨a1, b1, c1, d1, rfl⟩ := list4 xs1 l1
  have ok1 : (⟨a1, b1, c1, d1⟩ : Nm).ok := ⟨word_of_wf (w1 _ (by simp)), word_of_wf (w1 _ (by simp)), word_of_wf (w1 _ (by simp)), word_of_wf (w1 _ (by simp))⟩
  obtain ⟨a2, b2, c2, d2, rfl⟩ := list4 xs2 l2
  have ok2 : (⟨a2, b2, c2, d2⟩ : Nm).ok := ⟨word_of_wf (w2 _ (by simp)), word_of_wf (w2 _ (by simp)), word_of_wf (w2 _ (by simp)), word_of_wf (w2 _ (by simp))⟩
  simp only [List.append_nil] at hW'
  refine (order_walk ⟨a0, b0, c0, d0⟩ ⟨a1, b1, c1, d1⟩ ⟨a2, b2, c2, d2⟩ ok0 ok1 ok2 W).mono fun e W' ⟨he, hg⟩ => ?_
  subst he
  exact ⟨_, rfl, _, _, _, [], [], [], hW', trodAll_mk1 (shut_bool Try.underlying4 _), trodAll_mk3 (shut_arr Try.underlying24 Try.underlying22 Try.cellsU64 Try.cellsNum l0 w0) (shut_arr Try.underlying24 Try.underlying22 Try.cellsU64 Try.cellsNum l1 w1) (shut_arr Try.underlying24 Try.underlying22 Try.cellsU64 Try.cellsNum l2 w2), rfl, hg.frame _, fun h => by cases h⟩

theorem limbOrder_holds : Rows.LimbOrderSaid :=
  OpenClaim.holds_of_wide 3 Try.f3 rfl rfl rfl rfl rfl rfl rfl ⟨rfl, rfl, rfl, rfl, rfl⟩ rfl rfl rfl rfl rfl (by kernel_rfl) Try.func3 (by kernel_rfl)
    (of_decide_eq_true (by kernel_rfl)) (by unfold Func.isWrapper; first | (rw [if_pos (by decide +kernel)]; kernel_rfl) | (rw [if_neg (by decide +kernel)]; exact ⟨rfl, rfl⟩))
    (fun os started H enc _ => limbOrder_lifted os started H enc)
#print axioms limbOrder_holds
end Go.Proofs.Ytfnpjadfedmjiab
