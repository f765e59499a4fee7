/- Texts that were joined: Same, AtK0. -/
import Derived.Test.YtepaapiflkkghaaQDerWToAtA
import Derived.Test.YtepaapiflkkghaaQUpMToUpMG
import Derived.Test.YtepaapiflkkghaaQAtOToAtCd
/- The contracts of bytes.Equal, bytes.HasPrefix, and of sealringkeep.sameItems at items that are the same. -/
namespace Go.Proofs.Ytepaapiflkkghaa
open Go.RowKit
attribute [local go_sem] YieldsP execOp
attribute [local simp] MP.eq_p
set_option linter.unusedSimpArgs false
set_option maxHeartbeats 1000000 in
theorem equal_fun (u v : Value) (xs ys : List Nat) (hx : ∀ x ∈ xs, x < 256) (hy : ∀ y ∈ ys, y < 256) (w : World) (hu : By w u xs) (hv : By w v ys) :
    Calls Try.prog 30 #[u, v] w fun e w' => e = .returned (.bool (decide (xs = ys))) ∧ Below w.heap.size w w' := by
  have HU : Hid (By w u xs) := hu
  have HV : Hid (By w v ys) := hv
  have HE : Hid _ := sOf_beq hx hy
  clear hu hv hx hy
  go_enter Try.func30, Try.ntmps30
  go_wp2_with (first | (refine wp_conv rfl (.tmp 5) rfl _ xs rfl HU.out ?_) | (refine wp_conv rfl (.tmp 7) rfl _ ys rfl HV.out ?_))
  rw [HE.out]
  go_ret
  exact ⟨rfl, Below.refl _ _⟩
theorem By.take {w : World} {a : Option Addr} {c : Nat} {xs : List Nat} {n : Nat} (h : By w (.slice a xs.length c) xs) (hn : n ≤ xs.length) : By w (.slice a n c) (xs.take n) := by
  obtain ⟨a', c', e, h1, h2, h3⟩ := h
  cases e
  have hl : (xs.take n).length = n := by rw [List.length_take]; omega
  refine ⟨a, c, by rw [hl], by omega, h2, fun hp => ?_⟩
  obtain ⟨b, o, e, hc⟩ := h3 (by omega)
  refine ⟨b, o, e, fun j hj => ?_⟩
  rw [hc j (by omega)]
  congr 2
  simp [List.getD_eq_getElem?_getD, List.getElem?_take, show j < n by omega]
end Go.Proofs.Ytepaapiflkkghaa

/- What the laws lean on of package attr, packing aside; sealringkeep.sameAttrs at lists that are one. -/
namespace Go.Proofs.Ytepaapiflkkghaa
open Go.RowKit
attribute [local go_sem] World.cell?_alloc_some cell_alloc2 cell_alloc3 cell_alloc4 frozen?_alloc_cells frozen_out
attribute [local go_sem] YieldsP execOp
attribute [local simp] MP.eq_p
set_option linter.unusedSimpArgs false
def lowA (l : List Ar) : Prop := ∀ x ∈ l, x.ok
theorem risA_low {l : List Ar} (h : lowA l) : lowA (risA l) := fun x hx => by
  obtain ⟨y, hy, h1, h2⟩ := getA_mem (risA_mem.1 hx).2
  have := h y hy
  unfold Ar.ok at *
  rw [← h1, ← h2]
  exact this
theorem ovrA_lowA {l t : List Ar} (h : lowA l) (h2 : lowA t) : lowA (ovrA l t) := risA_low fun x hx => by
  rcases List.mem_append.1 hx with hx | hx
  · exact h2 x hx
  · exact h x hx
def fltO (l t : List Ar) : Nat := if fltA l = 0 then fltA t else fltA l
def AtCheckC : Prop := ∀ (v : Value) (l : List Ar) (w : World), lowA l → Ats w v l → Calls Try.prog 33 #[v] w fun e w' => e = .returned (.int .i64 ((fltA l : Nat) : Int)) ∧ Below w.heap.size w w'
def AtGetC : Prop := ∀ (v : Value) (l : List Ar) (k : Int) (w : World), lowA l → l.length ≤ 4611686018427387904 → (∀ x ∈ l, x.v.length ≤ 140737488351232) → -9223372036854775808 ≤ k → k ≤ 9223372036854775807 → Ats w v l → Calls Try.prog 29 #[v, .int .i64 k] w fun e w' => (∃ u, e = .returned (.tuple #[u, .bool (getA l k).isSome]) ∧ By w' u ((getA l k).getD [])) ∧ Below w.heap.size w w'
def AtIsC : Prop := ∀ (v : Value) (l : List Ar) (k : Int) (w : World), lowA l → l.length ≤ 4611686018427387904 → -9223372036854775808 ≤ k → k ≤ 9223372036854775807 → Ats w v l → Calls Try.prog 28 #[v, .int .i64 k] w fun e w' => e = .returned (.bool (decide ((getA l k).getD [] = [1]))) ∧ Below w.heap.size w w'
def AtMatchC : Prop := ∀ (v u : Value) (l a : List Ar) (w : World), lowA l → lowA a → l.length ≤ 4611686018427387904 → a.length ≤ 4611686018427387904 → Ats w v l → Ats w u a → Calls Try.prog 31 #[v, u] w fun e w' => e = .returned (.bool (matA l a)) ∧ Below w.heap.size w w'
def AtOverC : Prop := ∀ (v u : Value) (l t : List Ar) (w : World), lowA l → lowA t → Ats w v l → Ats w u t → Calls Try.prog 66 #[v, u] w fun e w' => (∃ r, e = .returned (.tuple #[r, .int .i64 ((fltO l t : Nat) : Int)]) ∧ Ats w' r (if fltO l t = 0 then ovrA l t else [])) ∧ Below w.heap.size w w'
theorem fit_len {k : Int} {v : List Nat} (h : fitA k v = true) : v.length ≤ 64 := by
  unfold fitA at h
  split at h
  · have := of_decide_eq_true h
    omega
  · split at h
    · exact of_decide_eq_true h
    · split at h
      · omega
      · cases h
set_option maxHeartbeats 1000000 in
theorem sameK_nil (a d : Option Addr) (c e : Nat) (w : World) : Calls Try.prog 32 #[.slice a 0 c, .slice d 0 e] w fun e w' => e = .returned (.bool true) ∧ Below w.heap.size w w' := by
  go_enter Try.func32, Try.ntmps32
  go_wp2_with fail
  refine wp_loop_rounds 1 ?_
  rw [rounds_succ]
  go_wp2_with fail
  go_ret
  exact ⟨rfl, Below.refl _ _⟩
set_option maxRecDepth 20000 in
set_option maxHeartbeats 2000000 in
theorem sameK_walk (l : List Ar) (n : Nat) (hl : l.length = n) (hs : n ≤ 4611686018427387904) (lo : lowA l) (b o c d q e : Nat) (w : World)
    (HA : Hid (Ats w (.slice (some ⟨b, o, none⟩) n c) l)) (HB : Hid (Ats w (.slice (some ⟨d, q, none⟩) n e) l)) :
    Calls Try.prog 32 #[.slice (some ⟨b, o, none⟩) n c, .slice (some ⟨d, q, none⟩) n e] w fun e w' => e = .returned (.bool true) ∧ Below w.heap.size w w' := by
  have HN : Hid (l.length = n ∧ (n : Int) ≤ 4611686018427387904) := ⟨hl, by omega⟩
  have HL : Hid (lowA l) := lo
  clear hl hs lo
  go_enter Try.func32, Try.ntmps32
  go_wp2_with fail
  go_loopw [13] (fun i wr => ∃ j : Nat, j ≤ n ∧ i = .int .i64 (j : Int) ∧ Hid (Below w.heap.size w wr)) (fun i _ => n - (intOf i).toNat)
  case atStart => exact ⟨0, Nat.zero_le _, rfl, Below.refl _ _⟩
  case round =>
    obtain ⟨j, hj, rfl, bk⟩ := hrel
    by_cases hlt : j < n
    · have i1 : (j : Int) < (n : Int) := by omega
      have i0 : (0 : Int) ≤ (j : Int) := by omega
      have jn : (n : Int) ≤ 4611686018427387904 := HN.out.2
      have HJ : Hid (j < n) := hlt
      obtain ⟨x, hx⟩ : ∃ x, Hid (l[j]? = some x) := ⟨l[j]'(by have := HN.out; omega), List.getElem?_eq_getElem _⟩
      obtain ⟨xa, xc, ex⟩ := (HA.out.up bk.out (Nat.le_refl _)).elem hx.out
      obtain ⟨ya, yc, ey⟩ := (HB.out.up bk.out (Nat.le_refl _)).elem hx.out
      have EX : Hid (AtE wr b (o + j * 2) x xa xc) := ex
      have EY : Hid (AtE wr d (q + j * 2) x ya yc) := ey
      have lx := (HL.out x (List.mem_of_getElem? hx.out)).2
      have EQ : Hid (∀ W, Below wr.heap.size wr W → Calls Try.prog 30 #[.slice xa x.v.length xc, .slice ya x.v.length yc] W fun e w' => e = .returned (.bool true) ∧ Below W.heap.size W w') := by
        intro W hW
        have := equal_fun _ _ x.v x.v lx lx W (EX.out.up hW).2.2 (EY.out.up hW).2.2
        simpa using this
      clear hlt hj ex ey lx
      go_wp2_with fail
      refine wp_region_monoGE [MP.eq (.slice (some ⟨b, o, none⟩) n c), MP.eq (.int .i64 (j : Int)), MP.eq (.pointer (some ⟨b, o + j * 2, none⟩)), MP.eq (.pointer (some ⟨b, o + j * 2, none⟩)), MP.eq (.int .i64 x.k), MP.eq (.slice (some ⟨d, q, none⟩) n e), MP.eq (.int .i64 (j : Int)), MP.eq (.pointer (some ⟨d, q + j * 2, none⟩)), MP.eq (.pointer (some ⟨d, q + j * 2, none⟩)), MP.eq (.int .i64 x.k), MP.eq (.bool false), MP.eq (.bool false), MP.eq (.slice (some ⟨b, o, none⟩) n c), MP.eq (.int .i64 (j : Int)), MP.eq (.pointer (some ⟨b, o + j * 2, none⟩)), MP.eq (.pointer (some ⟨b, o + j * 2 + 1, none⟩)), MP.eq (.slice xa x.v.length xc), MP.eq (.slice (some ⟨d, q, none⟩) n e), MP.eq (.int .i64 (j : Int)), MP.eq (.pointer (some ⟨d, q + j * 2, none⟩)), MP.eq (.pointer (some ⟨d, q + j * 2 + 1, none⟩)), MP.eq (.slice ya x.v.length yc), MP.eq (.bool true), MP.eq (.bool false), MP.eq (.bool false)] (by kernel_rfl) (by kernel_rfl) rfl ?_
      apply Exists.intro
      refine ⟨fun vals => ?_, ?_, fun vals2 w2 hb2 hF => ?_⟩
      · simp only [putsV, dstL, List.length_cons, List.length_nil, Nat.zero_add, Nat.reduceAdd, List.getElem?_cons_zero, List.getElem?_cons_succ, Option.bind_some, Act.put, List.setIfInBounds_toArray, List.set_cons_succ, List.set_cons_zero]
        rfl
      · refine ⟨?_, ?_, ?_, ?_, ?_, ?_, ?_, ?_, ?_, ?_, ?_, ?_, ?_, ?_, ?_, ?_, ?_, ?_, ?_, ?_, ?_, ?_, ?_, ?_, ?_, trivial⟩
        · intro vals W hW hw hd
          try simp [Region.binds] at hd
          refine .inl ⟨by first | rfl | simp [Region.wanted, yielded, hd], ?_⟩
          simp [go_sem, hd]
          exact Below.refl _ _
        · intro vals W hW hw hd
          try simp [Region.binds] at hd
          refine .inl ⟨by first | rfl | simp [Region.wanted, yielded, hd], ?_⟩
          simp [go_sem, hd]
          exact Below.refl _ _
        · intro vals W hW hw hd
          try simp [Region.binds] at hd
          refine .inl ⟨by first | rfl | simp [Region.wanted, yielded, hd], ?_⟩
          simp [go_sem, hd, i0, i1]
          exact Below.refl _ _
        · intro vals W hW hw hd
          try simp [Region.binds] at hd
          refine .inl ⟨by first | rfl | simp [Region.wanted, yielded, hd], ?_⟩
          simp [go_sem, hd]
          exact Below.refl _ _
        · intro vals W hW hw hd
          try simp [Region.binds] at hd
          refine .inl ⟨by first | rfl | simp [Region.wanted, yielded, hd], ?_⟩
          have u0 := (EX.out.up hW.out).1
          simp [go_sem, hd, u0]
          exact Below.refl _ _
        · intro vals W hW hw hd
          try simp [Region.binds] at hd
          refine .inl ⟨by first | rfl | simp [Region.wanted, yielded, hd], ?_⟩
          simp [go_sem, hd]
          exact Below.refl _ _
        · intro vals W hW hw hd
          try simp [Region.binds] at hd
          refine .inl ⟨by first | rfl | simp [Region.wanted, yielded, hd], ?_⟩
          simp [go_sem, hd]
          exact Below.refl _ _
        · intro vals W hW hw hd
          try simp [Region.binds] at hd
          refine .inl ⟨by first | rfl | simp [Region.wanted, yielded, hd], ?_⟩
          simp [go_sem, hd, i0, i1]
          exact Below.refl _ _
        · intro vals W hW hw hd
          try simp [Region.binds] at hd
          refine .inl ⟨by first | rfl | simp [Region.wanted, yielded, hd], ?_⟩
          simp [go_sem, hd]
          exact Below.refl _ _
        · intro vals W hW hw hd
          try simp [Region.binds] at hd
          refine .inl ⟨by first | rfl | simp [Region.wanted, yielded, hd], ?_⟩
          have u0 := (EY.out.up hW.out).1
          simp [go_sem, hd, u0]
          exact Below.refl _ _
        · intro vals W hW hw hd
          try simp [Region.binds] at hd
          refine .inl ⟨by first | rfl | simp [Region.wanted, yielded, hd], ?_⟩
          simp [go_sem, hd]
          exact Below.refl _ _
        · intro vals W hW hw hd
          try simp [Region.binds] at hd
          refine .inl ⟨by first | rfl | simp [Region.wanted, yielded, hd], ?_⟩
          simp [go_sem, hd]
          exact Below.refl _ _
        · intro vals W hW hw hd
          try simp [Region.binds] at hd
          refine .inl ⟨by first | rfl | simp [Region.wanted, yielded, hd], ?_⟩
          simp [go_sem, hd]
          exact Below.refl _ _
        · intro vals W hW hw hd
          try simp [Region.binds] at hd
          refine .inl ⟨by first | rfl | simp [Region.wanted, yielded, hd], ?_⟩
          simp [go_sem, hd]
          exact Below.refl _ _
        · intro vals W hW hw hd
          try simp [Region.binds] at hd
          refine .inl ⟨by first | rfl | simp [Region.wanted, yielded, hd], ?_⟩
          simp [go_sem, hd, i0, i1]
          exact Below.refl _ _
        · intro vals W hW hw hd
          try simp [Region.binds] at hd
          refine .inl ⟨by first | rfl | simp [Region.wanted, yielded, hd], ?_⟩
          simp [go_sem, hd]
          exact Below.refl _ _
        · intro vals W hW hw hd
          try simp [Region.binds] at hd
          refine .inl ⟨by first | rfl | simp [Region.wanted, yielded, hd], ?_⟩
          have u0 := (EX.out.up hW.out).2.1
          simp [go_sem, hd, u0]
          exact Below.refl _ _
        · intro vals W hW hw hd
          try simp [Region.binds] at hd
          refine .inl ⟨by first | rfl | simp [Region.wanted, yielded, hd], ?_⟩
          simp [go_sem, hd]
          exact Below.refl _ _
        · intro vals W hW hw hd
          try simp [Region.binds] at hd
          refine .inl ⟨by first | rfl | simp [Region.wanted, yielded, hd], ?_⟩
          simp [go_sem, hd]
          exact Below.refl _ _
        · intro vals W hW hw hd
          try simp [Region.binds] at hd
          refine .inl ⟨by first | rfl | simp [Region.wanted, yielded, hd], ?_⟩
          simp [go_sem, hd, i0, i1]
          exact Below.refl _ _
        · intro vals W hW hw hd
          try simp [Region.binds] at hd
          refine .inl ⟨by first | rfl | simp [Region.wanted, yielded, hd], ?_⟩
          simp [go_sem, hd]
          exact Below.refl _ _
        · intro vals W hW hw hd
          try simp [Region.binds] at hd
          refine .inl ⟨by first | rfl | simp [Region.wanted, yielded, hd], ?_⟩
          have u0 := (EY.out.up hW.out).2.1
          simp [go_sem, hd, u0]
          exact Below.refl _ _
        · intro vals W hW hw hd
          try simp [Region.binds] at hd
          refine .inl ⟨by first | rfl | simp [Region.wanted, yielded, hd], ?_⟩
          simp [go_sem, hd]
          exact (EQ.out W hW.out).mono fun e w' ⟨he, hb⟩ => ⟨_, he, rfl, hb⟩
        · intro vals W hW hw hd
          try simp [Region.binds] at hd
          refine .inl ⟨by first | rfl | simp [Region.wanted, yielded, hd], ?_⟩
          simp [go_sem, hd]
          exact Below.refl _ _
        · intro vals W hW hw hd
          try simp [Region.binds] at hd
          refine .inl ⟨by first | rfl | simp [Region.wanted, yielded, hd], ?_⟩
          simp [go_sem, hd]
          exact Below.refl _ _
      obtain ⟨f0, f1, f2, f3, f4, f5, f6, f7, f8, f9, f10, f11, f12, f13, f14, f15, f16, f17, f18, f19, f20, f21, f22, f23, f24, _⟩ := hF
      simp only [MP.eq_p] at f0 f1 f2 f3 f4 f5 f6 f7 f8 f9 f10 f11 f12 f13 f14 f15 f16 f17 f18 f19 f20 f21 f22 f23 f24
      have b2 : Hid (Below w.heap.size w w2) := bk.out.trans (hb2.out.mono bk.out.size)
      rw [f24]
      clear f0 f1 f2 f3 f4 f5 f6 f7 f8 f9 f10 f11 f12 f13 f14 f15 f16 f17 f18 f19 f20 f21 f22 f23 f24 hb2 EX EY bk EQ
      go_wp2_with fail
      go_roundw
      case rel => exact ⟨j + 1, HJ.out, by go_num, b2⟩
      case measure => simp [intOf]; have := HJ.out; omega
    · have i1 : ¬ (j : Int) < (n : Int) := by omega
      clear hlt hj
      go_wp2_with fail
      go_ret
      exact ⟨rfl, bk.out⟩
/-- sealringkeep.sameAttrs: true, at the same attributes. -/
theorem sameK_fun (l : List Ar) (hs : l.length ≤ 4611686018427387904) (lo : lowA l) (u v : Value) (w : World) (hu : Ats w u l) (hv : Ats w v l) :
    Calls Try.prog 32 #[u, v] w fun e w' => e = .returned (.bool true) ∧ Below w.heap.size w w' := by
  obtain ⟨a, c, rfl⟩ := ats_parts hu
  obtain ⟨d, e, rfl⟩ := ats_parts hv
  by_cases h0 : l.length = 0
  · have el := List.length_eq_zero_iff.1 h0
    subst el
    exact sameK_nil a d c e w
  · obtain ⟨b, o, rfl⟩ := hu.addr (by omega)
    obtain ⟨b', o', rfl⟩ := hv.addr (by omega)
    exact sameK_walk l l.length rfl hs lo b o c b' o' e w hu hv
end Go.Proofs.Ytepaapiflkkghaa
