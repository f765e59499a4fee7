/- What the laws lean on of package attr; sealringkeep.sameAttrs at lists that are one. -/
import Derived.Test.YtohliojdmmbcdaaQAtO
import Derived.Test.YtohliojdmmbcdaaQDerWrToDerM
import Derived.Test.YtohliojdmmbcdaaQDerRdToDerRead
namespace Go.Proofs.Ytohliojdmmbcdaa
open Go.RowKit
attribute [local go_sem] World.cell?_alloc_some cell_alloc2 cell_alloc3 cell_alloc4 frozen?_alloc_cells frozen_out
attribute [local go_sem] YieldsP execOp
attribute [local simp] MP.eq_p
set_option linter.unusedSimpArgs false
def lowA (l : List Ar) : Prop := ∀ x ∈ l, x.ok
theorem risA_low {l : List Ar} (h : lowA l) : lowA (risA l) := fun x hx => by
  obtain ⟨y, hy, h1, h2⟩ := getA_mem (risA_mem.1 hx).2
  have := h y hy
  unfold Ar.ok at *
  rw [← h1, ← h2]
  exact this
theorem ovrA_lowA {l t : List Ar} (h : lowA l) (h2 : lowA t) : lowA (ovrA l t) := risA_low fun x hx => by
  rcases List.mem_append.1 hx with hx | hx
  · exact h2 x hx
  · exact h x hx
def fltO (l t : List Ar) : Nat := if fltA l = 0 then fltA t else fltA l
def itA (x : Ar) : It := ⟨x.k.toNat, x.v⟩
def arI (x : It) : Ar := ⟨(x.tag : Int), x.body⟩
def packA (l : List Ar) : List Nat := texts ((risA l).map itA)
def riseB (l : List Ar) : Bool := decide ((l.map Ar.k).Pairwise (· < ·))
def unL (l : List Ar) : Nat × List Ar := if fltA l = 0 then (if riseB l = true then (0, l) else (1, [])) else (fltA l, [])
def unpA (b : List Nat) : Nat × List Ar := if 65536 < b.length then (2, []) else match readS 200 b with
  | .inl n => (n, [])
  | .inr l => unL (l.map arI)
def AtCheckC : Prop := ∀ (v : Value) (l : List Ar) (w : World), lowA l → Ats w v l → Calls Try.prog 15 #[v] w fun e w' => e = .returned (.int .i64 ((fltA l : Nat) : Int)) ∧ Below w.heap.size w w'
def AtNormC : Prop := ∀ (v : Value) (l : List Ar) (w : World), lowA l → Ats w v l → Calls Try.prog 10 #[v] w fun e w' => (∃ u, e = .returned (.tuple #[u, .int .i64 ((fltA l : Nat) : Int)]) ∧ Ats w' u (if fltA l = 0 then risA l else [])) ∧ Below w.heap.size w w'
def AtGetC : Prop := ∀ (v : Value) (l : List Ar) (k : Int) (w : World), lowA l → l.length ≤ 4611686018427387904 → (∀ x ∈ l, x.v.length ≤ 140737488351232) → -9223372036854775808 ≤ k → k ≤ 9223372036854775807 → Ats w v l → Calls Try.prog 13 #[v, .int .i64 k] w fun e w' => (∃ u, e = .returned (.tuple #[u, .bool (getA l k).isSome]) ∧ By w' u ((getA l k).getD [])) ∧ Below w.heap.size w w'
def AtIsC : Prop := ∀ (v : Value) (l : List Ar) (k : Int) (w : World), lowA l → l.length ≤ 4611686018427387904 → -9223372036854775808 ≤ k → k ≤ 9223372036854775807 → Ats w v l → Calls Try.prog 17 #[v, .int .i64 k] w fun e w' => e = .returned (.bool (decide ((getA l k).getD [] = [1]))) ∧ Below w.heap.size w w'
def AtMatchC : Prop := ∀ (v u : Value) (l a : List Ar) (w : World), lowA l → lowA a → l.length ≤ 4611686018427387904 → a.length ≤ 4611686018427387904 → Ats w v l → Ats w u a → Calls Try.prog 18 #[v, u] w fun e w' => e = .returned (.bool (matA l a)) ∧ Below w.heap.size w w'
def AtOverC : Prop := ∀ (v u : Value) (l t : List Ar) (w : World), lowA l → lowA t → Ats w v l → Ats w u t → Calls Try.prog 20 #[v, u] w fun e w' => (∃ r, e = .returned (.tuple #[r, .int .i64 ((fltO l t : Nat) : Int)]) ∧ Ats w' r (if fltO l t = 0 then ovrA l t else [])) ∧ Below w.heap.size w w'
def AtPackC : Prop := ∀ (v : Value) (l : List Ar) (w : World), lowA l → Ats w v l → Calls Try.prog 21 #[v] w fun e w' => (∃ u, e = .returned (.tuple #[u, .int .i64 ((fltA l : Nat) : Int)]) ∧ By w' u (if fltA l = 0 then packA l else [])) ∧ Below w.heap.size w w'
def AtUnpC : Prop := ∀ (v : Value) (b : List Nat) (w : World), lowB b → By w v b → Calls Try.prog 22 #[v] w fun e w' => (∃ u, e = .returned (.tuple #[u, .int .i64 (((unpA b).1 : Nat) : Int)]) ∧ Ats w' u (unpA b).2) ∧ Below w.heap.size w w'
/-- What is packed is unpacked as it was. -/
theorem rise_kinds {l : List Ar} (h : l.Pairwise fun a b => a.k < b.k) : riseB l = true := decide_eq_true (by rw [List.pairwise_map]; exact h)
theorem fit_len {k : Int} {v : List Nat} (h : fitA k v = true) : v.length ≤ 64 := by
  unfold fitA at h
  split at h
  · have := of_decide_eq_true h
    omega
  · split at h
    · exact of_decide_eq_true h
    · split at h
      · omega
      · cases h
theorem texts_len64 : ∀ l : List It, (∀ x ∈ l, x.body.length ≤ 64) → (texts l).length ≤ 68 * l.length
  | [], _ => Nat.le_refl _
  | x :: l, h => by
    have ih := texts_len64 l fun y hy => h y (List.mem_cons_of_mem _ hy)
    have h1 := It.text_len x
    have h2 := h x List.mem_cons_self
    have e : texts (x :: l) = x.text ++ texts l := by simp [texts]
    rw [e, List.length_append, List.length_cons]
    omega
theorem unp_pack {l : List Ar} (h : goodA l) : unpA (packA l) = (0, risA l) := by
  have hb : ∀ x ∈ risA l, x.v.length ≤ 64 ∧ 1 ≤ x.k := fun x hx => by
    have hm := risA_mem.1 hx
    have hg := good_of_get h.1 hm.2
    exact ⟨fit_len hg.2.2, hg.1⟩
  have h64 : ∀ x ∈ (risA l).map itA, x.body.length ≤ 64 := fun x hx => by
    obtain ⟨y, hy, rfl⟩ := List.mem_map.1 hx
    exact (hb y hy).1
  have hi : ∀ x ∈ (risA l).map itA, x.body.length ≤ 4096 := fun x hx => Nat.le_trans (h64 x hx) (by decide)
  have hl := risA_len l
  have hn : ((risA l).map itA).length ≤ 18 := by rw [List.length_map]; exact hl
  have ht := texts_len64 _ h64
  have e : ((risA l).map itA).map arI = risA l := by
    rw [List.map_map]
    conv => rhs; rw [← List.map_id (risA l)]
    refine List.map_congr_left fun x hx => ?_
    have := (hb x hx).2
    cases x
    simp only [Function.comp, itA, arI, id_eq, Ar.mk.injEq, and_true] at this ⊢
    omega
  unfold unpA
  rw [if_neg (by unfold packA; omega)]
  unfold packA
  rw [readS_back _ 200 (by omega) hi]
  simp only [e]
  unfold unL
  rw [if_pos (risA_good h.1), if_pos (rise_kinds (risA_rise l))]
theorem readS_pos : ∀ (r : Nat) (b : List Nat), (∀ x ∈ b, x < 256) → readS r b ≠ .inl 0
  | r, [], _, h => by cases r <;> (rw [readS] at h; cases h)
  | 0, x :: b, _, h => by rw [readS] at h; cases h
  | r + 1, x :: b, low, h => by
    rw [readS] at h
    cases hf : firstS (x :: b) with
    | inl n =>
      rw [hf] at h
      obtain rfl : n = 0 := Sum.inl.inj h
      have := firstS_inl low hf
      omega
    | inr q =>
      obtain ⟨y, n⟩ := q
      rw [hf] at h
      simp only at h
      cases hr : readS r ((x :: b).drop n) with
      | inl m =>
        rw [hr] at h
        obtain rfl : m = 0 := Sum.inl.inj h
        exact readS_pos r _ (fun z hz => low z (List.mem_of_mem_drop hz)) hr
      | inr l => rw [hr] at h; cases h
set_option maxHeartbeats 1000000 in
theorem sameK_nil (a d : Option Addr) (c e : Nat) (w : World) : Calls Try.prog 26 #[.slice a 0 c, .slice d 0 e] w fun e w' => e = .returned (.bool true) ∧ Below w.heap.size w w' := by
  go_enter Try.func26, Try.ntmps26
  go_wp2_with fail
  refine wp_loop_rounds 1 ?_
  rw [rounds_succ]
  go_wp2_with fail
  go_ret
  exact ⟨rfl, Below.refl _ _⟩
set_option maxRecDepth 20000 in
set_option maxHeartbeats 2000000 in
theorem sameK_walk (l : List Ar) (n : Nat) (hl : l.length = n) (hs : n ≤ 4611686018427387904) (lo : lowA l) (b o c d q e : Nat) (w : World)
    (HA : Hid (Ats w (.slice (some ⟨b, o, none⟩) n c) l)) (HB : Hid (Ats w (.slice (some ⟨d, q, none⟩) n e) l)) :
    Calls Try.prog 26 #[.slice (some ⟨b, o, none⟩) n c, .slice (some ⟨d, q, none⟩) n e] w fun e w' => e = .returned (.bool true) ∧ Below w.heap.size w w' := by
  have HN : Hid (l.length = n ∧ (n : Int) ≤ 4611686018427387904) := ⟨hl, by omega⟩
  have HL : Hid (lowA l) := lo
  clear hl hs lo
  go_enter Try.func26, Try.ntmps26
  go_wp2_with fail
  go_loopw [13] (fun i wr => ∃ j : Nat, j ≤ n ∧ i = .int .i64 (j : Int) ∧ Hid (Below w.heap.size w wr)) (fun i _ => n - (intOf i).toNat)
  case atStart => exact ⟨0, Nat.zero_le _, rfl, Below.refl _ _⟩
  case round =>
    obtain ⟨j, hj, rfl, bk⟩ := hrel
    by_cases hlt : j < n
    · have i1 : (j : Int) < (n : Int) := by omega
      have i0 : (0 : Int) ≤ (j : Int) := by omega
      have jn : (n : Int) ≤ 4611686018427387904 := HN.out.2
      have HJ : Hid (j < n) := hlt
      obtain ⟨x, hx⟩ : ∃ x, Hid (l[j]? = some x) := ⟨l[j]'(by have := HN.out; omega), List.getElem?_eq_getElem _⟩
      obtain ⟨xa, xc, ex⟩ := (HA.out.up bk.out (Nat.le_refl _)).elem hx.out
      obtain ⟨ya, yc, ey⟩ := (HB.out.up bk.out (Nat.le_refl _)).elem hx.out
      have EX : Hid (AtE wr b (o + j * 2) x xa xc) := ex
      have EY : Hid (AtE wr d (q + j * 2) x ya yc) := ey
      have lx := (HL.out x (List.mem_of_getElem? hx.out)).2
      have EQ : Hid (∀ W, Below wr.heap.size wr W → Calls Try.prog 32 #[.slice xa x.v.length xc, .slice ya x.v.length yc] W fun e w' => e = .returned (.bool true) ∧ Below W.heap.size W w') := by
        intro W hW
        have := equal_fun _ _ x.v x.v lx lx W (EX.out.up hW).2.2 (EY.out.up hW).2.2
        simpa using this
      clear hlt hj ex ey lx
      go_wp2_with fail
      refine wp_region_monoGE [MP.eq (.slice (some ⟨b, o, none⟩) n c), MP.eq (.int .i64 (j : Int)), MP.eq (.pointer (some ⟨b, o + j * 2, none⟩)), MP.eq (.pointer (some ⟨b, o + j * 2, none⟩)), MP.eq (.int .i64 x.k), MP.eq (.slice (some ⟨d, q, none⟩) n e), MP.eq (.int .i64 (j : Int)), MP.eq (.pointer (some ⟨d, q + j * 2, none⟩)), MP.eq (.pointer (some ⟨d, q + j * 2, none⟩)), MP.eq (.int .i64 x.k), MP.eq (.bool false), MP.eq (.bool false), MP.eq (.slice (some ⟨b, o, none⟩) n c), MP.eq (.int .i64 (j : Int)), MP.eq (.pointer (some ⟨b, o + j * 2, none⟩)), MP.eq (.pointer (some ⟨b, o + j * 2 + 1, none⟩)), MP.eq (.slice xa x.v.length xc), MP.eq (.slice (some ⟨d, q, none⟩) n e), MP.eq (.int .i64 (j : Int)), MP.eq (.pointer (some ⟨d, q + j * 2, none⟩)), MP.eq (.pointer (some ⟨d, q + j * 2 + 1, none⟩)), MP.eq (.slice ya x.v.length yc), MP.eq (.bool true), MP.eq (.bool false), MP.eq (.bool false)] (by kernel_rfl) (by kernel_rfl) rfl ?_
      apply Exists.intro
      refine ⟨fun vals => ?_, ?_, fun vals2 w2 hb2 hF => ?_⟩
      · simp only [putsV, dstL, List.length_cons, List.length_nil, Nat.zero_add, Nat.reduceAdd, List.getElem?_cons_zero, List.getElem?_cons_succ, Option.bind_some, Act.put, List.setIfInBounds_toArray, List.set_cons_succ, List.set_cons_zero]
        rfl
      · refine ⟨?_, ?_, ?_, ?_, ?_, ?_, ?_, ?_, ?_, ?_, ?_, ?_, ?_, ?_, ?_, ?_, ?_, ?_, ?_, ?_, ?_, ?_, ?_, ?_, ?_, trivial⟩
        · intro vals W hW hw hd
          try simp [Region.binds] at hd
          refine .inl ⟨by first | rfl | simp [Region.wanted, yielded, hd], ?_⟩
          simp [go_sem, hd]
          exact Below.refl _ _
        · intro vals W hW hw hd
          try simp [Region.binds] at hd
          refine .inl ⟨by first | rfl | simp [Region.wanted, yielded, hd], ?_⟩
          simp [go_sem, hd]
          exact Below.refl _ _
        · intro vals W hW hw hd
          try simp [Region.binds] at hd
          refine .inl ⟨by first | rfl | simp [Region.wanted, yielded, hd], ?_⟩
          simp [go_sem, hd, i0, i1]
          exact Below.refl _ _
        · intro vals W hW hw hd
          try simp [Region.binds] at hd
          refine .inl ⟨by first | rfl | simp [Region.wanted, yielded, hd], ?_⟩
          simp [go_sem, hd]
          exact Below.refl _ _
        · intro vals W hW hw hd
          try simp [Region.binds] at hd
          refine .inl ⟨by first | rfl | simp [Region.wanted, yielded, hd], ?_⟩
          have u0 := (EX.out.up hW.out).1
          simp [go_sem, hd, u0]
          exact Below.refl _ _
        · intro vals W hW hw hd
          try simp [Region.binds] at hd
          refine .inl ⟨by first | rfl | simp [Region.wanted, yielded, hd], ?_⟩
          simp [go_sem, hd]
          exact Below.refl _ _
        · intro vals W hW hw hd
          try simp [Region.binds] at hd
          refine .inl ⟨by first | rfl | simp [Region.wanted, yielded, hd], ?_⟩
          simp [go_sem, hd]
          exact Below.refl _ _
        · intro vals W hW hw hd
          try simp [Region.binds] at hd
          refine .inl ⟨by first | rfl | simp [Region.wanted, yielded, hd], ?_⟩
          simp [go_sem, hd, i0, i1]
          exact Below.refl _ _
        · intro vals W hW hw hd
          try simp [Region.binds] at hd
          refine .inl ⟨by first | rfl | simp [Region.wanted, yielded, hd], ?_⟩
          simp [go_sem, hd]
          exact Below.refl _ _
        · intro vals W hW hw hd
          try simp [Region.binds] at hd
          refine .inl ⟨by first | rfl | simp [Region.wanted, yielded, hd], ?_⟩
          have u0 := (EY.out.up hW.out).1
          simp [go_sem, hd, u0]
          exact Below.refl _ _
        · intro vals W hW hw hd
          try simp [Region.binds] at hd
          refine .inl ⟨by first | rfl | simp [Region.wanted, yielded, hd], ?_⟩
          simp [go_sem, hd]
          exact Below.refl _ _
        · intro vals W hW hw hd
          try simp [Region.binds] at hd
          refine .inl ⟨by first | rfl | simp [Region.wanted, yielded, hd], ?_⟩
          simp [go_sem, hd]
          exact Below.refl _ _
        · intro vals W hW hw hd
          try simp [Region.binds] at hd
          refine .inl ⟨by first | rfl | simp [Region.wanted, yielded, hd], ?_⟩
          simp [go_sem, hd]
          exact Below.refl _ _
        · intro vals W hW hw hd
          try simp [Region.binds] at hd
          refine .inl ⟨by first | rfl | simp [Region.wanted, yielded, hd], ?_⟩
          simp [go_sem, hd]
          exact Below.refl _ _
        · intro vals W hW hw hd
          try simp [Region.binds] at hd
          refine .inl ⟨by first | rfl | simp [Region.wanted, yielded, hd], ?_⟩
          simp [go_sem, hd, i0, i1]
          exact Below.refl _ _
        · intro vals W hW hw hd
          try simp [Region.binds] at hd
          refine .inl ⟨by first | rfl | simp [Region.wanted, yielded, hd], ?_⟩
          simp [go_sem, hd]
          exact Below.refl _ _
        · intro vals W hW hw hd
          try simp [Region.binds] at hd
          refine .inl ⟨by first | rfl | simp [Region.wanted, yielded, hd], ?_⟩
          have u0 := (EX.out.up hW.out).2.1
          simp [go_sem, hd, u0]
          exact Below.refl _ _
        · intro vals W hW hw hd
          try simp [Region.binds] at hd
          refine .inl ⟨by first | rfl | simp [Region.wanted, yielded, hd], ?_⟩
          simp [go_sem, hd]
          exact Below.refl _ _
        · intro vals W hW hw hd
          try simp [Region.binds] at hd
          refine .inl ⟨by first | rfl | simp [Region.wanted, yielded, hd], ?_⟩
          simp [go_sem, hd]
          exact Below.refl _ _
        · intro vals W hW hw hd
          try simp [Region.binds] at hd
          refine .inl ⟨by first | rfl | simp [Region.wanted, yielded, hd], ?_⟩
          simp [go_sem, hd, i0, i1]
          exact Below.refl _ _
        · intro vals W hW hw hd
          try simp [Region.binds] at hd
          refine .inl ⟨by first | rfl | simp [Region.wanted, yielded, hd], ?_⟩
          simp [go_sem, hd]
          exact Below.refl _ _
        · intro vals W hW hw hd
          try simp [Region.binds] at hd
          refine .inl ⟨by first | rfl | simp [Region.wanted, yielded, hd], ?_⟩
          have u0 := (EY.out.up hW.out).2.1
          simp [go_sem, hd, u0]
          exact Below.refl _ _
        · intro vals W hW hw hd
          try simp [Region.binds] at hd
          refine .inl ⟨by first | rfl | simp [Region.wanted, yielded, hd], ?_⟩
          simp [go_sem, hd]
          exact (EQ.out W hW.out).mono fun e w' ⟨he, hb⟩ => ⟨_, he, rfl, hb⟩
        · intro vals W hW hw hd
          try simp [Region.binds] at hd
          refine .inl ⟨by first | rfl | simp [Region.wanted, yielded, hd], ?_⟩
          simp [go_sem, hd]
          exact Below.refl _ _
        · intro vals W hW hw hd
          try simp [Region.binds] at hd
          refine .inl ⟨by first | rfl | simp [Region.wanted, yielded, hd], ?_⟩
          simp [go_sem, hd]
          exact Below.refl _ _
      obtain ⟨f0, f1, f2, f3, f4, f5, f6, f7, f8, f9, f10, f11, f12, f13, f14, f15, f16, f17, f18, f19, f20, f21, f22, f23, f24, _⟩ := hF
      simp only [MP.eq_p] at f0 f1 f2 f3 f4 f5 f6 f7 f8 f9 f10 f11 f12 f13 f14 f15 f16 f17 f18 f19 f20 f21 f22 f23 f24
      have b2 : Hid (Below w.heap.size w w2) := bk.out.trans (hb2.out.mono bk.out.size)
      rw [f24]
      clear f0 f1 f2 f3 f4 f5 f6 f7 f8 f9 f10 f11 f12 f13 f14 f15 f16 f17 f18 f19 f20 f21 f22 f23 f24 hb2 EX EY bk EQ
      go_wp2_with fail
      go_roundw
      case rel => exact ⟨j + 1, HJ.out, by go_num, b2⟩
      case measure => simp [intOf]; have := HJ.out; omega
    · have i1 : ¬ (j : Int) < (n : Int) := by omega
      clear hlt hj
      go_wp2_with fail
      go_ret
      exact ⟨rfl, bk.out⟩
/-- sealringkeep.sameAttrs: true, at the same attributes. -/
theorem sameK_fun (l : List Ar) (hs : l.length ≤ 4611686018427387904) (lo : lowA l) (u v : Value) (w : World) (hu : Ats w u l) (hv : Ats w v l) :
    Calls Try.prog 26 #[u, v] w fun e w' => e = .returned (.bool true) ∧ Below w.heap.size w w' := by
  obtain ⟨a, c, rfl⟩ := ats_parts hu
  obtain ⟨d, e, rfl⟩ := ats_parts hv
  by_cases h0 : l.length = 0
  · have el := List.length_eq_zero_iff.1 h0
    subst el
    exact sameK_nil a d c e w
  · obtain ⟨b, o, rfl⟩ := hu.addr (by omega)
    obtain ⟨b', o', rfl⟩ := hv.addr (by omega)
    exact sameK_walk l l.length rfl hs lo b o c b' o' e w hu hv
end Go.Proofs.Ytohliojdmmbcdaa
