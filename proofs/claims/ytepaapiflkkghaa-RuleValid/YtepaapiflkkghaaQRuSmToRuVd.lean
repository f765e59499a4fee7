/- Texts that were joined: RuSm, RuVd. -/
import Derived.Test.YtepaapiflkkghaaQSameToAtK0
import Derived.Test.YtepaapiflkkghaaQRuVm
/- sealringkeep.sameAttrs: an answer, at lists of the same kinds. -/
namespace Go.Proofs.Ytepaapiflkkghaa
open Go.RowKit
attribute [local go_sem] World.cell?_alloc_some cell_alloc2 cell_alloc3 cell_alloc4 frozen?_alloc_cells frozen_out
attribute [local go_sem] YieldsP execOp
attribute [local simp] MP.eq_p
set_option linter.unusedSimpArgs false
set_option maxHeartbeats 1000000 in
theorem sameM_nil (a d : Option Addr) (c e : Nat) (w : World) : Calls Try.prog 32 #[.slice a 0 c, .slice d 0 e] w fun e w' => (∃ s, e = .returned (.bool s)) ∧ Below w.heap.size w w' :=
  (sameK_nil a d c e w).mono fun _ _ ⟨h, hb⟩ => ⟨⟨true, h⟩, hb⟩
set_option maxRecDepth 20000 in
set_option maxHeartbeats 2000000 in
theorem sameM_walk (l m : List Ar) (n : Nat) (hl : l.length = n) (hm : m.map Ar.k = l.map Ar.k) (hs : n ≤ 4611686018427387904) (lo : lowA l) (mo : lowA m) (b o c d q e : Nat) (w : World)
    (HA : Hid (Ats w (.slice (some ⟨b, o, none⟩) n c) l)) (HB : Hid (Ats w (.slice (some ⟨d, q, none⟩) n e) m)) :
    Calls Try.prog 32 #[.slice (some ⟨b, o, none⟩) n c, .slice (some ⟨d, q, none⟩) n e] w fun e w' => (∃ s, e = .returned (.bool s)) ∧ Below w.heap.size w w' := by
  have HN : Hid (l.length = n ∧ (n : Int) ≤ 4611686018427387904) := ⟨hl, by omega⟩
  have HL : Hid (lowA l ∧ lowA m) := ⟨lo, mo⟩
  have HM : Hid (m.map Ar.k = l.map Ar.k) := hm
  clear hl hs lo mo hm
  go_enter Try.func32, Try.ntmps32
  go_wp2_with fail
  go_loopw [13] (fun i wr => ∃ j : Nat, j ≤ n ∧ i = .int .i64 (j : Int) ∧ Hid (Below w.heap.size w wr)) (fun i _ => n - (intOf i).toNat)
  case atStart => exact ⟨0, Nat.zero_le _, rfl, Below.refl _ _⟩
  case round =>
    obtain ⟨j, hj, rfl, bk⟩ := hrel
    by_cases hlt : j < n
    · have i1 : (j : Int) < (n : Int) := by omega
      have i0 : (0 : Int) ≤ (j : Int) := by omega
      have jn : (n : Int) ≤ 4611686018427387904 := HN.out.2
      have HJ : Hid (j < n) := hlt
      obtain ⟨x, hx⟩ : ∃ x, Hid (l[j]? = some x) := ⟨l[j]'(by have := HN.out; omega), List.getElem?_eq_getElem _⟩
      obtain ⟨y, hy, hk⟩ : ∃ y, Hid (m[j]? = some y) ∧ Hid (y.k = x.k) := by
        have h1 : (m.map Ar.k)[j]? = (l.map Ar.k)[j]? := by rw [HM.out]
        rw [List.getElem?_map, List.getElem?_map, hx.out] at h1
        cases hy : m[j]? with
        | none => rw [hy] at h1; cases h1
        | some y =>
          rw [hy] at h1
          exact ⟨y, rfl, Option.some.inj h1⟩
      obtain ⟨xa, xc, ex⟩ := (HA.out.up bk.out (Nat.le_refl _)).elem hx.out
      obtain ⟨ya, yc, ey⟩ := (HB.out.up bk.out (Nat.le_refl _)).elem hy.out
      have EX : Hid (AtE wr b (o + j * 2) x xa xc) := ex
      have EY : Hid (AtE wr d (q + j * 2) y ya yc) := ey
      have lx := (HL.out.1 x (List.mem_of_getElem? hx.out)).2
      have ly := (HL.out.2 y (List.mem_of_getElem? hy.out)).2
      obtain ⟨r, EQ⟩ : ∃ r, Hid (∀ W, Below wr.heap.size wr W → Calls Try.prog 30 #[.slice xa x.v.length xc, .slice ya y.v.length yc] W fun e w' => e = .returned (.bool r) ∧ Below W.heap.size W w') :=
        ⟨_, fun W hW => equal_fun _ _ x.v y.v lx ly W (EX.out.up hW).2.2 (EY.out.up hW).2.2⟩
      clear hlt hj ex ey lx ly
      go_wp2_with fail
      refine wp_region_monoGE [MP.eq (.slice (some ⟨b, o, none⟩) n c), MP.eq (.int .i64 (j : Int)), MP.eq (.pointer (some ⟨b, o + j * 2, none⟩)), MP.eq (.pointer (some ⟨b, o + j * 2, none⟩)), MP.eq (.int .i64 x.k), MP.eq (.slice (some ⟨d, q, none⟩) n e), MP.eq (.int .i64 (j : Int)), MP.eq (.pointer (some ⟨d, q + j * 2, none⟩)), MP.eq (.pointer (some ⟨d, q + j * 2, none⟩)), MP.eq (.int .i64 x.k), MP.eq (.bool false), MP.eq (.bool false), MP.eq (.slice (some ⟨b, o, none⟩) n c), MP.eq (.int .i64 (j : Int)), MP.eq (.pointer (some ⟨b, o + j * 2, none⟩)), MP.eq (.pointer (some ⟨b, o + j * 2 + 1, none⟩)), MP.eq (.slice xa x.v.length xc), MP.eq (.slice (some ⟨d, q, none⟩) n e), MP.eq (.int .i64 (j : Int)), MP.eq (.pointer (some ⟨d, q + j * 2, none⟩)), MP.eq (.pointer (some ⟨d, q + j * 2 + 1, none⟩)), MP.eq (.slice ya y.v.length yc), MP.eq (.bool r), MP.eq (.bool (!r)), MP.eq (.bool (!r))] (by kernel_rfl) (by kernel_rfl) rfl ?_
      apply Exists.intro
      refine ⟨fun vals => ?_, ?_, fun vals2 w2 hb2 hF => ?_⟩
      · simp only [putsV, dstL, List.length_cons, List.length_nil, Nat.zero_add, Nat.reduceAdd, List.getElem?_cons_zero, List.getElem?_cons_succ, Option.bind_some, Act.put, List.setIfInBounds_toArray, List.set_cons_succ, List.set_cons_zero]
        rfl
      · refine ⟨?_, ?_, ?_, ?_, ?_, ?_, ?_, ?_, ?_, ?_, ?_, ?_, ?_, ?_, ?_, ?_, ?_, ?_, ?_, ?_, ?_, ?_, ?_, ?_, ?_, trivial⟩
        · intro vals W hW hw hd
          try simp [Region.binds] at hd
          refine .inl ⟨by first | rfl | simp [Region.wanted, yielded, hd], ?_⟩
          simp [go_sem, hd]
          exact Below.refl _ _
        · intro vals W hW hw hd
          try simp [Region.binds] at hd
          refine .inl ⟨by first | rfl | simp [Region.wanted, yielded, hd], ?_⟩
          simp [go_sem, hd]
          exact Below.refl _ _
        · intro vals W hW hw hd
          try simp [Region.binds] at hd
          refine .inl ⟨by first | rfl | simp [Region.wanted, yielded, hd], ?_⟩
          simp [go_sem, hd, i0, i1]
          exact Below.refl _ _
        · intro vals W hW hw hd
          try simp [Region.binds] at hd
          refine .inl ⟨by first | rfl | simp [Region.wanted, yielded, hd], ?_⟩
          simp [go_sem, hd]
          exact Below.refl _ _
        · intro vals W hW hw hd
          try simp [Region.binds] at hd
          refine .inl ⟨by first | rfl | simp [Region.wanted, yielded, hd], ?_⟩
          have u0 := (EX.out.up hW.out).1
          simp [go_sem, hd, u0]
          exact Below.refl _ _
        · intro vals W hW hw hd
          try simp [Region.binds] at hd
          refine .inl ⟨by first | rfl | simp [Region.wanted, yielded, hd], ?_⟩
          simp [go_sem, hd]
          exact Below.refl _ _
        · intro vals W hW hw hd
          try simp [Region.binds] at hd
          refine .inl ⟨by first | rfl | simp [Region.wanted, yielded, hd], ?_⟩
          simp [go_sem, hd]
          exact Below.refl _ _
        · intro vals W hW hw hd
          try simp [Region.binds] at hd
          refine .inl ⟨by first | rfl | simp [Region.wanted, yielded, hd], ?_⟩
          simp [go_sem, hd, i0, i1]
          exact Below.refl _ _
        · intro vals W hW hw hd
          try simp [Region.binds] at hd
          refine .inl ⟨by first | rfl | simp [Region.wanted, yielded, hd], ?_⟩
          simp [go_sem, hd]
          exact Below.refl _ _
        · intro vals W hW hw hd
          try simp [Region.binds] at hd
          refine .inl ⟨by first | rfl | simp [Region.wanted, yielded, hd], ?_⟩
          have u0 := (EY.out.up hW.out).1
          rw [hk.out] at u0
          simp [go_sem, hd, u0]
          exact Below.refl _ _
        · intro vals W hW hw hd
          try simp [Region.binds] at hd
          refine .inl ⟨by first | rfl | simp [Region.wanted, yielded, hd], ?_⟩
          simp [go_sem, hd]
          exact Below.refl _ _
        · intro vals W hW hw hd
          try simp [Region.binds] at hd
          refine .inl ⟨by first | rfl | simp [Region.wanted, yielded, hd], ?_⟩
          simp [go_sem, hd]
          exact Below.refl _ _
        · intro vals W hW hw hd
          try simp [Region.binds] at hd
          refine .inl ⟨by first | rfl | simp [Region.wanted, yielded, hd], ?_⟩
          simp [go_sem, hd]
          exact Below.refl _ _
        · intro vals W hW hw hd
          try simp [Region.binds] at hd
          refine .inl ⟨by first | rfl | simp [Region.wanted, yielded, hd], ?_⟩
          simp [go_sem, hd]
          exact Below.refl _ _
        · intro vals W hW hw hd
          try simp [Region.binds] at hd
          refine .inl ⟨by first | rfl | simp [Region.wanted, yielded, hd], ?_⟩
          simp [go_sem, hd, i0, i1]
          exact Below.refl _ _
        · intro vals W hW hw hd
          try simp [Region.binds] at hd
          refine .inl ⟨by first | rfl | simp [Region.wanted, yielded, hd], ?_⟩
          simp [go_sem, hd]
          exact Below.refl _ _
        · intro vals W hW hw hd
          try simp [Region.binds] at hd
          refine .inl ⟨by first | rfl | simp [Region.wanted, yielded, hd], ?_⟩
          have u0 := (EX.out.up hW.out).2.1
          simp [go_sem, hd, u0]
          exact Below.refl _ _
        · intro vals W hW hw hd
          try simp [Region.binds] at hd
          refine .inl ⟨by first | rfl | simp [Region.wanted, yielded, hd], ?_⟩
          simp [go_sem, hd]
          exact Below.refl _ _
        · intro vals W hW hw hd
          try simp [Region.binds] at hd
          refine .inl ⟨by first | rfl | simp [Region.wanted, yielded, hd], ?_⟩
          simp [go_sem, hd]
          exact Below.refl _ _
        · intro vals W hW hw hd
          try simp [Region.binds] at hd
          refine .inl ⟨by first | rfl | simp [Region.wanted, yielded, hd], ?_⟩
          simp [go_sem, hd, i0, i1]
          exact Below.refl _ _
        · intro vals W hW hw hd
          try simp [Region.binds] at hd
          refine .inl ⟨by first | rfl | simp [Region.wanted, yielded, hd], ?_⟩
          simp [go_sem, hd]
          exact Below.refl _ _
        · intro vals W hW hw hd
          try simp [Region.binds] at hd
          refine .inl ⟨by first | rfl | simp [Region.wanted, yielded, hd], ?_⟩
          have u0 := (EY.out.up hW.out).2.1
          simp [go_sem, hd, u0]
          exact Below.refl _ _
        · intro vals W hW hw hd
          try simp [Region.binds] at hd
          refine .inl ⟨by first | rfl | simp [Region.wanted, yielded, hd], ?_⟩
          simp [go_sem, hd]
          exact (EQ.out W hW.out).mono fun e w' ⟨he, hb⟩ => ⟨_, he, rfl, hb⟩
        · intro vals W hW hw hd
          try simp [Region.binds] at hd
          refine .inl ⟨by first | rfl | simp [Region.wanted, yielded, hd], ?_⟩
          simp [go_sem, hd]
          exact Below.refl _ _
        · intro vals W hW hw hd
          try simp [Region.binds] at hd
          refine .inl ⟨by first | rfl | simp [Region.wanted, yielded, hd], ?_⟩
          simp [go_sem, hd]
          exact Below.refl _ _
      obtain ⟨f0, f1, f2, f3, f4, f5, f6, f7, f8, f9, f10, f11, f12, f13, f14, f15, f16, f17, f18, f19, f20, f21, f22, f23, f24, _⟩ := hF
      simp only [MP.eq_p] at f0 f1 f2 f3 f4 f5 f6 f7 f8 f9 f10 f11 f12 f13 f14 f15 f16 f17 f18 f19 f20 f21 f22 f23 f24
      have b2 : Hid (Below w.heap.size w w2) := bk.out.trans (hb2.out.mono bk.out.size)
      rw [f24]
      clear f0 f1 f2 f3 f4 f5 f6 f7 f8 f9 f10 f11 f12 f13 f14 f15 f16 f17 f18 f19 f20 f21 f22 f23 f24 hb2 EX EY bk EQ hk
      cases r with
      | true =>
        go_wp2_with (simp only [Bool.not_true])
        go_roundw
        case rel => exact ⟨j + 1, HJ.out, by go_num, b2⟩
        case measure => simp [intOf]; have := HJ.out; omega
      | false =>
        go_wp2_with (simp only [Bool.not_false])
        go_ret
        exact ⟨⟨_, rfl⟩, b2.out⟩
    · have i1 : ¬ (j : Int) < (n : Int) := by omega
      clear hlt hj
      go_wp2_with fail
      go_ret
      first | exact ⟨⟨_, rfl⟩, bk.out⟩ | exact ⟨.inr rfl, bk.out⟩
/-- sealringkeep.sameAttrs at lists of the same kinds. -/
theorem sameM_fun (l m : List Ar) (hm : m.map Ar.k = l.map Ar.k) (hs : l.length ≤ 4611686018427387904) (lo : lowA l) (mo : lowA m) (u v : Value) (w : World) (hu : Ats w u l) (hv : Ats w v m) :
    Calls Try.prog 32 #[u, v] w fun e w' => (∃ s, e = .returned (.bool s)) ∧ Below w.heap.size w w' := by
  obtain ⟨a, c, rfl⟩ := ats_parts hu
  obtain ⟨d, e, rfl⟩ := ats_parts hv
  have hn : m.length = l.length := by
    have := congrArg List.length hm
    simpa using this
  rw [hn] at hv ⊢
  by_cases h0 : l.length = 0
  · rw [h0]
    exact sameM_nil a d c e w
  · obtain ⟨b, o, rfl⟩ := hu.addr (by omega)
    obtain ⟨b', o', rfl⟩ := hv.addr (by omega)
    exact sameM_walk l m l.length rfl hm hs lo mo b o c b' o' e w hu hv
end Go.Proofs.Ytepaapiflkkghaa

/- RuleValid, out of what package rule must keep. -/
namespace Go.Proofs.Ytepaapiflkkghaa
open Go.RowKit
attribute [local go_sem] World.cell?_alloc_some cell_alloc2 cell_alloc3 cell_alloc4 frozen?_alloc_cells frozen_out
set_option linter.unusedSimpArgs false
set_option maxRecDepth 20000 in
set_option maxHeartbeats 8000000 in
theorem valid_walk (v : Value) (t O : List Ar) (E : Nat) (b : Bool) (l : List Tu) (a : Option Addr) (n c : Nat) (st : Nat → List Ar) (MT : Nat → Bool) (N : Nat) (w : World) (HV : Hid (Ats w v t)) (HL : Hid (Tus w (.slice a n c) l)) (HN : Hid (l.length = n)) (HO : Hid (E ≠ 0 → O = []))
    (LE : Hid (E = 0 → ∀ j, (st j).length = N))
    (M1 : ∀ W, Ats W v t → Calls Try.prog 10 #[v, .bool b] W fun e w' => (∃ r, e = .returned (.tuple #[r, .int .i64 (E : Int)]) ∧ Ats w' r O) ∧ Below W.heap.size W w')
    (S0 : Hid (st 0 = O))
    (TT : Hid (E = 0 → ∀ j x, l[j]? = some x → ∀ v u W, Ats W v (st j) → Ats W u x.l → Calls Try.prog 27 #[v, .agg #[.bool x.c, u]] W fun e w' => (∃ r, e = .returned r ∧ Ats w' r (st (j + 1))) ∧ Below W.heap.size W w'))
    (VC : Hid (E = 0 → ∀ j v W, Ats W v (st j) → Calls Try.prog 14 #[v] W fun e w' => e = .returned (.bool true) ∧ Below W.heap.size W w'))
    (MO : Hid (E = 0 → ∀ v u W, Ats W v (st 0) → Ats W u t → Calls Try.prog 31 #[v, u] W fun e w' => e = .returned (.bool true) ∧ Below W.heap.size W w'))
    (SA : Hid (E = 0 → ∀ j v u W, Ats W u (st (j + 1)) → Ats W v (st j) → Calls Try.prog 32 #[u, v] W fun e w' => (∃ s, e = .returned (.bool s) ∧ Hid (s = false → MT j = true)) ∧ Below W.heap.size W w'))
    (MN : Hid (E = 0 → ∀ j x, l[j]? = some x → MT j = true → ∀ v u W, Ats W v (st (j + 1)) → Ats W u x.l → Calls Try.prog 31 #[v, u] W fun e w' => e = .returned (.bool true) ∧ Below W.heap.size W w')) :
    Calls Try.prog 8 #[v, .bool b, .slice a n c] w fun e w' => e = .returned (.bool true) ∧ Below w.heap.size w w' := by
  have Q1 := M1 w HV.out
  clear M1
  go_enter Try.func8, Try.ntmps8
  go_wp2_with fail
  refine Q1.mono ?_
  rintro e w1 ⟨⟨r, rfl, hr⟩, hb⟩
  have b1 : Hid (Below w.heap.size w w1) := hb
  have R1 : Hid (Ats w1 r O) := hr
  clear hb hr Q1
  by_cases hE : E = 0
  · subst hE
    have T2 : Hid _ := TT.out rfl
    have L2 : Hid _ := LE.out rfl
    have V2 : Hid _ := VC.out rfl
    have O2 : Hid _ := MO.out rfl
    have A2 : Hid _ := SA.out rfl
    have N2 : Hid _ := MN.out rfl
    clear HO TT LE VC MO SA MN
    by_cases h40 : (n : Int) > 40
    · clear R1
      go_wp2_with fail
      go_ret
      exact ⟨rfl, b1.out⟩
    have N40 : Hid (n ≤ 40) := by
      show _ ≤ _
      omega
    rw [← S0.out] at R1
    have G3 := V2.out 0 r _ R1.out
    go_wp2_with fail
    clear h40
    refine G3.mono ?_
    rintro e w2 ⟨rfl, hb⟩
    have b2 : Hid (Below w.heap.size w w2) := b1.out.trans (hb.mono b1.out.size)
    have R2 : Hid (Ats w2 r (st 0)) := R1.out.up hb (Nat.le_refl _)
    have G4 := O2.out r v _ R2.out (HV.out.up b2.out (Nat.le_refl _))
    clear hb G3 b1 R1 O2 HV
    go_wp2_with fail
    refine G4.mono ?_
    rintro e w3 ⟨rfl, hb⟩
    have b3 : Hid (Below w.heap.size w w3) := b2.out.trans (hb.mono b2.out.size)
    have R3 : Hid (Ats w3 r (st 0)) := R2.out.up hb (Nat.le_refl _)
    clear hb G4 b2 R2
    go_wp2_with fail
    go_loopw [7, 43] (fun s i wr => ∃ j : Nat, j ≤ n ∧ i = .int .i64 (j : Int) ∧ Hid (Ats wr s (st j)) ∧ Hid (Below w.heap.size w wr)) (fun _ i _ => n - (intOf i).toNat)
    case atStart => exact ⟨0, Nat.zero_le _, rfl, R3, b3⟩
    case round =>
      clear R3 b3
      obtain ⟨j, hj, rfl, sk, bk⟩ := hrel
      by_cases hlt : j < n
      · have i1 : (j : Int) < (n : Int) := by omega
        have i0 : (0 : Int) ≤ (j : Int) := by omega
        have HJ : Hid (j < n) := hlt
        have jn := N40.out
        obtain ⟨p, o, rfl⟩ := HL.out.addr (by have := HN.out; omega)
        obtain ⟨x, hx⟩ : ∃ x, Hid (l[j]? = some x) := ⟨l[j]'(by have := HN.out; omega), List.getElem?_eq_getElem _⟩
        obtain ⟨xa, xc, ex⟩ := (HL.out.up bk.out).elem hx.out
        obtain ⟨ua, uc, rfl⟩ := ats_parts sk.out
        rw [L2.out j] at sk ⊢
        have EX : Hid (TuE wr p (o + j * 2) x xa xc) := ex
        have E1 : Hid (∀ (C : Array Value) t, TuE (wr.alloc (.cells C t)) p (o + j * 2) x xa xc) := fun C t => EX.out.up ((Below.refl _ _).alloc (Nat.le_refl _) _)
        have s2 : Hid (Kn (wr.alloc (.cells #[.bool x.c, .slice xa x.l.length xc] 52)) [(wr.heap.size, [.bool x.c, .slice xa x.l.length xc])]) := (Kn.nil wr).al [.bool x.c, .slice xa x.l.length xc] 52 rfl
        have ba : Hid (Below wr.heap.size wr (wr.alloc (.cells #[.bool x.c, .slice xa x.l.length xc] 52))) := (Below.refl _ _).alloc (Nat.le_refl _) _
        have b2 : Hid (Below w.heap.size w (wr.alloc (.cells #[.bool x.c, .slice xa x.l.length xc] 52))) := bk.out.trans (ba.out.mono bk.out.size)
        have o2 : Hid (Ats (wr.alloc (.cells #[.bool x.c, .slice xa x.l.length xc] 52)) (.slice ua N uc) (st j)) := sk.out.up ba.out (Nat.le_refl _)
        have x2 : Hid (Ats (wr.alloc (.cells #[.bool x.c, .slice xa x.l.length xc] 52)) (.slice xa x.l.length xc) x.l) := (E1.out _ _).2.2
        have G := T2.out j x hx.out _ _ _ o2.out x2.out
        clear hlt hj ex bk sk ba
        go_wp2_with (first | simp only [zero_turn] | refine wp_ldW rfl 52 _ rfl p (o + j * 2) rfl [.bool x.c, .slice xa x.l.length xc] _ (by first | exact EX.out.rng | exact (E1.out _ _).rng) u_turn rfl (info_turn _ _) ?_ | refine wp_ldW rfl 52 _ rfl wr.heap.size 0 rfl [.bool x.c, .slice xa x.l.length xc] _ (Kn.rng s2.out 0 rfl) u_turn rfl (info_turn _ _) ?_)
        refine G.mono ?_
        rintro e w3 ⟨⟨q, rfl, hq⟩, hb⟩
        obtain ⟨qa, qc, rfl⟩ := ats_parts hq
        rw [L2.out (j + 1)] at hq ⊢
        have b3 : Hid (Below w.heap.size w w3) := b2.out.trans (hb.mono b2.out.size)
        have q3 : Hid (Ats w3 (.slice qa N qc) (st (j + 1))) := hq
        have o3 : Hid (Ats w3 (.slice ua N uc) (st j)) := o2.out.up hb (Nat.le_refl _)
        have x3 : Hid (Ats w3 (.slice xa x.l.length xc) x.l) := x2.out.up hb (Nat.le_refl _)
        have s3 : Hid (Kn w3 [(wr.heap.size, [.bool x.c, .slice xa x.l.length xc])]) := s2.out.up hb
        have G5 := V2.out (j + 1) _ _ q3.out
        generalize wr.heap.size = g at s3 ⊢
        clear hb hq b2 s2 EX E1 G o2 x2
        go_wp2_with fail
        refine G5.mono ?_
        rintro e w4 ⟨rfl, hb⟩
        have b4 : Hid (Below w.heap.size w w4) := b3.out.trans (hb.mono b3.out.size)
        have q4 : Hid (Ats w4 (.slice qa N qc) (st (j + 1))) := q3.out.up hb (Nat.le_refl _)
        have o4 : Hid (Ats w4 (.slice ua N uc) (st j)) := o3.out.up hb (Nat.le_refl _)
        have x4 : Hid (Ats w4 (.slice xa x.l.length xc) x.l) := x3.out.up hb (Nat.le_refl _)
        have s4 : Hid (Kn w4 [(g, [.bool x.c, .slice xa x.l.length xc])]) := s3.out.up hb
        have G6 := A2.out j _ _ _ q4.out o4.out
        have nn : ((N : Int) != (N : Int)) = false := bne_self_eq_false _
        clear hb b3 q3 o3 x3 s3 G5
        go_wp2_with fail
        refine G6.mono ?_
        rintro e w5 ⟨⟨s, rfl, hs⟩, hb⟩
        have b5 : Hid (Below w.heap.size w w5) := b4.out.trans (hb.mono b4.out.size)
        have q5 : Hid (Ats w5 (.slice qa N qc) (st (j + 1))) := q4.out.up hb (Nat.le_refl _)
        have x5 : Hid (Ats w5 (.slice xa x.l.length xc) x.l) := x4.out.up hb (Nat.le_refl _)
        have s5 : Hid (Kn w5 [(g, [.bool x.c, .slice xa x.l.length xc])]) := s4.out.up hb
        clear hb b4 q4 o4 x4 s4 G6
        cases s with
        | true =>
          clear hs x5 s5
          go_wp2_with fail
          go_roundw
          case rel => exact ⟨j + 1, HJ.out, by go_num, q5, b5⟩
          case measure => simp [intOf]; have := HJ.out; omega
        | false =>
          have G7 := N2.out j x hx.out (hs.out rfl) _ _ _ q5.out x5.out
          have u1 : w5.cell? ⟨g, 1, none⟩ = some (.slice xa x.l.length xc) := Kn.get s5.out 0 1 rfl rfl
          clear hs x5 s5
          go_wp2_with fail
          refine G7.mono ?_
          rintro e w6 ⟨rfl, hb⟩
          have b6 : Hid (Below w.heap.size w w6) := b5.out.trans (hb.mono b5.out.size)
          have q6 : Hid (Ats w6 (.slice qa N qc) (st (j + 1))) := q5.out.up hb (Nat.le_refl _)
          clear hb b5 q5 u1 G7
          go_wp2_with fail
          go_roundw
          case rel => exact ⟨j + 1, HJ.out, by go_num, q6, b6⟩
          case measure => simp [intOf]; have := HJ.out; omega
      · have i1 : ¬ (j : Int) < (n : Int) := by omega
        clear hlt hj T2 S0 HL HN N40 sk L2 V2 A2 N2
        go_wp2_with fail
        go_ret
        exact ⟨rfl, bk.out⟩
  · have e1 : ((E : Int) != 0) = true := bne_iff_ne.2 (by omega)
    have e2 : ((E : Int) == 0) = false := beq_eq_false_iff_ne.2 (by omega)
    obtain rfl := HO.out hE
    obtain ⟨ra, rc, rfl⟩ := ats_parts R1.out
    rw [show ([] : List Ar).length = 0 from rfl]
    clear R1 HO hE S0 TT LE VC MO SA MN
    go_wp2_with fail
    go_ret
    exact ⟨rfl, b1.out⟩
/-- RuleValid. -/
theorem ruleValid_of (KC : RlMakeC) (CC : RlChangeC) (PC : RlCopyC) (VC : RlValidC) (MC : AtMatchC) (t : List Ar) (lt : lowA t) (hl : t.length ≤ 140737488351232) (zt : zedA t) (b : Bool) (l : List Tu) (lu : ∀ x ∈ l, x.ok) (w : World) {v u : Value} (h : Ats w v t) (hu : Tus w u l) :
    Calls Try.prog 8 #[v, .bool b, u] w fun e w' => e = .returned (.bool true) ∧ Below w.heap.size w w' := by
  have lo := madL_low (b := b) lt
  obtain ⟨a, c, rfl⟩ := tus_parts hu
  have hv : madE t b = 0 → valA (madL t b) = true := fun h => mad_val h
  have lw := trnS_low lu lo
  have vw (h : madE t b = 0) (j : Nat) : valA (trnS l (madL t b) j) = true := trnS_val (hv h) j
  have zd (h : madE t b = 0) (j : Nat) : zedA (trnS l (madL t b) j) := val_zed (vw h j)
  have ln (h : madE t b = 0) (j : Nat) : (trnS l (madL t b) j).length ≤ 4611686018427387904 := by
    have := val_len (vw h j)
    omega
  have nx (j : Nat) : (trnS l (madL t b) (j + 1) = trnS l (madL t b) j) ∨ ∃ x, l[j]? = some x ∧ trnS l (madL t b) (j + 1) = trnT (trnS l (madL t b) j) x := by
    cases hx : l[j]? with
    | none =>
      refine .inl ?_
      unfold trnS
      rw [List.take_add_one, hx, Option.toList_none, List.append_nil]
    | some x => exact .inr ⟨x, rfl, trnS_succ hx⟩
  have kd (h : madE t b = 0) (j : Nat) : (trnS l (madL t b) (j + 1)).map Ar.k = (trnS l (madL t b) j).map Ar.k := by
    rcases nx j with e | ⟨x, _, e⟩
    · rw [e]
    · rw [e]
      exact trnT_kinds x (vw h j)
  have le (h : madE t b = 0) : ∀ j, (trnS l (madL t b) j).length = (madL t b).length := fun j => by
    induction j with
    | zero => rw [trnS_zero]
    | succ j ih =>
      have := congrArg List.length (kd h j)
      rw [List.length_map, List.length_map] at this
      rw [this, ih]
  refine valid_walk v t (madL t b) (madE t b) b l a l.length c (trnS l (madL t b)) (fun j => decide (∀ x, l[j]? = some x → matA (trnS l (madL t b) (j + 1)) x.l = true)) (madL t b).length w h hu rfl mad_nil (fun h => le h)
    (fun W hW => KC v t b W lt (by omega) zt hW) (trnS_zero _ _) (fun h j x hx v u W h1 h2 => ?_) (fun h j v W hW => ?_) (fun h v u W h1 h2 => ?_) (fun h j v u W h1 h2 => ?_) (fun h j x hx hm v u W h1 h2 => ?_)
  · rw [trnS_succ hx]
    exact turnedK_fun CC PC _ (lw j) (ln h j) (zd h j) x (lu x (List.mem_of_getElem? hx)) v u W h1 h2
  · have := VC v _ W (lw j) (ln h j) (zd h j) hW
    rw [vw h j] at this
    exact this
  · have := MC v u _ t W (lw 0) lt (ln h 0) (by omega) h1 h2
    rw [trnS_zero, mad_mat h] at this
    exact this
  · by_cases e : trnS l (madL t b) (j + 1) = trnS l (madL t b) j
    · rw [e] at h1
      exact (sameK_fun _ (ln h j) (lw j) u v W h1 h2).mono fun _ _ ⟨h, hb⟩ => ⟨⟨true, h, fun h => by cases h⟩, hb⟩
    · refine (sameM_fun _ _ (kd h j).symm (ln h (j + 1)) (lw _) (lw _) u v W h1 h2).mono fun _ _ ⟨⟨s, h⟩, hb⟩ => ⟨⟨s, h, fun _ => decide_eq_true fun x hx => ?_⟩, hb⟩
      rcases trnT_mat (trnS l (madL t b) j) x with e2 | e2
      · exact absurd ((trnS_succ hx).trans e2) e
      · rw [trnS_succ hx]
        exact e2
  · have lx := (lu x (List.mem_of_getElem? hx))
    have := MC v u _ x.l W (lw (j + 1)) lx.1 (ln h (j + 1)) (by have := lx.2.1; omega) h1 h2
    rw [of_decide_eq_true hm x hx] at this
    exact this
end Go.Proofs.Ytepaapiflkkghaa
