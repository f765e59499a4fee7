/- AesBack out of the contracts of package aes. -/
import Derived.Test.YtnmkgddphcfajaaGrp12
namespace Go.Proofs.Ytnmkgddphcfajaa
open Go.RowKit
set_option linter.unusedSimpArgs false
attribute [local go_sem] YieldsP execOp
attribute [local simp] MP.eq_p
theorem bu_a16 : Try.prog.underlying 23 = some (.array 16 5) := by kernel_rfl
theorem binfo_a16 : (Try.prog.info? 23).map (·.size) = some 16 := by kernel_rfl
theorem guard_a16 : Try.prog.eqGuardType Try.prog.depth 23 = false := by kernel_rfl
set_option maxRecDepth 20000 in
set_option maxHeartbeats 1000000 in
theorem aesBack_of {Tb : World → Prop} {zk : List Value} {Ky : World → List Value → List Nat → Prop} (C : AesC Tb zk Ky) (v : Value) (key : List Nat) (lk : ∀ x ∈ key, x < 256) (_ : key.length ≤ 140737488351232) (b : List Nat) (hb : A.ok 16 b) (w : World) (ht : Tb w) (hk : By w v key) :
    Calls Try.prog 4 #[v, aB b] w fun e w' => e = .returned (.bool true) ∧ Below w.heap.size w w' := by
  obtain ⟨x0, x1⟩ := al1 w (b.map b8).toArray 23
  have X0 : Hid (Blk _ w.heap.size (b.map b8)) := x0
  have X1 : Hid (Below w.heap.size w _) := x1
  have HB : Hid (A.ok 16 b) := hb
  by_cases hn : KeyN key.length
  · have KB : KeyB key := ⟨hn, lk⟩
    have EX : Hid _ := C.expand key v KB _ (C.tb ht x1) (hk.up x1 (Nat.le_refl _))
    obtain ⟨ws, hws⟩ : ∃ ws, ws = A.keyW key := ⟨_, rfl⟩
    have OKW : Hid (A.okW ws) := by rw [hws]; exact KB.ws
    have TU : Hid (∀ W, Below w.heap.size w W → Tb W) := fun W hW => C.tb ht hW
    have EN : Hid (∀ cs b W, A.ok 16 b → Below w.heap.size w W → Ky W cs key → Calls Try.prog 11 #[.agg cs.toArray, aB b] W fun e w' => e = .returned (aB (A.encS ws b)) ∧ Below W.heap.size W w') := fun cs b W hb hW hK => by rw [hws]; exact C.enc key cs b KB hb W (C.tb ht hW) hK
    have DE : Hid (∀ cs b W, A.ok 16 b → Below w.heap.size w W → Ky W cs key → Calls Try.prog 13 #[.agg cs.toArray, aB b] W fun e w' => e = .returned (aB (A.decS ws b)) ∧ Below W.heap.size W w') := fun cs b W hb hW hK => by rw [hws]; exact C.dec key cs b KB hb W (C.tb ht hW) hK
    clear hws x0 x1 hb
    go_enter Try.func4, Try.ntmps4
    go_wp2_with fail
    refine Calls.mono EX.out ?_
    rintro e w1 ⟨cs, rfl, hky, hb1⟩
    have KY : Hid (Ky w1 cs key) := hky
    have D1 : Hid (Below w.heap.size w w1) := X1.out.trans (hb1.mono X1.out.size)
    have Y1 : Hid (Blk w1 w.heap.size (b.map b8)) := X0.out.up hb1 X0.out.lt
    have CL : Hid (cs.length = zk.length) := C.size hky
    have CO : Hid (∀ v ∈ cs, v.oneCell' = true) := C.one hky
    clear X0 X1 EX hky hb1
    go_wp2_with (refine C.make rfl rfl 5 (.tmp 10) rfl rfl rfl rfl cs CL.out CO.out rfl rfl ?_)
    intro w2 k2 hb2
    obtain ⟨kk, hkk⟩ : ∃ kk, kk = w1.heap.size := ⟨_, rfl⟩
    rw [← hkk] at k2 ⊢
    have K2 : Hid (Blk w2 kk cs) := k2
    have KY2 : Hid (Ky w2 cs key) := C.up KY.out hb2
    have D2 : Hid (Below w.heap.size w w2) := D1.out.trans (hb2.mono D1.out.size)
    have Y2 : Hid (Blk w2 w.heap.size (b.map b8)) := Y1.out.up hb2 Y1.out.lt
    clear k2 hb2 hkk KY D1 Y1
    have RK : Hid (∀ W, Below w2.heap.size w2 W → W.rangeAt kk 0 cs) := fun W hW => (K2.out.up hW K2.out.lt).all
    have RB : Hid (∀ W, Below w2.heap.size w2 W → W.rangeAt w.heap.size 0 (b.map b8)) := fun W hW => (Y2.out.up hW Y2.out.lt).all
    have KU : Hid (∀ W, Below w2.heap.size w2 W → Ky W cs key ∧ Below w.heap.size w W) := fun W hW => ⟨C.up KY2.out hW, D2.out.trans (hW.mono D2.out.size)⟩
    have EB : Hid (A.ok 16 (A.encS ws b) ∧ A.decS ws (A.encS ws b) = b) := ⟨A.encS_ok OKW.out HB.out, A.dec_encS OKW.out HB.out⟩
    have DB : Hid (A.ok 16 (A.decS ws b) ∧ A.encS ws (A.decS ws b) = b) := ⟨A.decS_ok OKW.out HB.out, A.enc_decS OKW.out HB.out⟩
    have EQ : Hid (decide (b = b) = true) := decide_eq_true rfl
    have IB : Hid _ := info_n binfo_a16 b HB.out.1
    go_wp2_with fail
    refine wp_region_monoE [MP.eq (.agg cs.toArray), MP.eq (.agg cs.toArray), MP.eq (aB b), MP.eq (aB (A.encS ws b)), MP.eq (aB b), MP.eq (aB b), MP.eq (.bool true), MP.eq (.bool true), MP.eq (.agg cs.toArray), MP.eq (.agg cs.toArray), MP.eq (aB b), MP.eq (aB (A.decS ws b)), MP.eq (aB b), MP.eq (aB b), MP.eq (.bool true), MP.eq (.bool true), MP.eq (.bool true)] (by kernel_rfl) (by kernel_rfl) rfl ?_
    apply Exists.intro
    refine ⟨fun vals => ?_, ?_, fun vals4 w4 hb4 hF => ?_⟩
    · simp only [putsV, dstL, List.length_cons, List.length_nil, Nat.zero_add, Nat.reduceAdd, List.getElem?_cons_zero, List.getElem?_cons_succ, Option.bind_some, Act.put, List.setIfInBounds_toArray, List.set_cons_succ, List.set_cons_zero]
      rfl
    · refine ⟨?_, ?_, ?_, ?_, ?_, ?_, ?_, ?_, ?_, ?_, ?_, ?_, ?_, ?_, ?_, ?_, ?_, trivial⟩
      · intro vals W hW hw hd
        try simp [Region.binds] at hd
        refine ⟨by first | rfl | simp [Region.wanted, yielded, hd], ?_⟩
        exact C.ld (.tmp 5) rfl kk rfl cs CL.out (RK.out W hW.out) rfl
      · intro vals W hW hw hd
        try simp [Region.binds] at hd
        refine ⟨by first | rfl | simp [Region.wanted, yielded, hd], ?_⟩
        exact C.ld (.tmp 5) rfl kk rfl cs CL.out (RK.out W hW.out) rfl
      · intro vals W hW hw hd
        try simp [Region.binds] at hd
        refine ⟨by first | rfl | simp [Region.wanted, yielded, hd], ?_⟩
        exact yieldsA_load 23 (.tmp 3) rfl w.heap.size 0 rfl (b.map b8) _ (RB.out W hW.out) bu_a16 rfl IB.out rfl
      · intro vals W hW hw hd
        try simp [Region.binds] at hd
        refine ⟨by first | rfl | simp [Region.wanted, yielded, hd], ?_⟩
        simp [go_sem, hd]
        exact (EN.out cs b W HB.out (KU.out W hW.out).2 (KU.out W hW.out).1).mono fun e w' ⟨he, hb⟩ => ⟨_, he, rfl, hb⟩
      · intro vals W hW hw hd
        try simp [Region.binds] at hd
        refine ⟨by first | rfl | simp [Region.wanted, yielded, hd], ?_⟩
        simp [go_sem, hd]
        exact (DE.out cs (A.encS ws b) W EB.out.1 (KU.out W hW.out).2 (KU.out W hW.out).1).mono fun e w' ⟨he, hb⟩ => ⟨_, he, by rw [EB.out.2], hb⟩
      · intro vals W hW hw hd
        try simp [Region.binds] at hd
        refine ⟨by first | rfl | simp [Region.wanted, yielded, hd], ?_⟩
        exact yieldsA_load 23 (.tmp 3) rfl w.heap.size 0 rfl (b.map b8) _ (RB.out W hW.out) bu_a16 rfl IB.out rfl
      · intro vals W hW hw hd
        try simp [Region.binds] at hd
        refine ⟨by first | rfl | simp [Region.wanted, yielded, hd], ?_⟩
        exact yieldsA_eq bu_a16 guard_a16 (.tmp 31) (.tmp 32) rfl b b HB.out.1 HB.out.1 hd.1 hd.2 (congrArg Value.bool (decide_eq_true rfl))
      · intro vals W hW hw hd
        try simp [Region.binds] at hd
        refine ⟨by first | rfl | simp [Region.wanted, yielded, hd], ?_⟩
        simp [go_sem, hd]
        exact Below.refl _ _
      · intro vals W hW hw hd
        try simp [Region.binds] at hd
        refine ⟨by first | rfl | simp [Region.wanted, yielded, hd], ?_⟩
        exact C.ld (.tmp 5) rfl kk rfl cs CL.out (RK.out W hW.out) rfl
      · intro vals W hW hw hd
        try simp [Region.binds] at hd
        refine ⟨by first | rfl | simp [Region.wanted, yielded, hd], ?_⟩
        exact C.ld (.tmp 5) rfl kk rfl cs CL.out (RK.out W hW.out) rfl
      · intro vals W hW hw hd
        try simp [Region.binds] at hd
        refine ⟨by first | rfl | simp [Region.wanted, yielded, hd], ?_⟩
        exact yieldsA_load 23 (.tmp 3) rfl w.heap.size 0 rfl (b.map b8) _ (RB.out W hW.out) bu_a16 rfl IB.out rfl
      · intro vals W hW hw hd
        try simp [Region.binds] at hd
        refine ⟨by first | rfl | simp [Region.wanted, yielded, hd], ?_⟩
        simp [go_sem, hd]
        exact (DE.out cs b W HB.out (KU.out W hW.out).2 (KU.out W hW.out).1).mono fun e w' ⟨he, hb⟩ => ⟨_, he, rfl, hb⟩
      · intro vals W hW hw hd
        try simp [Region.binds] at hd
        refine ⟨by first | rfl | simp [Region.wanted, yielded, hd], ?_⟩
        simp [go_sem, hd]
        exact (EN.out cs (A.decS ws b) W DB.out.1 (KU.out W hW.out).2 (KU.out W hW.out).1).mono fun e w' ⟨he, hb⟩ => ⟨_, he, by rw [DB.out.2], hb⟩
      · intro vals W hW hw hd
        try simp [Region.binds] at hd
        refine ⟨by first | rfl | simp [Region.wanted, yielded, hd], ?_⟩
        exact yieldsA_load 23 (.tmp 3) rfl w.heap.size 0 rfl (b.map b8) _ (RB.out W hW.out) bu_a16 rfl IB.out rfl
      · intro vals W hW hw hd
        try simp [Region.binds] at hd
        refine ⟨by first | rfl | simp [Region.wanted, yielded, hd], ?_⟩
        exact yieldsA_eq bu_a16 guard_a16 (.tmp 39) (.tmp 40) rfl b b HB.out.1 HB.out.1 hd.1 hd.2.1 (congrArg Value.bool (decide_eq_true rfl))
      · intro vals W hW hw hd
        try simp [Region.binds] at hd
        refine ⟨by first | rfl | simp [Region.wanted, yielded, hd], ?_⟩
        simp [go_sem, hd]
        exact Below.refl _ _
      · intro vals W hW hw hd
        try simp [Region.binds] at hd
        refine ⟨by first | rfl | simp [Region.wanted, yielded, hd], ?_⟩
        simp [go_sem, hd]
        exact Below.refl _ _
    obtain ⟨f0, f1, f2, f3, f4, f5, f6, f7, f8, f9, f10, f11, f12, f13, f14, f15, f16, _⟩ := hF
    simp only [MP.eq_p] at f0 f1 f2 f3 f4 f5 f6 f7 f8 f9 f10 f11 f12 f13 f14 f15 f16
    rw [f16]
    have D4 : Hid (Below w.heap.size w w4) := D2.out.trans (hb4.out.mono D2.out.size)
    clear hb4
    go_wp2_with fail
    go_ret
    exact ⟨rfl, D4.out⟩
  · have EX : Hid _ := C.bad key v lk hn _ (C.tb ht x1) (hk.up x1 (Nat.le_refl _))
    have CO := C.zone
    obtain ⟨a, c, rfl, h1, _⟩ := hk
    have n1 : ¬ (key.length : Int) = 16 := fun h => hn (.inl (by omega))
    have n2 : ¬ (key.length : Int) = 24 := fun h => hn (.inr (.inl (by omega)))
    have n3 : ¬ (key.length : Int) = 32 := fun h => hn (.inr (.inr (by omega)))
    clear hb x0 x1
    go_enter Try.func4, Try.ntmps4
    go_wp2_with fail
    refine Calls.mono EX.out ?_
    rintro e w1 ⟨rfl, hb1⟩
    have D1 : Hid (Below w.heap.size w w1) := X1.out.trans (hb1.mono X1.out.size)
    clear hb1 EX X0 X1
    go_wp2_with (refine C.make rfl rfl 5 (.tmp 10) rfl rfl rfl rfl zk rfl CO rfl rfl ?_)
    intro w2 _ hb2
    have D2 : Hid (Below w.heap.size w w2) := D1.out.trans (hb2.mono D1.out.size)
    clear hb2 D1
    have m1 : ((key.length : Int) == 16) = false := by simpa using n1
    have m2 : ((key.length : Int) == 24) = false := by simpa using n2
    have m3 : ((key.length : Int) == 32) = false := by simpa using n3
    generalize key.length = L at *
    go_wp2_with fail
    go_ret
    exact ⟨by simp [bne, m1, m2, m3], D2.out⟩
end Go.Proofs.Ytnmkgddphcfajaa
