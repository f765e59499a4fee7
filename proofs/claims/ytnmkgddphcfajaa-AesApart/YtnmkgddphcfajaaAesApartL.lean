/- AesApart out of the contracts of package aes. -/
import Derived.Test.YtnmkgddphcfajaaAesBackL
namespace Go.Proofs.Ytnmkgddphcfajaa
open Go.RowKit
set_option linter.unusedSimpArgs false
attribute [local go_sem] YieldsP execOp
attribute [local simp] MP.eq_p
set_option maxRecDepth 20000 in
set_option maxHeartbeats 1000000 in
theorem aesApart_of {Tb : World → Prop} {zk : List Value} {Ky : World → List Value → List Nat → Prop} (C : AesC Tb zk Ky) (v : Value) (key : List Nat) (lk : ∀ x ∈ key, x < 256) (_ : key.length ≤ 140737488351232) (b d : List Nat) (hb : A.ok 16 b) (hd : A.ok 16 d) (w : World) (ht : Tb w) (hk : By w v key) :
    Calls Try.prog 5 #[v, aB b, aB d] w fun e w' => e = .returned (.bool true) ∧ Below w.heap.size w w' := by
  obtain ⟨x0, x1, x2⟩ := al2 w (b.map b8).toArray (d.map b8).toArray 23 23
  have X0 : Hid (Blk _ w.heap.size (b.map b8)) := x0
  have X1 : Hid (Blk _ (w.heap.size + 1) (d.map b8)) := x1
  have X2 : Hid (Below w.heap.size w _) := x2
  have HB : Hid (A.ok 16 b) := hb
  have HD : Hid (A.ok 16 d) := hd
  by_cases hn : KeyN key.length
  · have KB : KeyB key := ⟨hn, lk⟩
    have EX : Hid _ := C.expand key v KB _ (C.tb ht x2) (hk.up x2 (Nat.le_refl _))
    obtain ⟨ws, hws⟩ : ∃ ws, ws = A.keyW key := ⟨_, rfl⟩
    have OKW : Hid (A.okW ws) := by rw [hws]; exact KB.ws
    have EN : Hid (∀ cs b W, A.ok 16 b → Below w.heap.size w W → Ky W cs key → Calls Try.prog 11 #[.agg cs.toArray, aB b] W fun e w' => e = .returned (aB (A.encS ws b)) ∧ Below W.heap.size W w') := fun cs b W hb hW hK => by rw [hws]; exact C.enc key cs b KB hb W (C.tb ht hW) hK
    clear hws x0 x1 x2 hb hd
    go_enter Try.func5, Try.ntmps5
    go_wp2_with fail
    refine Calls.mono EX.out ?_
    rintro e w1 ⟨cs, rfl, hky, hb1⟩
    have KY : Hid (Ky w1 cs key) := hky
    have D1 : Hid (Below w.heap.size w w1) := X2.out.trans (hb1.mono X2.out.size)
    have Y1 : Hid (Blk w1 w.heap.size (b.map b8)) := X0.out.up hb1 X0.out.lt
    have V1 : Hid (Blk w1 (w.heap.size + 1) (d.map b8)) := X1.out.up hb1 X1.out.lt
    have CL : Hid (cs.length = zk.length) := C.size hky
    have CO : Hid (∀ v ∈ cs, v.oneCell' = true) := C.one hky
    clear X0 X1 X2 EX hky hb1
    go_wp2_with (refine C.make rfl rfl 7 (.tmp 12) rfl rfl rfl rfl cs CL.out CO.out rfl rfl ?_)
    intro w2 k2 hb2
    obtain ⟨kk, hkk⟩ : ∃ kk, kk = w1.heap.size := ⟨_, rfl⟩
    rw [← hkk] at k2 ⊢
    have K2 : Hid (Blk w2 kk cs) := k2
    have KY2 : Hid (Ky w2 cs key) := C.up KY.out hb2
    have D2 : Hid (Below w.heap.size w w2) := D1.out.trans (hb2.mono D1.out.size)
    have Y2 : Hid (Blk w2 w.heap.size (b.map b8)) := Y1.out.up hb2 Y1.out.lt
    have V2 : Hid (Blk w2 (w.heap.size + 1) (d.map b8)) := V1.out.up hb2 V1.out.lt
    clear k2 hb2 hkk KY D1 Y1 V1
    have RK : Hid (∀ W, Below w2.heap.size w2 W → W.rangeAt kk 0 cs) := fun W hW => (K2.out.up hW K2.out.lt).all
    have RB : Hid (∀ W, Below w2.heap.size w2 W → W.rangeAt w.heap.size 0 (b.map b8)) := fun W hW => (Y2.out.up hW Y2.out.lt).all
    have RD : Hid (∀ W, Below w2.heap.size w2 W → W.rangeAt (w.heap.size + 1) 0 (d.map b8)) := fun W hW => (V2.out.up hW V2.out.lt).all
    have KU : Hid (∀ W, Below w2.heap.size w2 W → Ky W cs key ∧ Below w.heap.size w W) := fun W hW => ⟨C.up KY2.out hW, D2.out.trans (hW.mono D2.out.size)⟩
    have EB : Hid (A.ok 16 (A.encS ws b)) := A.encS_ok OKW.out HB.out
    have ED : Hid (A.ok 16 (A.encS ws d)) := A.encS_ok OKW.out HD.out
    have EI : Hid (decide (A.encS ws b = A.encS ws d) = decide (b = d)) := by show _ = _; simp only [A.encS_inj OKW.out HB.out HD.out]
    obtain ⟨q, hq⟩ : ∃ q, decide (b = d) = q := ⟨_, rfl⟩
    have Q1 : Hid (decide (b = d) = q) := hq
    rw [hq] at EI
    have IB : Hid _ := info_n binfo_a16 b HB.out.1
    have ID : Hid _ := info_n binfo_a16 d HD.out.1
    clear hq
    go_wp2_with fail
    refine wp_region_monoE [MP.eq (.int .i64 0), MP.eq (.bool false), MP.eq (.bool false), MP.eq (.agg cs.toArray), MP.eq (aB b), MP.eq (aB (A.encS ws b)), MP.eq (.agg cs.toArray), MP.eq (aB d), MP.eq (aB (A.encS ws d)), MP.eq (.bool q), MP.eq (aB b), MP.eq (aB d), MP.eq (.bool q), MP.eq (.bool true), MP.eq (.bool true), MP.eq (.bool true)] (by kernel_rfl) (by kernel_rfl) rfl ?_
    apply Exists.intro
    refine ⟨fun vals => ?_, ?_, fun vals4 w4 hb4 hF => ?_⟩
    · simp only [putsV, dstL, List.length_cons, List.length_nil, Nat.zero_add, Nat.reduceAdd, List.getElem?_cons_zero, List.getElem?_cons_succ, Option.bind_some, Act.put, List.setIfInBounds_toArray, List.set_cons_succ, List.set_cons_zero]
      rfl
    · refine ⟨?_, ?_, ?_, ?_, ?_, ?_, ?_, ?_, ?_, ?_, ?_, ?_, ?_, ?_, ?_, ?_, trivial⟩
      · intro vals W hW hw hd
        try simp [Region.binds] at hd
        refine ⟨by first | rfl | simp [Region.wanted, yielded, hd], ?_⟩
        simp [go_sem, hd]
        exact Below.refl _ _
      · intro vals W hW hw hd
        try simp [Region.binds] at hd
        refine ⟨by first | rfl | simp [Region.wanted, yielded, hd], ?_⟩
        simp [go_sem, hd]
        exact Below.refl _ _
      · intro vals W hW hw hd
        try simp [Region.binds] at hd
        refine ⟨by first | rfl | simp [Region.wanted, yielded, hd], ?_⟩
        simp [go_sem, hd]
        exact Below.refl _ _
      · intro vals W hW hw hd
        try simp [Region.binds] at hd
        refine ⟨by first | rfl | simp [Region.wanted, yielded, hd], ?_⟩
        exact C.ld (.tmp 7) rfl kk rfl cs CL.out (RK.out W hW.out) rfl
      · intro vals W hW hw hd
        try simp [Region.binds] at hd
        refine ⟨by first | rfl | simp [Region.wanted, yielded, hd], ?_⟩
        exact yieldsA_load 23 (.tmp 4) rfl w.heap.size 0 rfl (b.map b8) _ (RB.out W hW.out) bu_a16 rfl IB.out rfl
      · intro vals W hW hw hd
        try simp [Region.binds] at hd
        refine ⟨by first | rfl | simp [Region.wanted, yielded, hd], ?_⟩
        simp [go_sem, hd]
        exact (EN.out cs b W HB.out (KU.out W hW.out).2 (KU.out W hW.out).1).mono fun e w' ⟨he, hb⟩ => ⟨_, he, rfl, hb⟩
      · intro vals W hW hw hd
        try simp [Region.binds] at hd
        refine ⟨by first | rfl | simp [Region.wanted, yielded, hd], ?_⟩
        exact C.ld (.tmp 7) rfl kk rfl cs CL.out (RK.out W hW.out) rfl
      · intro vals W hW hw hd
        try simp [Region.binds] at hd
        refine ⟨by first | rfl | simp [Region.wanted, yielded, hd], ?_⟩
        exact yieldsA_load 23 (.tmp 5) rfl (w.heap.size + 1) 0 rfl (d.map b8) _ (RD.out W hW.out) bu_a16 rfl ID.out rfl
      · intro vals W hW hw hd
        try simp [Region.binds] at hd
        refine ⟨by first | rfl | simp [Region.wanted, yielded, hd], ?_⟩
        simp [go_sem, hd]
        exact (EN.out cs d W HD.out (KU.out W hW.out).2 (KU.out W hW.out).1).mono fun e w' ⟨he, hb⟩ => ⟨_, he, rfl, hb⟩
      · intro vals W hW hw hd
        try simp [Region.binds] at hd
        refine ⟨by first | rfl | simp [Region.wanted, yielded, hd], ?_⟩
        exact yieldsA_eq bu_a16 guard_a16 (.tmp 19) (.tmp 22) rfl (A.encS ws b) (A.encS ws d) EB.out.1 ED.out.1 hd.1 hd.2.1 (congrArg Value.bool EI.out)
      · intro vals W hW hw hd
        try simp [Region.binds] at hd
        refine ⟨by first | rfl | simp [Region.wanted, yielded, hd], ?_⟩
        exact yieldsA_load 23 (.tmp 4) rfl w.heap.size 0 rfl (b.map b8) _ (RB.out W hW.out) bu_a16 rfl IB.out rfl
      · intro vals W hW hw hd
        try simp [Region.binds] at hd
        refine ⟨by first | rfl | simp [Region.wanted, yielded, hd], ?_⟩
        exact yieldsA_load 23 (.tmp 5) rfl (w.heap.size + 1) 0 rfl (d.map b8) _ (RD.out W hW.out) bu_a16 rfl ID.out rfl
      · intro vals W hW hw hd
        try simp [Region.binds] at hd
        refine ⟨by first | rfl | simp [Region.wanted, yielded, hd], ?_⟩
        exact yieldsA_eq bu_a16 guard_a16 (.tmp 24) (.tmp 25) rfl b d HB.out.1 HD.out.1 hd.1 hd.2.1 (congrArg Value.bool Q1.out)
      · intro vals W hW hw hd
        try simp [Region.binds] at hd
        refine ⟨by first | rfl | simp [Region.wanted, yielded, hd], ?_⟩
        simp [go_sem, hd]
        exact Below.refl _ _
      · intro vals W hW hw hd
        try simp [Region.binds] at hd
        refine ⟨by first | rfl | simp [Region.wanted, yielded, hd], ?_⟩
        simp [go_sem, hd]
        exact Below.refl _ _
      · intro vals W hW hw hd
        try simp [Region.binds] at hd
        refine ⟨by first | rfl | simp [Region.wanted, yielded, hd], ?_⟩
        simp [go_sem, hd]
        exact Below.refl _ _
    obtain ⟨f0, f1, f2, f3, f4, f5, f6, f7, f8, f9, f10, f11, f12, f13, f14, f15, _⟩ := hF
    simp only [MP.eq_p] at f0 f1 f2 f3 f4 f5 f6 f7 f8 f9 f10 f11 f12 f13 f14 f15
    rw [f15]
    have D4 : Hid (Below w.heap.size w w4) := D2.out.trans (hb4.out.mono D2.out.size)
    clear hb4
    go_wp2_with fail
    go_ret
    exact ⟨rfl, D4.out⟩
  · have EX : Hid _ := C.bad key v lk hn _ (C.tb ht x2) (hk.up x2 (Nat.le_refl _))
    have CO := C.zone
    clear hb hd x0 x1 x2
    go_enter Try.func5, Try.ntmps5
    go_wp2_with fail
    refine Calls.mono EX.out ?_
    rintro e w1 ⟨rfl, hb1⟩
    have D1 : Hid (Below w.heap.size w w1) := X2.out.trans (hb1.mono X2.out.size)
    clear hb1 EX X0 X1 X2
    go_wp2_with (refine C.make rfl rfl 7 (.tmp 12) rfl rfl rfl rfl zk rfl CO rfl rfl ?_)
    intro w2 _ hb2
    have D2 : Hid (Below w.heap.size w w2) := D1.out.trans (hb2.mono D1.out.size)
    clear hb2 D1
    go_wp2_with fail
    refine wp_region_up (by kernel_rfl) (by kernel_rfl) (fun U hU f hf hcl => ?_)
    clear hcl
    repeat (go_big_quiet_step (fail))
    refine wpQuiet_nil ?_
    intro n
    have hb3 := (hf n).out
    generalize f n = w3 at hb3 ⊢
    have D3 : Hid (Below w.heap.size w w3) := D2.out.trans (hb3.mono D2.out.size)
    clear hf hb3
    go_wp2_with fail
    go_ret
    exact ⟨rfl, D3.out⟩
end Go.Proofs.Ytnmkgddphcfajaa
