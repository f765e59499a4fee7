/- ModeSeals out of the contracts of packages aes and mode. -/
import Derived.Test.YtmfbdacalenfdaaGrp50
import Derived.Test.YtmfbdacalenfdaaGrp53
namespace Go.Proofs.Ytmfbdacalenfdaa
open Go.RowKit
set_option linter.unusedSimpArgs false
attribute [local go_sem] YieldsP execOp
attribute [local simp] MP.eq_p
set_option maxRecDepth 20000 in
set_option maxHeartbeats 2000000 in
theorem modeSeals_of {Tb : World → Prop} {zk : List Value} {Ky : World → List Value → List Nat → Prop} (C : AesC Tb zk Ky) (M : ModeC Tb Ky) (v : Value) (key : List Nat) (lk : ∀ x ∈ key, x < 256) (iv : List Nat) (hi : A.ok 16 iv) (u : Value) (p : List Nat) (lp : ∀ x ∈ p, x < 256) (zp : p.length ≤ 140737488351232) (t : Value) (s : List Nat) (ls : ∀ x ∈ s, x < 256) (zs : s.length ≤ 140737488351232) (w : World) (ht : Tb w) (hk : By w v key) (hu : By w u p) (hs : By w t s) :
    Calls Try.prog 4 #[v, aB iv, u, t] w fun e w' => e = .returned (.bool true) ∧ Below w.heap.size w w' := by
  obtain ⟨x0, x1⟩ := al1 w (iv.map b8).toArray 23
  have X0 : Hid (Blk _ w.heap.size (iv.map b8)) := x0
  have X1 : Hid (Below w.heap.size w _) := x1
  have HI : Hid (A.ok 16 iv) := hi
  have HK : Hid (∀ W, Below w.heap.size w W → By W v key) := fun W hW => hk.up hW (Nat.le_refl _)
  by_cases hn : KeyN key.length
  · have KB : KeyB key := ⟨hn, lk⟩
    have EX : Hid _ := C.expand key v KB _ (C.tb ht x1) (hk.up x1 (Nat.le_refl _))
    have NW : Hid _ := rnew_fun key KB
    obtain ⟨r, hr, hr2⟩ := key_rounds KB
    obtain ⟨ws, hws⟩ : ∃ ws, ws = A.keyW key := ⟨_, rfl⟩
    have OKW : Hid (A.okW ws) := by rw [hws]; exact KB.ws
    rw [← hws] at NW hr
    have HP : Hid (∀ W, Below w.heap.size w W → By W u p) := fun W hW => hu.up hW (Nat.le_refl _)
    have HS : Hid (∀ W, Below w.heap.size w W → By W t s) := fun W hW => hs.up hW (Nat.le_refl _)
    have SM : Hid (∀ cs W, Below w.heap.size w W → Ky W cs key → Calls Try.prog 15 #[.agg cs.toArray, aB iv, u] W fun e w' => ∃ u, e = .returned u ∧ By w' u (A.sealS ws iv p) ∧ Below W.heap.size W w') := fun cs W hW hK => by
      rw [hws]
      exact (M.seals key cs iv p u KB hi lp zp W (C.tb ht hW) hK (hu.up hW (Nat.le_refl _))).mono fun e w' ⟨x, he, ho, hb⟩ => ⟨x, he, ho.by, hb⟩
    have RS : Hid (∀ kc W, Cph W kc ws → Calls Try.prog 16 #[.pointer (some ⟨kc, 0, none⟩), aB iv, .string (sOf p)] W fun e w' => e = .returned (.string (sOf (A.sealS ws iv p))) ∧ Below W.heap.size W w') := fun kc W hc => rsealed_fun ws OKW.out r hr hr2 iv HI.out p lp zp kc W hc
    have OO : ∃ (q : List Nat) (cd : Int), (∀ cs W, Below w.heap.size w W → Ky W cs key → Calls Try.prog 13 #[.agg cs.toArray, aB iv, t] W fun e w' => ∃ u, e = .returned (.tuple #[u, .int .i64 cd]) ∧ By w' u q ∧ Below W.heap.size W w') ∧ (∀ kc W, Cph W kc ws → Calls Try.prog 14 #[.pointer (some ⟨kc, 0, none⟩), aB iv, .string (sOf s)] W fun e w' => e = .returned (.tuple #[.string (sOf q), .int .i64 cd]) ∧ Below W.heap.size W w') := by
      by_cases hbad : s = [] ∨ s.length % 16 ≠ 0
      · refine ⟨[], 1, fun cs W hW hK => ?_, fun kc W _ => ropened_bad iv s hbad kc W⟩
        exact M.opensBad key cs iv s t KB HI.out ls (by omega) hbad W (C.tb ht hW) hK (hs.up hW (Nat.le_refl _))
      · have h16 : s.length % 16 = 0 := Classical.byContradiction fun h => hbad (.inr h)
        have h0 : 0 < s.length := by
          rcases Nat.eq_zero_or_pos s.length with h | h
          · exact absurd (.inl (List.length_eq_zero_iff.1 h)) hbad
          · exact h
        obtain ⟨K, hK⟩ : ∃ K, s.length = 16 * (K + 1) := ⟨s.length / 16 - 1, by omega⟩
        have m1 := fun cs W (hW : Below w.heap.size w W) hK' => M.opens key cs iv s t KB HI.out ls (by omega) h16 h0 W (C.tb ht hW) hK' (hs.up hW (Nat.le_refl _))
        have m2 := fun kc W hc => ropened_fun ws OKW.out r hr hr2 iv HI.out s ls K hK zs kc W hc
        rw [← hws] at m1
        cases e : A.openS ws iv s with
        | some q =>
          simp only [e, opV, Option.getD_some] at m1 m2
          exact ⟨q, 0, m1, m2⟩
        | none =>
          simp only [e, opV, Option.getD_none] at m1 m2
          exact ⟨[], 4, m1, m2⟩
    obtain ⟨q, cd, om, rm⟩ := OO
    have OM : Hid _ := om
    have RM : Hid _ := rm
    generalize A.sealS ws iv p = st at *
    clear hws x0 x1 hr hr2 hu hs om rm
    go_enter Try.func4, Try.ntmps4
    go_wp2_with fail
    refine Calls.mono EX.out ?_
    rintro e w1 ⟨cs, rfl, hky, hb1⟩
    have KY : Hid (Ky w1 cs key) := hky
    have D1 : Hid (Below w.heap.size w w1) := X1.out.trans (hb1.mono X1.out.size)
    have Y1 : Hid (Blk w1 w.heap.size (iv.map b8)) := X0.out.up hb1 X0.out.lt
    have CL : Hid (cs.length = zk.length) := C.size hky
    have CO : Hid (∀ v ∈ cs, v.oneCell' = true) := C.one hky
    clear X0 X1 EX hky hb1
    go_wp2_with (refine C.make rfl rfl 9 (.tmp 20) rfl rfl rfl rfl cs CL.out CO.out rfl rfl ?_)
    intro w2 k2 hb2
    obtain ⟨kk, hkk⟩ : ∃ kk, kk = w1.heap.size := ⟨_, rfl⟩
    rw [← hkk] at k2 ⊢
    have K2 : Hid (Blk w2 kk cs) := k2
    have KY2 : Hid (Ky w2 cs key) := C.up KY.out hb2
    have D2 : Hid (Below w.heap.size w w2) := D1.out.trans (hb2.mono D1.out.size)
    have Y2 : Hid (Blk w2 w.heap.size (iv.map b8)) := Y1.out.up hb2 Y1.out.lt
    clear k2 hb2 hkk KY D1 Y1
    have HY : Hid (By w2 v key) := HK.out w2 D2.out
    go_wp2_with (refine wp_conv rfl (.tmp 23) rfl v key rfl HY.out ?_)
    refine Calls.mono (NW.out w2) ?_
    rintro e w3 ⟨⟨kc, rfl, hcp⟩, hb3⟩
    have CP : Hid (Cph w3 kc ws) := hcp
    have K3 : Hid (Blk w3 kk cs) := K2.out.up hb3 K2.out.lt
    have KY3 : Hid (Ky w3 cs key) := C.up KY2.out hb3
    have D3 : Hid (Below w.heap.size w w3) := D2.out.trans (hb3.mono D2.out.size)
    have Y3 : Hid (Blk w3 w.heap.size (iv.map b8)) := Y2.out.up hb3 Y2.out.lt
    have IB : Hid _ := info_n binfo_a16 iv HI.out.1
    obtain ⟨dk, huk, hrk⟩ := C.row
    have IK : Hid _ := C.info.trans (congrArg some CL.out.symm)
    clear hb3 hcp K2 KY2 D2 Y2 NW HY
    go_wp2_with (first | refine wpList_load_mid rfl 28 (.tmp 9) rfl kk 0 rfl cs dk K3.out.all huk hrk IK.out ?_ | refine wpList_load_mid rfl 23 (.tmp 5) rfl w.heap.size 0 rfl (iv.map b8) _ Y3.out.all bu_a16 rfl IB.out ?_)
    refine Calls.mono (OM.out cs w3 D3.out KY3.out) ?_
    rintro e w5 ⟨x5, rfl, hy5, hb5⟩
    have Q5 : Hid (By w5 x5 q) := hy5
    have K5 : Hid (Blk w5 kk cs) := K3.out.up hb5 K3.out.lt
    have KY5 : Hid (Ky w5 cs key) := C.up KY3.out hb5
    have D5 : Hid (Below w.heap.size w w5) := D3.out.trans (hb5.mono D3.out.size)
    have Y5 : Hid (Blk w5 w.heap.size (iv.map b8)) := Y3.out.up hb5 Y3.out.lt
    have CP5 : Hid (Cph w5 kc ws) := CP.out.up hb5
    have HS5 : Hid (By w5 t s) := HS.out w5 D5.out
    clear hb5 hy5 K3 KY3 D3 Y3 CP OM
    go_wp2_with (first | refine wpList_load_mid rfl 23 (.tmp 5) rfl w.heap.size 0 rfl (iv.map b8) _ Y5.out.all bu_a16 rfl IB.out ?_ | refine wp_conv rfl (.tmp 43) rfl t s rfl HS5.out ?_)
    refine Calls.mono (RM.out kc w5 CP5.out) ?_
    rintro e w6 ⟨rfl, hb6⟩
    have K6 : Hid (Blk w6 kk cs) := K5.out.up hb6 K5.out.lt
    have KY6 : Hid (Ky w6 cs key) := C.up KY5.out hb6
    have D6 : Hid (Below w.heap.size w w6) := D5.out.trans (hb6.mono D5.out.size)
    have Y6 : Hid (Blk w6 w.heap.size (iv.map b8)) := Y5.out.up hb6 Y5.out.lt
    have CP6 : Hid (Cph w6 kc ws) := CP5.out.up hb6
    have Q6 : Hid (∀ W, Below w6.heap.size w6 W → By W x5 q) := fun W hW => (Q5.out.up hb6 (Nat.le_refl _)).up hW (Nat.le_refl _)
    have RK : Hid (∀ W, Below w6.heap.size w6 W → W.rangeAt kk 0 cs) := fun W hW => (K6.out.up hW K6.out.lt).all
    have RB : Hid (∀ W, Below w6.heap.size w6 W → W.rangeAt w.heap.size 0 (iv.map b8)) := fun W hW => (Y6.out.up hW Y6.out.lt).all
    have KU : Hid (∀ W, Below w6.heap.size w6 W → Ky W cs key ∧ Below w.heap.size w W) := fun W hW => ⟨C.up KY6.out hW, D6.out.trans (hW.mono D6.out.size)⟩
    have RE : Hid (∀ W, Below w6.heap.size w6 W → Calls Try.prog 16 #[.pointer (some ⟨kc, 0, none⟩), aB iv, .string (sOf p)] W fun e w' => e = .returned (.string (sOf st)) ∧ Below W.heap.size W w') := fun W hW => RS.out kc W (CP6.out.up hW)
    clear hb6 K5 KY5 D5 Y5 CP5 HS5 Q5 RS RM
    go_wp2_with fail
    refine wp_region_monoE [MP.eq (.agg cs.toArray), MP.eq (aB iv), MP.eq (u), MP.byM st, MP.eq (.string (sOf st)), MP.eq (.pointer (some ⟨kc, 0, none⟩)), MP.eq (aB iv), MP.eq (u), MP.eq (.string (sOf p)), MP.eq (.string (sOf st)), MP.eq (.bool true), MP.eq (.bool true), MP.eq (x5), MP.eq (.string (sOf q)), MP.eq (.string (sOf q)), MP.eq (.bool true), MP.eq (.bool true), MP.eq (.bool true), MP.eq (.int .i64 cd), MP.eq (.int .i64 cd), MP.eq (.bool true), MP.eq (.bool true), MP.eq (.bool true)] (by kernel_rfl) (by kernel_rfl) rfl ?_
    apply Exists.intro
    refine ⟨fun vals => ?_, ?_, fun vals7 w7 hb7 hF => ?_⟩
    · simp only [putsV, dstL, List.length_cons, List.length_nil, Nat.zero_add, Nat.reduceAdd, List.getElem?_cons_zero, List.getElem?_cons_succ, Option.bind_some, Act.put, List.setIfInBounds_toArray, List.set_cons_succ, List.set_cons_zero]
      rfl
    · refine ⟨?_, ?_, ?_, ?_, ?_, ?_, ?_, ?_, ?_, ?_, ?_, ?_, ?_, ?_, ?_, ?_, ?_, ?_, ?_, ?_, ?_, ?_, ?_, trivial⟩
      · intro vals W hW hw hd
        try simp [Region.binds] at hd
        refine ⟨by first | rfl | simp [Region.wanted, yielded, hd], ?_⟩
        exact C.ld (.tmp 9) rfl kk rfl cs CL.out (RK.out W hW.out) rfl
      · intro vals W hW hw hd
        try simp [Region.binds] at hd
        refine ⟨by first | rfl | simp [Region.wanted, yielded, hd], ?_⟩
        exact yieldsA_load 23 (.tmp 5) rfl w.heap.size 0 rfl (iv.map b8) _ (RB.out W hW.out) bu_a16 rfl IB.out rfl
      · intro vals W hW hw hd
        try simp [Region.binds] at hd
        refine ⟨by first | rfl | simp [Region.wanted, yielded, hd], ?_⟩
        simp [go_sem, hd]
        exact Below.refl _ _
      · intro vals W hW hw hd
        try simp [Region.binds] at hd
        refine ⟨by first | rfl | simp [Region.wanted, yielded, hd], ?_⟩
        simp [go_sem, hd]
        exact (SM.out cs W (KU.out W hW.out).2 (KU.out W hW.out).1).mono fun e w' ⟨v, he, hq, hb⟩ => ⟨v, he, hq, hb⟩
      · intro vals W hW hw hd
        try simp [Region.binds] at hd
        refine ⟨by first | rfl | simp [Region.wanted, yielded, hd], ?_⟩
        exact yields_convA (.tmp 51) rfl _ st rfl hd rfl
      · intro vals W hW hw hd
        try simp [Region.binds] at hd
        refine ⟨by first | rfl | simp [Region.wanted, yielded, hd], ?_⟩
        simp [go_sem, hd]
        exact Below.refl _ _
      · intro vals W hW hw hd
        try simp [Region.binds] at hd
        refine ⟨by first | rfl | simp [Region.wanted, yielded, hd], ?_⟩
        exact yieldsA_load 23 (.tmp 5) rfl w.heap.size 0 rfl (iv.map b8) _ (RB.out W hW.out) bu_a16 rfl IB.out rfl
      · intro vals W hW hw hd
        try simp [Region.binds] at hd
        refine ⟨by first | rfl | simp [Region.wanted, yielded, hd], ?_⟩
        simp [go_sem, hd]
        exact Below.refl _ _
      · intro vals W hW hw hd
        try simp [Region.binds] at hd
        refine ⟨by first | rfl | simp [Region.wanted, yielded, hd], ?_⟩
        exact yields_convA (.tmp 55) rfl u p hd (HP.out W (KU.out W hW.out).2) rfl
      · intro vals W hW hw hd
        try simp [Region.binds] at hd
        refine ⟨by first | rfl | simp [Region.wanted, yielded, hd], ?_⟩
        simp [go_sem, hd]
        exact (RE.out W hW.out).mono fun e w' ⟨he, hb⟩ => ⟨_, he, rfl, hb⟩
      · intro vals W hW hw hd
        try simp [Region.binds] at hd
        refine ⟨by first | rfl | simp [Region.wanted, yielded, hd], ?_⟩
        simp [go_sem, hd]
        exact Below.refl _ _
      · intro vals W hW hw hd
        try simp [Region.binds] at hd
        refine ⟨by first | rfl | simp [Region.wanted, yielded, hd], ?_⟩
        simp [go_sem, hd]
        exact Below.refl _ _
      · intro vals W hW hw hd
        try simp [Region.binds] at hd
        refine ⟨by first | rfl | simp [Region.wanted, yielded, hd], ?_⟩
        simp [go_sem, hd]
        exact Below.refl _ _
      · intro vals W hW hw hd
        try simp [Region.binds] at hd
        refine ⟨by first | rfl | simp [Region.wanted, yielded, hd], ?_⟩
        exact yields_convA (.tmp 60) rfl x5 q hd.1 (Q6.out W hW.out) rfl
      · intro vals W hW hw hd
        try simp [Region.binds] at hd
        refine ⟨by first | rfl | simp [Region.wanted, yielded, hd], ?_⟩
        simp [go_sem, hd]
        exact Below.refl _ _
      · intro vals W hW hw hd
        try simp [Region.binds] at hd
        refine ⟨by first | rfl | simp [Region.wanted, yielded, hd], ?_⟩
        simp [go_sem, hd]
        exact Below.refl _ _
      · intro vals W hW hw hd
        try simp [Region.binds] at hd
        refine ⟨by first | rfl | simp [Region.wanted, yielded, hd], ?_⟩
        simp [go_sem, hd]
        exact Below.refl _ _
      · intro vals W hW hw hd
        try simp [Region.binds] at hd
        refine ⟨by first | rfl | simp [Region.wanted, yielded, hd], ?_⟩
        simp [go_sem, hd]
        exact Below.refl _ _
      · intro vals W hW hw hd
        try simp [Region.binds] at hd
        refine ⟨by first | rfl | simp [Region.wanted, yielded, hd], ?_⟩
        simp [go_sem, hd]
        exact Below.refl _ _
      · intro vals W hW hw hd
        try simp [Region.binds] at hd
        refine ⟨by first | rfl | simp [Region.wanted, yielded, hd], ?_⟩
        simp [go_sem, hd]
        exact Below.refl _ _
      · intro vals W hW hw hd
        try simp [Region.binds] at hd
        refine ⟨by first | rfl | simp [Region.wanted, yielded, hd], ?_⟩
        simp [go_sem, hd]
        exact Below.refl _ _
      · intro vals W hW hw hd
        try simp [Region.binds] at hd
        refine ⟨by first | rfl | simp [Region.wanted, yielded, hd], ?_⟩
        simp [go_sem, hd]
        exact Below.refl _ _
      · intro vals W hW hw hd
        try simp [Region.binds] at hd
        refine ⟨by first | rfl | simp [Region.wanted, yielded, hd], ?_⟩
        simp [go_sem, hd]
        exact Below.refl _ _
    obtain ⟨f0, f1, f2, f3, f4, f5, f6, f7, f8, f9, f10, f11, f12, f13, f14, f15, f16, f17, f18, f19, f20, f21, f22, _⟩ := hF
    simp only [MP.eq_p] at f0 f1 f2 f4 f5 f6 f7 f8 f9 f10 f11 f12 f13 f14 f15 f16 f17 f18 f19 f20 f21 f22
    rw [f22]
    have D7 : Hid (Below w.heap.size w w7) := D6.out.trans (hb7.out.mono D6.out.size)
    clear hb7
    go_wp2_with fail
    go_ret
    exact ⟨rfl, D7.out⟩
  · have EX : Hid _ := C.bad key v lk hn _ (C.tb ht x1) (hk.up x1 (Nat.le_refl _))
    have NW : Hid _ := rnew_bad key hn
    have CO := C.zone
    clear hi x0 x1
    go_enter Try.func4, Try.ntmps4
    go_wp2_with fail
    refine Calls.mono EX.out ?_
    rintro e w1 ⟨rfl, hb1⟩
    have D1 : Hid (Below w.heap.size w w1) := X1.out.trans (hb1.mono X1.out.size)
    clear hb1 EX X0 X1
    go_wp2_with (refine C.make rfl rfl 9 (.tmp 20) rfl rfl rfl rfl zk rfl CO rfl rfl ?_)
    intro w2 _ hb2
    have D2 : Hid (Below w.heap.size w w2) := D1.out.trans (hb2.mono D1.out.size)
    have HY : Hid (By w2 v key) := HK.out w2 D2.out
    clear hb2 D1
    go_wp2_with (refine wp_conv rfl (.tmp 23) rfl v key rfl HY.out ?_)
    refine Calls.mono (NW.out w2) ?_
    rintro e w3 ⟨rfl, hb3⟩
    have D3 : Hid (Below w.heap.size w w3) := D2.out.trans (hb3.mono D2.out.size)
    clear hb3 D2
    go_wp2_with fail
    go_ret
    exact ⟨rfl, D3.out⟩
end Go.Proofs.Ytmfbdacalenfdaa
