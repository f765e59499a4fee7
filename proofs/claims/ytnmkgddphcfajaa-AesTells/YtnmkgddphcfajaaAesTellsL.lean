/- AesTells out of the contracts of package aes. -/
import Derived.Test.YtnmkgddphcfajaaANew
import Derived.Test.YtnmkgddphcfajaaADec
import Derived.Test.YtnmkgddphcfajaaQEq
import Derived.Test.YtnmkgddphcfajaaGrp11
namespace Go.Proofs.Ytnmkgddphcfajaa
open Go.RowKit
set_option linter.unusedSimpArgs false
attribute [local go_sem] YieldsP execOp
attribute [local simp] MP.eq_p
theorem keyW_rounds {key : List Nat} (h : KeyB key) : ∃ r, (A.keyW key).length = 4 * (r + 1) ∧ r ≤ 20 := by
  rw [h.wl]
  rcases h.len with e | e | e <;> rw [e]
  · exact ⟨10, rfl, by decide⟩
  · exact ⟨12, rfl, by decide⟩
  · exact ⟨14, rfl, by decide⟩
set_option maxRecDepth 20000 in
set_option maxHeartbeats 2000000 in
theorem aesTells_of {Tb : World → Prop} {zk : List Value} {Ky : World → List Value → List Nat → Prop} (C : AesC Tb zk Ky) (v : Value) (key : List Nat) (lk : ∀ x ∈ key, x < 256) (_ : key.length ≤ 140737488351232) (b : List Nat) (hb : A.ok 16 b) (w : World) (ht : Tb w) (hk : By w v key) :
    Calls Try.prog 3 #[v, aB b] w fun e w' => e = .returned (.bool true) ∧ Below w.heap.size w w' := by
  obtain ⟨x0, x1⟩ := al1 w (b.map b8).toArray 23
  have X0 : Hid (Blk _ w.heap.size (b.map b8)) := x0
  have X1 : Hid (Below w.heap.size w _) := x1
  have HB : Hid (A.ok 16 b) := hb
  have HK : Hid (∀ W, Below w.heap.size w W → By W v key) := fun W hW => hk.up hW (Nat.le_refl _)
  by_cases hn : KeyN key.length
  · have KB : KeyB key := ⟨hn, lk⟩
    have EX : Hid _ := C.expand key v KB _ (C.tb ht x1) (hk.up x1 (Nat.le_refl _))
    have NW : Hid _ := rnew_fun key KB
    obtain ⟨r, hr, hr2⟩ := keyW_rounds KB
    obtain ⟨ws, hws⟩ : ∃ ws, ws = A.keyW key := ⟨_, rfl⟩
    have OKW : Hid (A.okW ws) := by rw [hws]; exact KB.ws
    rw [← hws] at NW hr
    have RR : Hid (ws.length = 4 * (r + 1) ∧ r ≤ 20) := ⟨hr, hr2⟩
    have WD : Hid (∀ cs W, Below w.heap.size w W → Ky W cs key → Calls Try.prog 10 #[.agg cs.toArray] W fun e w' => ∃ v, e = .returned v ∧ Qs w' v ws ∧ Below W.heap.size W w') := fun cs W hW hK => by rw [hws]; exact C.words key cs KB W (C.tb ht hW) hK
    have EN : Hid (∀ cs W, Below w.heap.size w W → Ky W cs key → Calls Try.prog 11 #[.agg cs.toArray, aB b] W fun e w' => e = .returned (aB (A.encS ws b)) ∧ Below W.heap.size W w') := fun cs W hW hK => by rw [hws]; exact C.enc key cs b KB hb W (C.tb ht hW) hK
    have DE : Hid (∀ cs W, Below w.heap.size w W → Ky W cs key → Calls Try.prog 13 #[.agg cs.toArray, aB b] W fun e w' => e = .returned (aB (A.decS ws b)) ∧ Below W.heap.size W w') := fun cs W hW hK => by rw [hws]; exact C.dec key cs b KB hb W (C.tb ht hW) hK
    have EL : Hid (A.ok 16 (A.encS ws b)) := A.encS_ok OKW.out hb
    have DL : Hid (A.ok 16 (A.decS ws b)) := A.decS_ok OKW.out hb
    have EQ : Hid (∀ v1 v2 W, Qs W v1 ws → Qs W v2 ws → Calls Try.prog 9 #[v1, v2] W fun e w' => e = .returned (.bool true) ∧ Below W.heap.size W w') := fun v1 v2 W h1 h2 => by
      have := equalQ_fun ws ws OKW.out OKW.out (by omega) v1 v2 W h1 h2
      rw [decide_eq_true rfl] at this
      exact this
    clear hws x0 x1 hb hr hr2
    go_enter Try.func3, Try.ntmps3
    go_wp2_with fail
    refine Calls.mono EX.out ?_
    rintro e w1 ⟨cs, rfl, hky, hb1⟩
    have KY : Hid (Ky w1 cs key) := hky
    have D1 : Hid (Below w.heap.size w w1) := X1.out.trans (hb1.mono X1.out.size)
    have Y1 : Hid (Blk w1 w.heap.size (b.map b8)) := X0.out.up hb1 X0.out.lt
    have CL : Hid (cs.length = zk.length) := C.size hky
    have CO : Hid (∀ v ∈ cs, v.oneCell' = true) := C.one hky
    clear X0 X1 EX hky hb1
    go_wp2_with (refine C.make rfl rfl 5 (.tmp 12) rfl rfl rfl rfl cs CL.out CO.out rfl rfl ?_)
    intro w2 k2 hb2
    obtain ⟨kk, hkk⟩ : ∃ kk, kk = w1.heap.size := ⟨_, rfl⟩
    rw [← hkk] at k2 ⊢
    have K2 : Hid (Blk w2 kk cs) := k2
    have KY2 : Hid (Ky w2 cs key) := C.up KY.out hb2
    have D2 : Hid (Below w.heap.size w w2) := D1.out.trans (hb2.mono D1.out.size)
    have Y2 : Hid (Blk w2 w.heap.size (b.map b8)) := Y1.out.up hb2 Y1.out.lt
    have HY : Hid (By w2 v key) := HK.out w2 D2.out
    clear k2 hb2 hkk KY D1 Y1
    go_wp2_with (refine wp_conv rfl (.tmp 15) rfl v key rfl HY.out ?_)
    refine Calls.mono (NW.out w2) ?_
    rintro e w3 ⟨⟨kc, rfl, hcp⟩, hb3⟩
    have CP : Hid (Cph w3 kc ws) := hcp
    have K3 : Hid (Blk w3 kk cs) := K2.out.up hb3 K2.out.lt
    have KY3 : Hid (Ky w3 cs key) := C.up KY2.out hb3
    have D3 : Hid (Below w.heap.size w w3) := D2.out.trans (hb3.mono D2.out.size)
    have Y3 : Hid (Blk w3 w.heap.size (b.map b8)) := Y2.out.up hb3 Y2.out.lt
    obtain ⟨vw, hvw, hbw⟩ := hcp
    have VC : Hid (∀ W, Below w3.heap.size w3 W → W.cell? ⟨kc, 0, none⟩ = some vw) := fun W hW => (hbw.up hW hbw.lt).cell 0 _ rfl
    have VQ : Hid (∀ W, Below w3.heap.size w3 W → Qs W vw ws) := fun W hW => hvw.up hW (Nat.le_refl _)
    have RK : Hid (∀ W, Below w3.heap.size w3 W → W.rangeAt kk 0 cs) := fun W hW => (K3.out.up hW K3.out.lt).all
    have RB : Hid (∀ W, Below w3.heap.size w3 W → W.rangeAt w.heap.size 0 (b.map b8)) := fun W hW => (Y3.out.up hW Y3.out.lt).all
    have KU : Hid (∀ W, Below w3.heap.size w3 W → Ky W cs key ∧ Below w.heap.size w W) := fun W hW => ⟨C.up KY3.out hW, D3.out.trans (hW.mono D3.out.size)⟩
    have RE : Hid (∀ W, Below w3.heap.size w3 W → Calls Try.prog 12 #[.pointer (some ⟨kc, 0, none⟩), aB b] W fun e w' => e = .returned (aB (A.encS ws b)) ∧ Below W.heap.size W w') := fun W hW => rencrypt_fun ws OKW.out r RR.out.1 RR.out.2 b HB.out kc W (CP.out.up hW)
    have RD : Hid (∀ W, Below w3.heap.size w3 W → Calls Try.prog 14 #[.pointer (some ⟨kc, 0, none⟩), aB b] W fun e w' => e = .returned (aB (A.decS ws b)) ∧ Below W.heap.size W w') := fun W hW => rdecrypt_fun ws OKW.out r RR.out.1 RR.out.2 b HB.out kc W (CP.out.up hW)
    have IB : Hid _ := info_n binfo_a16 b HB.out.1
    clear hb3 hvw hbw K2 KY2 D2 Y2 NW HY
    obtain ⟨ee, hee⟩ : ∃ ee, ee = A.encS ws b := ⟨_, rfl⟩
    obtain ⟨dd, hdd⟩ : ∃ dd, dd = A.decS ws b := ⟨_, rfl⟩
    rw [← hee] at EN RE EL
    rw [← hdd] at DE RD DL
    clear hee hdd
    go_wp2_with fail
    refine wp_region_monoE [MP.eq (.int .i64 0), MP.eq (.bool true), MP.eq (.bool true), MP.eq (.agg cs.toArray), MP.qs ws, MP.eq (.pointer (some ⟨kc, 0, none⟩)), MP.eq (.pointer (some ⟨kc, 0, none⟩)), MP.eq (.pointer (some ⟨kc, 0, none⟩)), MP.eq vw, MP.eq (.bool true), MP.eq (.bool true), MP.eq (.bool true), MP.eq (.agg cs.toArray), MP.eq (aB b), MP.eq (aB ee), MP.eq (.pointer (some ⟨kc, 0, none⟩)), MP.eq (aB b), MP.eq (aB ee), MP.eq (.bool true), MP.eq (.bool true), MP.eq (.bool true), MP.eq (.agg cs.toArray), MP.eq (aB b), MP.eq (aB dd), MP.eq (.pointer (some ⟨kc, 0, none⟩)), MP.eq (aB b), MP.eq (aB dd), MP.eq (.bool true), MP.eq (.bool true), MP.eq (.bool true)] (by kernel_rfl) (by kernel_rfl) rfl ?_
    apply Exists.intro
    refine ⟨fun vals => ?_, ?_, fun vals4 w4 hb4 hF => ?_⟩
    · simp only [putsV, dstL, List.length_cons, List.length_nil, Nat.zero_add, Nat.reduceAdd, List.getElem?_cons_zero, List.getElem?_cons_succ, Option.bind_some, Act.put, List.setIfInBounds_toArray, List.set_cons_succ, List.set_cons_zero]
      rfl
    · refine ⟨?_, ?_, ?_, ?_, ?_, ?_, ?_, ?_, ?_, ?_, ?_, ?_, ?_, ?_, ?_, ?_, ?_, ?_, ?_, ?_, ?_, ?_, ?_, ?_, ?_, ?_, ?_, ?_, ?_, ?_, trivial⟩
      · intro vals W hW hw hd
        try simp [Region.binds] at hd
        refine ⟨by first | rfl | simp [Region.wanted, yielded, hd], ?_⟩
        simp [go_sem, hd]
        exact Below.refl _ _
      · intro vals W hW hw hd
        try simp [Region.binds] at hd
        refine ⟨by first | rfl | simp [Region.wanted, yielded, hd], ?_⟩
        simp [go_sem, hd]
        exact Below.refl _ _
      · intro vals W hW hw hd
        try simp [Region.binds] at hd
        refine ⟨by first | rfl | simp [Region.wanted, yielded, hd], ?_⟩
        simp [go_sem, hd]
        exact Below.refl _ _
      · intro vals W hW hw hd
        try simp [Region.binds] at hd
        refine ⟨by first | rfl | simp [Region.wanted, yielded, hd], ?_⟩
        exact C.ld (.tmp 5) rfl kk rfl cs CL.out (RK.out W hW.out) rfl
      · intro vals W hW hw hd
        try simp [Region.binds] at hd
        refine ⟨by first | rfl | simp [Region.wanted, yielded, hd], ?_⟩
        simp [go_sem, hd]
        exact (WD.out cs W (KU.out W hW.out).2 (KU.out W hW.out).1).mono fun e w' ⟨v, he, hq, hb⟩ => ⟨v, he, hq, hb⟩
      · intro vals W hW hw hd
        try simp [Region.binds] at hd
        refine ⟨by first | rfl | simp [Region.wanted, yielded, hd], ?_⟩
        simp [go_sem, hd]
        exact Below.refl _ _
      · intro vals W hW hw hd
        try simp [Region.binds] at hd
        refine ⟨by first | rfl | simp [Region.wanted, yielded, hd], ?_⟩
        simp [go_sem, hd]
        exact Below.refl _ _
      · intro vals W hW hw hd
        try simp [Region.binds] at hd
        refine ⟨by first | rfl | simp [Region.wanted, yielded, hd], ?_⟩
        simp [go_sem, hd]
        exact Below.refl _ _
      · intro vals W hW hw hd
        try simp [Region.binds] at hd
        refine ⟨by first | rfl | simp [Region.wanted, yielded, hd], ?_⟩
        have cc := VC.out W hW.out
        simp [go_sem, hd, cc]
        exact Below.refl _ _
      · intro vals W hW hw hd
        try simp [Region.binds] at hd
        refine ⟨by first | rfl | simp [Region.wanted, yielded, hd], ?_⟩
        simp [go_sem, hd]
        exact (EQ.out _ _ W hd.1 (VQ.out W hW.out)).mono fun e w' ⟨he, hb⟩ => ⟨_, he, rfl, hb⟩
      · intro vals W hW hw hd
        try simp [Region.binds] at hd
        refine ⟨by first | rfl | simp [Region.wanted, yielded, hd], ?_⟩
        simp [go_sem, hd]
        exact Below.refl _ _
      · intro vals W hW hw hd
        try simp [Region.binds] at hd
        refine ⟨by first | rfl | simp [Region.wanted, yielded, hd], ?_⟩
        simp [go_sem, hd]
        exact Below.refl _ _
      · intro vals W hW hw hd
        try simp [Region.binds] at hd
        refine ⟨by first | rfl | simp [Region.wanted, yielded, hd], ?_⟩
        exact C.ld (.tmp 5) rfl kk rfl cs CL.out (RK.out W hW.out) rfl
      · intro vals W hW hw hd
        try simp [Region.binds] at hd
        refine ⟨by first | rfl | simp [Region.wanted, yielded, hd], ?_⟩
        exact yieldsA_load 23 (.tmp 3) rfl w.heap.size 0 rfl (b.map b8) _ (RB.out W hW.out) bu_a16 rfl IB.out rfl
      · intro vals W hW hw hd
        try simp [Region.binds] at hd
        refine ⟨by first | rfl | simp [Region.wanted, yielded, hd], ?_⟩
        simp [go_sem, hd]
        exact (EN.out cs W (KU.out W hW.out).2 (KU.out W hW.out).1).mono fun e w' ⟨he, hb⟩ => ⟨_, he, rfl, hb⟩
      · intro vals W hW hw hd
        try simp [Region.binds] at hd
        refine ⟨by first | rfl | simp [Region.wanted, yielded, hd], ?_⟩
        simp [go_sem, hd]
        exact Below.refl _ _
      · intro vals W hW hw hd
        try simp [Region.binds] at hd
        refine ⟨by first | rfl | simp [Region.wanted, yielded, hd], ?_⟩
        exact yieldsA_load 23 (.tmp 3) rfl w.heap.size 0 rfl (b.map b8) _ (RB.out W hW.out) bu_a16 rfl IB.out rfl
      · intro vals W hW hw hd
        try simp [Region.binds] at hd
        refine ⟨by first | rfl | simp [Region.wanted, yielded, hd], ?_⟩
        simp [go_sem, hd]
        exact (RE.out W hW.out).mono fun e w' ⟨he, hb⟩ => ⟨_, he, rfl, hb⟩
      · intro vals W hW hw hd
        try simp [Region.binds] at hd
        refine ⟨by first | rfl | simp [Region.wanted, yielded, hd], ?_⟩
        exact yieldsA_eq bu_a16 guard_a16 (.tmp 39) (.tmp 42) rfl ee ee EL.out.1 EL.out.1 hd.1 hd.2.1 (congrArg Value.bool (decide_eq_true rfl))
      · intro vals W hW hw hd
        try simp [Region.binds] at hd
        refine ⟨by first | rfl | simp [Region.wanted, yielded, hd], ?_⟩
        simp [go_sem, hd]
        exact Below.refl _ _
      · intro vals W hW hw hd
        try simp [Region.binds] at hd
        refine ⟨by first | rfl | simp [Region.wanted, yielded, hd], ?_⟩
        simp [go_sem, hd]
        exact Below.refl _ _
      · intro vals W hW hw hd
        try simp [Region.binds] at hd
        refine ⟨by first | rfl | simp [Region.wanted, yielded, hd], ?_⟩
        exact C.ld (.tmp 5) rfl kk rfl cs CL.out (RK.out W hW.out) rfl
      · intro vals W hW hw hd
        try simp [Region.binds] at hd
        refine ⟨by first | rfl | simp [Region.wanted, yielded, hd], ?_⟩
        exact yieldsA_load 23 (.tmp 3) rfl w.heap.size 0 rfl (b.map b8) _ (RB.out W hW.out) bu_a16 rfl IB.out rfl
      · intro vals W hW hw hd
        try simp [Region.binds] at hd
        refine ⟨by first | rfl | simp [Region.wanted, yielded, hd], ?_⟩
        simp [go_sem, hd]
        exact (DE.out cs W (KU.out W hW.out).2 (KU.out W hW.out).1).mono fun e w' ⟨he, hb⟩ => ⟨_, he, rfl, hb⟩
      · intro vals W hW hw hd
        try simp [Region.binds] at hd
        refine ⟨by first | rfl | simp [Region.wanted, yielded, hd], ?_⟩
        simp [go_sem, hd]
        exact Below.refl _ _
      · intro vals W hW hw hd
        try simp [Region.binds] at hd
        refine ⟨by first | rfl | simp [Region.wanted, yielded, hd], ?_⟩
        exact yieldsA_load 23 (.tmp 3) rfl w.heap.size 0 rfl (b.map b8) _ (RB.out W hW.out) bu_a16 rfl IB.out rfl
      · intro vals W hW hw hd
        try simp [Region.binds] at hd
        refine ⟨by first | rfl | simp [Region.wanted, yielded, hd], ?_⟩
        simp [go_sem, hd]
        exact (RD.out W hW.out).mono fun e w' ⟨he, hb⟩ => ⟨_, he, rfl, hb⟩
      · intro vals W hW hw hd
        try simp [Region.binds] at hd
        refine ⟨by first | rfl | simp [Region.wanted, yielded, hd], ?_⟩
        exact yieldsA_eq bu_a16 guard_a16 (.tmp 48) (.tmp 51) rfl dd dd DL.out.1 DL.out.1 hd.1 hd.2.1 (congrArg Value.bool (decide_eq_true rfl))
      · intro vals W hW hw hd
        try simp [Region.binds] at hd
        refine ⟨by first | rfl | simp [Region.wanted, yielded, hd], ?_⟩
        simp [go_sem, hd]
        exact Below.refl _ _
      · intro vals W hW hw hd
        try simp [Region.binds] at hd
        refine ⟨by first | rfl | simp [Region.wanted, yielded, hd], ?_⟩
        simp [go_sem, hd]
        exact Below.refl _ _
    obtain ⟨f0, f1, f2, f3, f4, f5, f6, f7, f8, f9, f10, f11, f12, f13, f14, f15, f16, f17, f18, f19, f20, f21, f22, f23, f24, f25, f26, f27, f28, f29, _⟩ := hF
    simp only [MP.eq_p] at f0 f1 f2 f3 f5 f6 f7 f8 f9 f10 f11 f12 f13 f14 f15 f16 f17 f18 f19 f20 f21 f22 f23 f24 f25 f26 f27 f28 f29
    rw [f29]
    have D4 : Hid (Below w.heap.size w w4) := D3.out.trans (hb4.out.mono D3.out.size)
    clear hb4
    go_wp2_with fail
    go_ret
    exact ⟨rfl, D4.out⟩
  · have EX : Hid _ := C.bad key v lk hn _ (C.tb ht x1) (hk.up x1 (Nat.le_refl _))
    have NW : Hid _ := rnew_bad key hn
    have CO := C.zone
    clear hb x0 x1
    go_enter Try.func3, Try.ntmps3
    go_wp2_with fail
    refine Calls.mono EX.out ?_
    rintro e w1 ⟨rfl, hb1⟩
    have D1 : Hid (Below w.heap.size w w1) := X1.out.trans (hb1.mono X1.out.size)
    clear hb1 EX X0 X1
    go_wp2_with (refine C.make rfl rfl 5 (.tmp 12) rfl rfl rfl rfl zk rfl CO rfl rfl ?_)
    intro w2 _ hb2
    have D2 : Hid (Below w.heap.size w w2) := D1.out.trans (hb2.mono D1.out.size)
    have HY : Hid (By w2 v key) := HK.out w2 D2.out
    clear hb2 D1
    go_wp2_with (refine wp_conv rfl (.tmp 15) rfl v key rfl HY.out ?_)
    refine Calls.mono (NW.out w2) ?_
    rintro e w3 ⟨rfl, hb3⟩
    have D3 : Hid (Below w.heap.size w w3) := D2.out.trans (hb3.mono D2.out.size)
    clear hb3 D2
    go_wp2_with fail
    go_ret
    exact ⟨rfl, D3.out⟩
end Go.Proofs.Ytnmkgddphcfajaa
