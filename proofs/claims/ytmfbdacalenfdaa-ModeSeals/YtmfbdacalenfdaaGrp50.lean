/- Texts that were joined: ANew, MdStreams. -/
import Derived.Test.YtmfbdacalenfdaaANew4
import Derived.Test.YtmfbdacalenfdaaANew6
import Derived.Test.YtmfbdacalenfdaaANew8
import Derived.Test.YtmfbdacalenfdaaGrp8
import Derived.Test.YtmfbdacalenfdaaMdC
import Derived.Test.YtmfbdacalenfdaaRStr
/- The contract of sealringref.NewCipher, whatever the key. -/
namespace Go.Proofs.Ytmfbdacalenfdaa
open Go.RowKit
set_option linter.unusedSimpArgs false
theorem rnew_fun (key : List Nat) (h : KeyB key) (w : World) : Calls Try.prog 10 #[.string (sOf key)] w fun e w' => (∃ kc, e = .returned (.tuple #[.pointer (some ⟨kc, 0, none⟩), .int .i64 0]) ∧ Cph w' kc (A.keyW key)) ∧ Below w.heap.size w w' := by
  rcases h.len with e | e | e
  · exact rnew4_fun key ⟨e, h.low⟩ w
  · exact rnew6_fun key ⟨e, h.low⟩ w
  · exact rnew8_fun key ⟨e, h.low⟩ w
set_option maxRecDepth 20000 in
set_option maxHeartbeats 400000 in
theorem rnew_bad (key : List Nat) (h : ¬ KeyN key.length) (w : World) : Calls Try.prog 10 #[.string (sOf key)] w fun e w' => e = .returned (.tuple #[.pointer none, .int .i64 1]) ∧ Below w.heap.size w w' := by
  have n1 : ¬ ((sOf key).size : Int) = 16 := fun e => h (.inl (by rw [sOf_size] at e; omega))
  have n2 : ¬ ((sOf key).size : Int) = 24 := fun e => h (.inr (.inl (by rw [sOf_size] at e; omega)))
  have n3 : ¬ ((sOf key).size : Int) = 32 := fun e => h (.inr (.inr (by rw [sOf_size] at e; omega)))
  generalize sOf key = T at *
  have m1 : ((T.size : Int) == 16) = false := by simpa using n1
  have m2 : ((T.size : Int) == 24) = false := by simpa using n2
  have m3 : ((T.size : Int) == 32) = false := by simpa using n3
  have b1 : ((T.size : Int) != 16) = true := by simp [bne, m1]
  have b2 : ((T.size : Int) != 24) = true := by simp [bne, m2]
  have b3 : ((T.size : Int) != 32) = true := by simp [bne, m3]
  go_enter Try.func10, Try.ntmps10
  go_wp2_with fail
  go_ret2
  exact ⟨rfl, Below.refl _ _⟩
end Go.Proofs.Ytmfbdacalenfdaa

/- ModeStreams out of the contracts of packages aes and mode. -/
namespace Go.Proofs.Ytmfbdacalenfdaa
open Go.RowKit
set_option linter.unusedSimpArgs false
attribute [local go_sem] YieldsP execOp
attribute [local simp] MP.eq_p
theorem key_rounds {key : List Nat} (h : KeyB key) : ∃ r, (A.keyW key).length = 4 * (r + 1) ∧ r ≤ 20 := by
  rw [h.wl]
  rcases h.len with e | e | e <;> rw [e]
  · exact ⟨10, rfl, by decide⟩
  · exact ⟨12, rfl, by decide⟩
  · exact ⟨14, rfl, by decide⟩
set_option maxRecDepth 20000 in
set_option maxHeartbeats 2000000 in
theorem modeStreams_of {Tb : World → Prop} {zk : List Value} {Ky : World → List Value → List Nat → Prop} (C : AesC Tb zk Ky) (M : StreamC Tb Ky) (v : Value) (key : List Nat) (lk : ∀ x ∈ key, x < 256) (iv : List Nat) (hi : A.ok 16 iv) (pl : Nat) (hpl : pl < 18446744073709551616) (u : Value) (p : List Nat) (lp : ∀ x ∈ p, x < 256) (zp : p.length ≤ 140737488351232) (w : World) (ht : Tb w) (hk : By w v key) (hu : By w u p) :
    Calls Try.prog 3 #[v, aB iv, .int .u64 (pl : Int), u] w fun e w' => e = .returned (.bool true) ∧ Below w.heap.size w w' := by
  obtain ⟨x0, x1⟩ := al1 w (iv.map b8).toArray 23
  have X0 : Hid (Blk _ w.heap.size (iv.map b8)) := x0
  have X1 : Hid (Below w.heap.size w _) := x1
  have HI : Hid (A.ok 16 iv) := hi
  have HK : Hid (∀ W, Below w.heap.size w W → By W v key) := fun W hW => hk.up hW (Nat.le_refl _)
  by_cases hn : KeyN key.length
  · have KB : KeyB key := ⟨hn, lk⟩
    have EX : Hid _ := C.expand key v KB _ (C.tb ht x1) (hk.up x1 (Nat.le_refl _))
    have NW : Hid _ := rnew_fun key KB
    obtain ⟨r, hr, hr2⟩ := key_rounds KB
    obtain ⟨ws, hws⟩ : ∃ ws, ws = A.keyW key := ⟨_, rfl⟩
    have OKW : Hid (A.okW ws) := by rw [hws]; exact KB.ws
    rw [← hws] at NW hr
    have HP : Hid (∀ W, Below w.heap.size w W → By W u p) := fun W hW => hu.up hW (Nat.le_refl _)
    have ST : Hid (∀ cs W, Below w.heap.size w W → Ky W cs key → Calls Try.prog 11 #[.agg cs.toArray, aB iv, .int .u64 (pl : Int), u] W fun e w' => ∃ u, e = .returned u ∧ By w' u (A.streamS ws iv pl p) ∧ Below W.heap.size W w') := fun cs W hW hK => by rw [hws]; exact M.stream key cs iv pl p u KB hi hpl lp (by omega) W (C.tb ht hW) hK (hu.up hW (Nat.le_refl _))
    have RS : Hid (∀ kc W, Cph W kc ws → Calls Try.prog 12 #[.pointer (some ⟨kc, 0, none⟩), aB iv, .int .u64 (pl : Int), .string (sOf p)] W fun e w' => e = .returned (.string (sOf (A.streamS ws iv pl p))) ∧ Below W.heap.size W w') := fun kc W hc => rstreamed_fun ws OKW.out r hr hr2 iv HI.out pl hpl p lp zp kc W hc
    generalize A.streamS ws iv pl p = st at *
    clear hws x0 x1 hr hr2 hu
    go_enter Try.func3, Try.ntmps3
    go_wp2_with fail
    refine Calls.mono EX.out ?_
    rintro e w1 ⟨cs, rfl, hky, hb1⟩
    have KY : Hid (Ky w1 cs key) := hky
    have D1 : Hid (Below w.heap.size w w1) := X1.out.trans (hb1.mono X1.out.size)
    have Y1 : Hid (Blk w1 w.heap.size (iv.map b8)) := X0.out.up hb1 X0.out.lt
    have CL : Hid (cs.length = zk.length) := C.size hky
    have CO : Hid (∀ v ∈ cs, v.oneCell' = true) := C.one hky
    clear X0 X1 EX hky hb1
    go_wp2_with (refine C.make rfl rfl 9 (.tmp 16) rfl rfl rfl rfl cs CL.out CO.out rfl rfl ?_)
    intro w2 k2 hb2
    obtain ⟨kk, hkk⟩ : ∃ kk, kk = w1.heap.size := ⟨_, rfl⟩
    rw [← hkk] at k2 ⊢
    have K2 : Hid (Blk w2 kk cs) := k2
    have KY2 : Hid (Ky w2 cs key) := C.up KY.out hb2
    have D2 : Hid (Below w.heap.size w w2) := D1.out.trans (hb2.mono D1.out.size)
    have Y2 : Hid (Blk w2 w.heap.size (iv.map b8)) := Y1.out.up hb2 Y1.out.lt
    clear k2 hb2 hkk KY D1 Y1
    have HY : Hid (By w2 v key) := HK.out w2 D2.out
    go_wp2_with (refine wp_conv rfl (.tmp 19) rfl v key rfl HY.out ?_)
    refine Calls.mono (NW.out w2) ?_
    rintro e w3 ⟨⟨kc, rfl, hcp⟩, hb3⟩
    have CP : Hid (Cph w3 kc ws) := hcp
    have K3 : Hid (Blk w3 kk cs) := K2.out.up hb3 K2.out.lt
    have KY3 : Hid (Ky w3 cs key) := C.up KY2.out hb3
    have D3 : Hid (Below w.heap.size w w3) := D2.out.trans (hb3.mono D2.out.size)
    have Y3 : Hid (Blk w3 w.heap.size (iv.map b8)) := Y2.out.up hb3 Y2.out.lt
    have RK : Hid (∀ W, Below w3.heap.size w3 W → W.rangeAt kk 0 cs) := fun W hW => (K3.out.up hW K3.out.lt).all
    have RB : Hid (∀ W, Below w3.heap.size w3 W → W.rangeAt w.heap.size 0 (iv.map b8)) := fun W hW => (Y3.out.up hW Y3.out.lt).all
    have KU : Hid (∀ W, Below w3.heap.size w3 W → Ky W cs key ∧ Below w.heap.size w W) := fun W hW => ⟨C.up KY3.out hW, D3.out.trans (hW.mono D3.out.size)⟩
    have RE : Hid (∀ W, Below w3.heap.size w3 W → Calls Try.prog 12 #[.pointer (some ⟨kc, 0, none⟩), aB iv, .int .u64 (pl : Int), .string (sOf p)] W fun e w' => e = .returned (.string (sOf st)) ∧ Below W.heap.size W w') := fun W hW => RS.out kc W (CP.out.up hW)
    have IB : Hid _ := info_n binfo_a16 iv HI.out.1
    clear hb3 hcp K2 KY2 D2 Y2 NW HY RS
    go_wp2_with fail
    refine wp_region_monoE [MP.eq (.agg cs.toArray), MP.eq (aB iv), MP.eq (.int .u64 (pl : Int)), MP.eq (u), MP.byM st, MP.eq (.string (sOf st)), MP.eq (.pointer (some ⟨kc, 0, none⟩)), MP.eq (aB iv), MP.eq (.int .u64 (pl : Int)), MP.eq (u), MP.eq (.string (sOf p)), MP.eq (.string (sOf st)), MP.eq (.bool true), MP.eq (.bool true)] (by kernel_rfl) (by kernel_rfl) rfl ?_
    apply Exists.intro
    refine ⟨fun vals => ?_, ?_, fun vals4 w4 hb4 hF => ?_⟩
    · simp only [putsV, dstL, List.length_cons, List.length_nil, Nat.zero_add, Nat.reduceAdd, List.getElem?_cons_zero, List.getElem?_cons_succ, Option.bind_some, Act.put, List.setIfInBounds_toArray, List.set_cons_succ, List.set_cons_zero]
      rfl
    · refine ⟨?_, ?_, ?_, ?_, ?_, ?_, ?_, ?_, ?_, ?_, ?_, ?_, ?_, ?_, trivial⟩
      · intro vals W hW hw hd
        try simp [Region.binds] at hd
        refine ⟨by first | rfl | simp [Region.wanted, yielded, hd], ?_⟩
        exact C.ld (.tmp 9) rfl kk rfl cs CL.out (RK.out W hW.out) rfl
      · intro vals W hW hw hd
        try simp [Region.binds] at hd
        refine ⟨by first | rfl | simp [Region.wanted, yielded, hd], ?_⟩
        exact yieldsA_load 23 (.tmp 5) rfl w.heap.size 0 rfl (iv.map b8) _ (RB.out W hW.out) bu_a16 rfl IB.out rfl
      · intro vals W hW hw hd
        try simp [Region.binds] at hd
        refine ⟨by first | rfl | simp [Region.wanted, yielded, hd], ?_⟩
        simp [go_sem, hd]
        exact Below.refl _ _
      · intro vals W hW hw hd
        try simp [Region.binds] at hd
        refine ⟨by first | rfl | simp [Region.wanted, yielded, hd], ?_⟩
        simp [go_sem, hd]
        exact Below.refl _ _
      · intro vals W hW hw hd
        try simp [Region.binds] at hd
        refine ⟨by first | rfl | simp [Region.wanted, yielded, hd], ?_⟩
        simp [go_sem, hd]
        exact (ST.out cs W (KU.out W hW.out).2 (KU.out W hW.out).1).mono fun e w' ⟨v, he, hq, hb⟩ => ⟨v, he, hq, hb⟩
      · intro vals W hW hw hd
        try simp [Region.binds] at hd
        refine ⟨by first | rfl | simp [Region.wanted, yielded, hd], ?_⟩
        exact yields_convA (.tmp 33) rfl _ st rfl hd rfl
      · intro vals W hW hw hd
        try simp [Region.binds] at hd
        refine ⟨by first | rfl | simp [Region.wanted, yielded, hd], ?_⟩
        simp [go_sem, hd]
        exact Below.refl _ _
      · intro vals W hW hw hd
        try simp [Region.binds] at hd
        refine ⟨by first | rfl | simp [Region.wanted, yielded, hd], ?_⟩
        exact yieldsA_load 23 (.tmp 5) rfl w.heap.size 0 rfl (iv.map b8) _ (RB.out W hW.out) bu_a16 rfl IB.out rfl
      · intro vals W hW hw hd
        try simp [Region.binds] at hd
        refine ⟨by first | rfl | simp [Region.wanted, yielded, hd], ?_⟩
        simp [go_sem, hd]
        exact Below.refl _ _
      · intro vals W hW hw hd
        try simp [Region.binds] at hd
        refine ⟨by first | rfl | simp [Region.wanted, yielded, hd], ?_⟩
        simp [go_sem, hd]
        exact Below.refl _ _
      · intro vals W hW hw hd
        try simp [Region.binds] at hd
        refine ⟨by first | rfl | simp [Region.wanted, yielded, hd], ?_⟩
        exact yields_convA (.tmp 38) rfl u p hd (HP.out W (KU.out W hW.out).2) rfl
      · intro vals W hW hw hd
        try simp [Region.binds] at hd
        refine ⟨by first | rfl | simp [Region.wanted, yielded, hd], ?_⟩
        simp [go_sem, hd]
        exact (RE.out W hW.out).mono fun e w' ⟨he, hb⟩ => ⟨_, he, rfl, hb⟩
      · intro vals W hW hw hd
        try simp [Region.binds] at hd
        refine ⟨by first | rfl | simp [Region.wanted, yielded, hd], ?_⟩
        simp [go_sem, hd]
        exact Below.refl _ _
      · intro vals W hW hw hd
        try simp [Region.binds] at hd
        refine ⟨by first | rfl | simp [Region.wanted, yielded, hd], ?_⟩
        simp [go_sem, hd]
        exact Below.refl _ _
    obtain ⟨f0, f1, f2, f3, f4, f5, f6, f7, f8, f9, f10, f11, f12, f13, _⟩ := hF
    simp only [MP.eq_p] at f0 f1 f2 f3 f5 f6 f7 f8 f9 f10 f11 f12 f13
    rw [f13]
    have D4 : Hid (Below w.heap.size w w4) := D3.out.trans (hb4.out.mono D3.out.size)
    clear hb4
    go_wp2_with fail
    go_ret
    exact ⟨rfl, D4.out⟩
  · have EX : Hid _ := C.bad key v lk hn _ (C.tb ht x1) (hk.up x1 (Nat.le_refl _))
    have NW : Hid _ := rnew_bad key hn
    have CO := C.zone
    clear hi x0 x1
    go_enter Try.func3, Try.ntmps3
    go_wp2_with fail
    refine Calls.mono EX.out ?_
    rintro e w1 ⟨rfl, hb1⟩
    have D1 : Hid (Below w.heap.size w w1) := X1.out.trans (hb1.mono X1.out.size)
    clear hb1 EX X0 X1
    go_wp2_with (refine C.make rfl rfl 9 (.tmp 16) rfl rfl rfl rfl zk rfl CO rfl rfl ?_)
    intro w2 _ hb2
    have D2 : Hid (Below w.heap.size w w2) := D1.out.trans (hb2.mono D1.out.size)
    have HY : Hid (By w2 v key) := HK.out w2 D2.out
    clear hb2 D1
    go_wp2_with (refine wp_conv rfl (.tmp 19) rfl v key rfl HY.out ?_)
    refine Calls.mono (NW.out w2) ?_
    rintro e w3 ⟨rfl, hb3⟩
    have D3 : Hid (Below w.heap.size w w3) := D2.out.trans (hb3.mono D2.out.size)
    clear hb3 D2
    go_wp2_with fail
    go_ret
    exact ⟨rfl, D3.out⟩
end Go.Proofs.Ytmfbdacalenfdaa
