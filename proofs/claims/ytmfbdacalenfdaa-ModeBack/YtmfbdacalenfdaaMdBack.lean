/- ModeBack out of the contracts of packages aes and mode. -/
import Derived.Test.YtmfbdacalenfdaaMdC
import Derived.Test.YtmfbdacalenfdaaHEq
namespace Go.Proofs.Ytmfbdacalenfdaa
open Go.RowKit
set_option linter.unusedSimpArgs false
attribute [local go_sem] YieldsP execOp
attribute [local simp] MP.eq_p
set_option maxRecDepth 20000 in
set_option maxHeartbeats 2000000 in
theorem modeBack_of {Tb : World → Prop} {zk : List Value} {Ky : World → List Value → List Nat → Prop} (C : AesC Tb zk Ky) (M : ModeC Tb Ky) (v : Value) (key : List Nat) (lk : ∀ x ∈ key, x < 256) (iv : List Nat) (hi : A.ok 16 iv) (u : Value) (p : List Nat) (lp : ∀ x ∈ p, x < 256) (zp : p.length ≤ 140737488351232) (w : World) (ht : Tb w) (hk : By w v key) (hu : By w u p) :
    Calls Try.prog 8 #[v, aB iv, u] w fun e w' => e = .returned (.bool true) ∧ Below w.heap.size w w' := by
  obtain ⟨x0, x1⟩ := al1 w (iv.map b8).toArray 23
  have X0 : Hid (Blk _ w.heap.size (iv.map b8)) := x0
  have X1 : Hid (Below w.heap.size w _) := x1
  have HI : Hid (A.ok 16 iv) := hi
  have HK : Hid (∀ W, Below w.heap.size w W → By W v key) := fun W hW => hk.up hW (Nat.le_refl _)
  by_cases hn : KeyN key.length
  · have KB : KeyB key := ⟨hn, lk⟩
    have EX : Hid _ := C.expand key v KB _ (C.tb ht x1) (hk.up x1 (Nat.le_refl _))
    obtain ⟨ws, hws⟩ : ∃ ws, ws = A.keyW key := ⟨_, rfl⟩
    have OKW : Hid (A.okW ws) := by rw [hws]; exact KB.ws
    have HP : Hid (∀ W, Below w.heap.size w W → By W u p) := fun W hW => hu.up hW (Nat.le_refl _)
    have SK := sealS_ok OKW.out hi lp
    have OS := A.openS_sealS OKW.out hi lp
    have SM : Hid (∀ cs W, Below w.heap.size w W → Ky W cs key → Calls Try.prog 15 #[.agg cs.toArray, aB iv, u] W fun e w' => ∃ u, e = .returned u ∧ By w' u (A.sealS ws iv p) ∧ Below W.heap.size W w') := fun cs W hW hK => by
      rw [hws]
      exact (M.seals key cs iv p u KB hi lp zp W (C.tb ht hW) hK (hu.up hW (Nat.le_refl _))).mono fun e w' ⟨x, he, ho, hb⟩ => ⟨x, he, ho.by, hb⟩
    have OM : Hid (∀ cs W x, Below w.heap.size w W → Ky W cs key → By W x (A.sealS ws iv p) → Calls Try.prog 13 #[.agg cs.toArray, aB iv, x] W fun e w' => ∃ u, e = .returned (.tuple #[u, .int .i64 0]) ∧ By w' u p ∧ Below W.heap.size W w') := fun cs W x hW hK hx => by
      have := M.opens key cs iv (A.sealS ws iv p) x KB HI.out SK.2 (by rw [SK.1]; omega) (by rw [SK.1]; omega) (by rw [SK.1]; omega) W (C.tb ht hW) hK hx
      rw [← hws, OS] at this
      exact this
    have SZ : Hid ((A.sealS ws iv p).length = 16 * (p.length / 16 + 1)) := SK.1
    have EQ : Hid (∀ x W, Below w.heap.size w W → By W x p → Calls Try.prog 17 #[u, x] W fun e w' => e = .returned (.bool true) ∧ Below W.heap.size W w') := fun x W hW hx => by
      have := equal_fun u x p p lp lp W (hu.up hW (Nat.le_refl _)) hx
      rw [decide_eq_true rfl] at this
      exact this
    obtain ⟨au, cu, rfl, _, _, _⟩ := id hu
    generalize A.sealS ws iv p = st at *
    have ZP : Hid (p.length ≤ 140737488351232) := zp
    clear hws x0 x1 hu SK OS zp
    go_enter Try.func8, Try.ntmps8
    go_wp2_with fail
    refine Calls.mono EX.out ?_
    rintro e w1 ⟨cs, rfl, hky, hb1⟩
    have KY : Hid (Ky w1 cs key) := hky
    have D1 : Hid (Below w.heap.size w w1) := X1.out.trans (hb1.mono X1.out.size)
    have Y1 : Hid (Blk w1 w.heap.size (iv.map b8)) := X0.out.up hb1 X0.out.lt
    have CL : Hid (cs.length = zk.length) := C.size hky
    have CO : Hid (∀ v ∈ cs, v.oneCell' = true) := C.one hky
    clear X0 X1 EX hky hb1
    go_wp2_with (refine C.make rfl rfl 7 (.tmp 15) rfl rfl rfl rfl cs CL.out CO.out rfl rfl ?_)
    intro w2 k2 hb2
    obtain ⟨kk, hkk⟩ : ∃ kk, kk = w1.heap.size := ⟨_, rfl⟩
    rw [← hkk] at k2 ⊢
    have K2 : Hid (Blk w2 kk cs) := k2
    have KY2 : Hid (Ky w2 cs key) := C.up KY.out hb2
    have D2 : Hid (Below w.heap.size w w2) := D1.out.trans (hb2.mono D1.out.size)
    have Y2 : Hid (Blk w2 w.heap.size (iv.map b8)) := Y1.out.up hb2 Y1.out.lt
    clear k2 hb2 hkk KY D1 Y1
    have IB : Hid _ := info_n binfo_a16 iv HI.out.1
    obtain ⟨dk, huk, hrk⟩ := C.row
    have IK : Hid _ := C.info.trans (congrArg some CL.out.symm)
    go_wp2_with (first | refine wpList_load_mid rfl 28 (.tmp 7) rfl kk 0 rfl cs dk K2.out.all huk hrk IK.out ?_ | refine wpList_load_mid rfl 23 (.tmp 4) rfl w.heap.size 0 rfl (iv.map b8) _ Y2.out.all bu_a16 rfl IB.out ?_)
    refine Calls.mono (SM.out cs w2 D2.out KY2.out) ?_
    rintro e w3 ⟨x3, rfl, hy3, hb3⟩
    have Q3 : Hid (By w3 x3 st) := hy3
    have K3 : Hid (Blk w3 kk cs) := K2.out.up hb3 K2.out.lt
    have KY3 : Hid (Ky w3 cs key) := C.up KY2.out hb3
    have D3 : Hid (Below w.heap.size w w3) := D2.out.trans (hb3.mono D2.out.size)
    have Y3 : Hid (Blk w3 w.heap.size (iv.map b8)) := Y2.out.up hb3 Y2.out.lt
    clear hb3 hy3 K2 KY2 D2 Y2 SM
    go_wp2_with (first | refine wpList_load_mid rfl 28 (.tmp 7) rfl kk 0 rfl cs dk K3.out.all huk hrk IK.out ?_ | refine wpList_load_mid rfl 23 (.tmp 4) rfl w.heap.size 0 rfl (iv.map b8) _ Y3.out.all bu_a16 rfl IB.out ?_)
    refine Calls.mono (OM.out cs w3 x3 D3.out KY3.out Q3.out) ?_
    rintro e w5 ⟨x5, rfl, hy5, hb5⟩
    have D5 : Hid (Below w.heap.size w w5) := D3.out.trans (hb5.mono D3.out.size)
    have E5 : Hid _ := EQ.out x5 w5 D5.out hy5
    obtain ⟨a3, c3, e3, _, _, _⟩ := Q3.out
    rw [SZ.out] at e3
    subst e3
    clear hb5 hy5 K3 KY3 D3 Y3 OM Q3 EQ
    go_wp2_with fail
    refine Calls.mono E5.out ?_
    rintro e w6 ⟨rfl, hb6⟩
    have D6 : Hid (Below w.heap.size w w6) := D5.out.trans (hb6.mono D5.out.size)
    obtain ⟨L, hL⟩ : ∃ L, L = p.length := ⟨_, rfl⟩
    have ZL := ZP.out
    rw [← hL] at ZL ⊢
    obtain ⟨S, hS⟩ : ∃ S, S = 16 * (L / 16 + 1) := ⟨_, rfl⟩
    rw [← hS]
    have m1 : (S : Int).tmod 16 = 0 := by rw [Int.tmod_eq_emod_of_nonneg (by omega)]; omega
    have m2 : (S : Int) % 16 = 0 := by omega
    have g1 : (L : Int) < (S : Int) := by omega
    have wl : IntKind.i64.wrap ((L : Int) + 16) = (L : Int) + 16 := by rw [IntKind.wrap_i64]; omega
    have g2 : (S : Int) ≤ (L : Int) + 16 := by omega
    clear hb6 E5 D5 hL hS
    go_wp2_with fail
    go_ret
    exact ⟨rfl, D6.out⟩
  · have EX : Hid _ := C.bad key v lk hn _ (C.tb ht x1) (hk.up x1 (Nat.le_refl _))
    have CO := C.zone
    clear hi x0 x1
    go_enter Try.func8, Try.ntmps8
    go_wp2_with fail
    refine Calls.mono EX.out ?_
    rintro e w1 ⟨rfl, hb1⟩
    have D1 : Hid (Below w.heap.size w w1) := X1.out.trans (hb1.mono X1.out.size)
    clear hb1 EX X0 X1
    go_wp2_with (refine C.make rfl rfl 7 (.tmp 15) rfl rfl rfl rfl zk rfl CO rfl rfl ?_)
    intro w2 _ hb2
    have D2 : Hid (Below w.heap.size w w2) := D1.out.trans (hb2.mono D1.out.size)
    clear hb2 D1
    go_wp2_with fail
    go_ret
    exact ⟨rfl, D2.out⟩
end Go.Proofs.Ytmfbdacalenfdaa
