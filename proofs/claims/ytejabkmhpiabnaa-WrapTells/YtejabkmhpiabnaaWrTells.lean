/- WrapTells out of the contracts of packages aes and wrap. -/
import Derived.Test.YtejabkmhpiabnaaGrp45
import Derived.Test.YtejabkmhpiabnaaANew
import Derived.Test.YtejabkmhpiabnaaRWrapF
import Derived.Test.YtejabkmhpiabnaaRUnwF
namespace Go.Proofs.Ytejabkmhpiabnaa
open Go.RowKit
set_option linter.unusedSimpArgs false
attribute [local go_sem] YieldsP execOp
attribute [local simp] MP.eq_p
/-- A text of bytes, told by a letter; behind a guard too. -/
theorem wp_convT {ops : Array Oper} {rest : List Oper} {o : Oper} {a : Act} {Q : Exit → Act → World → Prop} {w : World} (hgd : o.guard = none) (x : Operand) (ho : o.op = .convert 22 9 x) (u : Value) (xs : List Nat) (T : ByteArray) (hT : sOf xs = T) (hx : a.eval x = u) (hb : By w u xs)
    (h : wpList Try.prog ops Q rest (a.put o.dst (.string T)) w) : wpList Try.prog ops Q (o :: rest) a w := by
  subst hT
  exact wp_conv hgd x ho u xs hx hb h
theorem wp_convTg {ops : Array Oper} {rest : List Oper} {o : Oper} {a : Act} {Q : Exit → Act → World → Prop} {w : World} (hgd : Region.wanted o (yielded ops a.tmps) = true) (x : Operand) (ho : o.op = .convert 22 9 x) (u : Value) (xs : List Nat) (T : ByteArray) (hT : sOf xs = T) (hx : a.eval x = u) (hb : By w u xs)
    (h : wpList Try.prog ops Q rest (a.put o.dst (.string T)) w) : wpList Try.prog ops Q (o :: rest) a w := by
  subst hT
  refine BigFrame.wpList_want hgd fun K hK => ?_
  have e := bytes_conv hb
  unfold Oper.wp
  simp [execOp, ho, hx, e, Result.andThen]
  exact hK _ _ h
set_option maxRecDepth 20000 in
set_option maxHeartbeats 2000000 in
theorem wrapTells_of {Tb : World → Prop} {zk : List Value} {Ky : World → List Value → List Nat → Prop} (C : AesC Tb zk Ky) (M : WrapC Tb zk Ky) (U : UnwrC Tb Ky) (v : Value) (key : List Nat) (lk : ∀ x ∈ key, x < 256) (u : Value) (p : List Nat) (lp : ∀ x ∈ p, x < 256) (zp : p.length ≤ 140737488351232) (t : Value) (s : List Nat) (ls : ∀ x ∈ s, x < 256) (zs : s.length ≤ 140737488351232) (w : World) (ht : Tb w) (hk : By w v key) (hu : By w u p) (hs : By w t s) :
    Calls Try.prog 3 #[v, u, t] w fun e w' => e = .returned (.bool true) ∧ Below w.heap.size w w' := by
  have HK : Hid (∀ W, Below w.heap.size w W → By W v key) := fun W hW => hk.up hW (Nat.le_refl _)
  have HU : Hid (∀ W, Below w.heap.size w W → By W u p) := fun W hW => hu.up hW (Nat.le_refl _)
  have HS : Hid (∀ W, Below w.heap.size w W → By W t s) := fun W hW => hs.up hW (Nat.le_refl _)
  by_cases hn : KeyN key.length
  · have KB : KeyB key := ⟨hn, lk⟩
    have EX : Hid _ := C.expand key v KB w ht hk
    have NW : Hid _ := rnew_fun key KB
    obtain ⟨r, hr, hr2⟩ := key_rounds KB
    obtain ⟨ws, hws⟩ : ∃ ws, ws = A.keyW key := ⟨_, rfl⟩
    have OKW : Hid (A.okW ws) := by rw [hws]; exact KB.ws
    rw [← hws] at NW hr
    have WW : ∃ (st : List Nat) (z : Int), (∀ cs W, Below w.heap.size w W → Ky W cs key → Calls Try.prog 9 #[.agg cs.toArray, u] W fun e w' => ∃ x, e = .returned (.tuple #[x, .int .i64 z]) ∧ By w' x st ∧ Below W.heap.size W w') ∧ (∀ kc W, Cph W kc ws → Calls Try.prog 10 #[.pointer (some ⟨kc, 0, none⟩), .string (sOf p)] W fun e w' => e = .returned (.tuple #[.string (sOf st), .int .i64 z]) ∧ Below W.heap.size W w') := by
      by_cases hc : A.canW p.length
      · exact ⟨A.wrapS ws p, 0, fun cs W hW hK => by rw [hws]; exact M.wrap key cs p u KB lp hc W (C.tb ht hW) hK (HU.out W hW), fun kc W h => rwrapped_fun ws OKW.out r hr hr2 p lp hc kc W h⟩
      · exact ⟨[], 1, fun cs W hW hK => M.wrapBad key cs p u KB lp zp hc W (C.tb ht hW) hK (HU.out W hW), fun kc W _ => rwrapped_bad p hc (by omega) kc W⟩
    have UU : ∃ (st : List Nat) (z : Int), (∀ cs W, Below w.heap.size w W → Ky W cs key → Calls Try.prog 11 #[.agg cs.toArray, t] W fun e w' => ∃ x, e = .returned (.tuple #[x, .int .i64 z]) ∧ By w' x st ∧ Below W.heap.size W w') ∧ (∀ kc W, Cph W kc ws → Calls Try.prog 12 #[.pointer (some ⟨kc, 0, none⟩), .string (sOf s)] W fun e w' => e = .returned (.tuple #[.string (sOf st), .int .i64 z]) ∧ Below W.heap.size W w') := by
      by_cases hc : A.canU s.length
      · exact ⟨(A.unwrapS ws s).getD [], A.unE (A.unwrapS ws s), fun cs W hW hK => by rw [hws]; exact U.unwrap key cs s t KB ls hc W (C.tb ht hW) hK (HS.out W hW), fun kc W h => runwrapped_fun ws OKW.out r hr hr2 s ls hc kc W h⟩
      · exact ⟨[], 1, fun cs W hW hK => U.unwrapBad key cs s t KB ls (by omega) hc W (C.tb ht hW) hK (HS.out W hW), fun kc W _ => runwrapped_bad s hc (by omega) kc W⟩
    obtain ⟨s1, z1, m1, r1⟩ := WW
    obtain ⟨s2, z2, m2, r2⟩ := UU
    have M1 : Hid _ := m1
    have R1 : Hid _ := r1
    have M2 : Hid _ := m2
    have R2 : Hid _ := r2
    clear m1 r1 m2 r2 hws hr hr2 hu hs
    go_enter Try.func3, Try.ntmps3
    go_wp2_with fail
    refine Calls.mono EX.out ?_
    rintro e w1 ⟨cs, rfl, hky, hb1⟩
    have KY : Hid (Ky w1 cs key) := hky
    have D1 : Hid (Below w.heap.size w w1) := hb1
    have CL : Hid (cs.length = zk.length) := C.size hky
    have CO : Hid (∀ v ∈ cs, v.oneCell' = true) := C.one hky
    clear EX hky hb1
    go_wp2_with (refine C.make rfl rfl 7 (.tmp 22) rfl rfl rfl rfl cs CL.out CO.out rfl rfl ?_)
    intro w2 k2 hb2
    obtain ⟨kk, hkk⟩ : ∃ kk, kk = w1.heap.size := ⟨_, rfl⟩
    rw [← hkk] at k2 ⊢
    have K2 : Hid (Blk w2 kk cs) := k2
    have KY2 : Hid (Ky w2 cs key) := C.up KY.out hb2
    have D2 : Hid (Below w.heap.size w w2) := D1.out.trans (hb2.mono D1.out.size)
    obtain ⟨dk, huk, hrk⟩ := C.row
    have IK : Hid _ := C.info.trans (congrArg some CL.out.symm)
    have UK : Hid (Try.prog.underlying 26 = some dk ∧ dk.isRow = true) := ⟨huk, hrk⟩
    clear k2 hb2 hkk KY D1 huk hrk
    have HY : Hid (By w2 v key) := HK.out w2 D2.out
    go_wp2_with (refine wp_conv rfl (.tmp 25) rfl v key rfl HY.out ?_)
    refine Calls.mono (NW.out w2) ?_
    rintro e w3 ⟨⟨kc, rfl, hcp⟩, hb3⟩
    have CP3 : Hid (Cph w3 kc ws) := hcp
    have K3 : Hid (Blk w3 kk cs) := K2.out.up hb3 K2.out.lt
    have KY3 : Hid (Ky w3 cs key) := C.up KY2.out hb3
    have D3 : Hid (Below w.heap.size w w3) := D2.out.trans (hb3.mono D2.out.size)
    clear hb3 hcp K2 KY2 D2 NW HY
    go_wp2_with (refine wpList_load_mid rfl 26 (.tmp 7) rfl kk 0 rfl cs dk K3.out.all UK.out.1 UK.out.2 IK.out ?_)
    refine Calls.mono (M1.out cs w3 D3.out KY3.out) ?_
    rintro e w4 ⟨x4, rfl, hy4, hb4⟩
    have Q4 : Hid (By w4 x4 s1) := hy4
    have CP4 : Hid (Cph w4 kc ws) := CP3.out.up hb4
    have K4 : Hid (Blk w4 kk cs) := K3.out.up hb4 K3.out.lt
    have KY4 : Hid (Ky w4 cs key) := C.up KY3.out hb4
    have D4 : Hid (Below w.heap.size w w4) := D3.out.trans (hb4.mono D3.out.size)
    have U4 : Hid (By w4 u p) := HU.out w4 D4.out
    clear hb4 hy4 K3 KY3 D3 CP3 M1
    go_wp2_with (refine wp_conv rfl (.tmp 43) rfl u p rfl U4.out ?_)
    refine Calls.mono (R1.out kc w4 CP4.out) ?_
    rintro e w5 ⟨rfl, hb5⟩
    have Q5 : Hid (By w5 x4 s1) := Q4.out.up hb5 (Nat.le_refl _)
    have CP5 : Hid (Cph w5 kc ws) := CP4.out.up hb5
    have K5 : Hid (Blk w5 kk cs) := K4.out.up hb5 K4.out.lt
    have KY5 : Hid (Ky w5 cs key) := C.up KY4.out hb5
    have D5 : Hid (Below w.heap.size w w5) := D4.out.trans (hb5.mono D4.out.size)
    clear hb5 K4 KY4 D4 CP4 R1 U4 Q4
    go_wp2_with (refine wpList_load_mid rfl 26 (.tmp 7) rfl kk 0 rfl cs dk K5.out.all UK.out.1 UK.out.2 IK.out ?_)
    refine Calls.mono (M2.out cs w5 D5.out KY5.out) ?_
    rintro e w6 ⟨x6, rfl, hy6, hb6⟩
    have Q6 : Hid (By w6 x4 s1) := Q5.out.up hb6 (Nat.le_refl _)
    have P6 : Hid (By w6 x6 s2) := hy6
    have CP6 : Hid (Cph w6 kc ws) := CP5.out.up hb6
    have D6 : Hid (Below w.heap.size w w6) := D5.out.trans (hb6.mono D5.out.size)
    have U6 : Hid (By w6 t s) := HS.out w6 D6.out
    clear hb6 hy6 K5 KY5 D5 CP5 M2 Q5
    go_wp2_with (refine wp_conv rfl (.tmp 56) rfl t s rfl U6.out ?_)
    refine Calls.mono (R2.out kc w6 CP6.out) ?_
    rintro e w7 ⟨rfl, hb7⟩
    have Q7 : Hid (By w7 x4 s1) := Q6.out.up hb7 (Nat.le_refl _)
    have P7 : Hid (By w7 x6 s2) := P6.out.up hb7 (Nat.le_refl _)
    have D7 : Hid (Below w.heap.size w w7) := D6.out.trans (hb7.mono D6.out.size)
    clear hb7 D6 CP6 R2 U6 Q6 P6
    obtain ⟨T1, hT1⟩ : ∃ T1, sOf s1 = T1 := ⟨_, rfl⟩
    obtain ⟨T2, hT2⟩ : ∃ T2, sOf s2 = T2 := ⟨_, rfl⟩
    rw [hT1, hT2]
    have HT1 : Hid (sOf s1 = T1) := hT1
    have HT2 : Hid (sOf s2 = T2) := hT2
    clear hT1 hT2
    go_wp2_with (first | refine wp_convT rfl (.tmp 61) rfl x4 s1 T1 HT1.out rfl Q7.out ?_ | refine wp_convTg rfl (.tmp 71) rfl x6 s2 T2 HT2.out rfl P7.out ?_)
    go_ret
    exact ⟨rfl, D7.out⟩
  · have EX : Hid _ := C.bad key v lk hn w ht hk
    have NW : Hid _ := rnew_bad key hn
    have CO := C.zone
    go_enter Try.func3, Try.ntmps3
    go_wp2_with fail
    refine Calls.mono EX.out ?_
    rintro e w1 ⟨rfl, hb1⟩
    have D1 : Hid (Below w.heap.size w w1) := hb1
    clear hb1 EX
    go_wp2_with (refine C.make rfl rfl 7 (.tmp 22) rfl rfl rfl rfl zk rfl CO rfl rfl ?_)
    intro w2 _ hb2
    have D2 : Hid (Below w.heap.size w w2) := D1.out.trans (hb2.mono D1.out.size)
    have HY : Hid (By w2 v key) := HK.out w2 D2.out
    clear hb2 D1
    go_wp2_with (refine wp_conv rfl (.tmp 25) rfl v key rfl HY.out ?_)
    refine Calls.mono (NW.out w2) ?_
    rintro e w3 ⟨rfl, hb3⟩
    have D3 : Hid (Below w.heap.size w w3) := D2.out.trans (hb3.mono D2.out.size)
    clear hb3 D2
    go_wp2_with fail
    go_ret
    exact ⟨rfl, D3.out⟩
end Go.Proofs.Ytejabkmhpiabnaa
