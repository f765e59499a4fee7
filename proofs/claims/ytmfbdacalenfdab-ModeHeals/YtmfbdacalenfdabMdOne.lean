/- ModeOne out of the contracts of packages aes and mode. -/
import Derived.Test.YtmfbdacalenfdabGrp46
import Derived.Test.YtmfbdacalenfdabHEq
namespace Go.Proofs.Ytmfbdacalenfdab
open Go.RowKit
set_option linter.unusedSimpArgs false
attribute [local go_sem] YieldsP execOp
attribute [local simp] MP.eq_p
/-- A row read whole, behind a guard. -/
theorem wp_ldG {P : Program} {ops : Array Oper} {rest : List Oper} {o : Oper} {a : Act} {w : World} {Q : Exit → Act → World → Prop} (hgd : Region.wanted o (yielded ops a.tmps) = true) (ty : TypeId) (x : Operand) (ho : o.op = .load ty x)
    (b f : Nat) (hx : a.eval x = .pointer (some ⟨b, f, none⟩)) (cs : List Value) (d : TypeDesc) (hc : w.rangeAt b f cs) (hu : P.underlying ty = some d) (hd : d.isRow = true) (hi : (P.info? ty).map (·.size) = some cs.length)
    (h : wpList P ops Q rest (a.put o.dst (.agg cs.toArray)) w) : wpList P ops Q (o :: rest) a w :=
  wpList_step fun K hK => by simp only [hgd, if_true]; exact wp_load_mid ty x ho b f hx cs d hc hu hd hi (hK _ _ h)
theorem openS_low {ws : List (List Nat)} (hw : A.okW ws) {iv c q : List Nat} (hi : A.ok 16 iv) (hc : ∀ x ∈ c, x < 256) (h16 : c.length % 16 = 0) (h : A.openS ws iv c = some q) : (∀ x ∈ q, x < 256) ∧ q.length ≤ c.length := by
  have hO := A.openB_ok hw (c.length / 16) hi ⟨(by omega : c.length = 16 * (c.length / 16)), hc⟩
  unfold A.openS at h
  cases e : A.padOf (A.openB ws (c.length / 16) iv c) with
  | none => rw [e] at h; cases h
  | some n =>
    rw [e] at h
    simp only [Option.some.injEq] at h
    rw [← h]
    exact ⟨fun x hx => hO.2 x (List.mem_of_mem_take hx), by rw [List.length_take]; omega⟩
set_option maxRecDepth 20000 in
set_option maxHeartbeats 1000000 in
theorem modeOne_of {Tb : World → Prop} {zk : List Value} {Ky : World → List Value → List Nat → Prop} (C : AesC Tb zk Ky) (M : ModeC Tb Ky) (v : Value) (key : List Nat) (lk : ∀ x ∈ key, x < 256) (iv : List Nat) (hi : A.ok 16 iv) (u : Value) (c : List Nat) (lc : ∀ x ∈ c, x < 256) (zc : c.length ≤ 140737488351232) (w : World) (ht : Tb w) (hk : By w v key) (hu : By w u c) :
    Calls Try.prog 3 #[v, aB iv, u] w fun e w' => e = .returned (.bool true) ∧ Below w.heap.size w w' := by
  obtain ⟨x0, x1⟩ := al1 w (iv.map b8).toArray 23
  have X0 : Hid (Blk _ w.heap.size (iv.map b8)) := x0
  have X1 : Hid (Below w.heap.size w _) := x1
  have HI : Hid (A.ok 16 iv) := hi
  have HK : Hid (∀ W, Below w.heap.size w W → By W v key) := fun W hW => hk.up hW (Nat.le_refl _)
  by_cases hn : KeyN key.length
  · have KB : KeyB key := ⟨hn, lk⟩
    have EX : Hid _ := C.expand key v KB _ (C.tb ht x1) (hk.up x1 (Nat.le_refl _))
    obtain ⟨ws, hws⟩ : ∃ ws, ws = A.keyW key := ⟨_, rfl⟩
    have OKW : Hid (A.okW ws) := by rw [hws]; exact KB.ws
    have OO : (∃ cd : Int, ((cd == 0) = false ∧ (cd != 0) = true) ∧ ∀ cs W, Below w.heap.size w W → Ky W cs key → Calls Try.prog 6 #[.agg cs.toArray, aB iv, u] W fun e w' => ∃ x, e = .returned (.tuple #[x, .int .i64 cd]) ∧ By w' x [] ∧ Below W.heap.size W w') ∨
        (∃ q : List Nat, (∀ x ∈ q, x < 256) ∧ q.length ≤ 140737488351232 ∧ A.sealS ws iv q = c ∧ ∀ cs W, Below w.heap.size w W → Ky W cs key → Calls Try.prog 6 #[.agg cs.toArray, aB iv, u] W fun e w' => ∃ x, e = .returned (.tuple #[x, .int .i64 0]) ∧ By w' x q ∧ Below W.heap.size W w') := by
      by_cases hbad : c = [] ∨ c.length % 16 ≠ 0
      · exact .inl ⟨1, ⟨rfl, rfl⟩, fun cs W hW hK => M.opensBad key cs iv c u KB HI.out lc (by omega) hbad W (C.tb ht hW) hK (hu.up hW (Nat.le_refl _))⟩
      · have h16 : c.length % 16 = 0 := Classical.byContradiction fun h => hbad (.inr h)
        have h0 : 0 < c.length := by
          rcases Nat.eq_zero_or_pos c.length with h | h
          · exact absurd (.inl (List.length_eq_zero_iff.1 h)) hbad
          · exact h
        have m1 := fun cs W (hW : Below w.heap.size w W) hK' => M.opens key cs iv c u KB HI.out lc (by omega) h16 h0 W (C.tb ht hW) hK' (hu.up hW (Nat.le_refl _))
        rw [← hws] at m1
        cases e : A.openS ws iv c with
        | some q =>
          simp only [e, Option.getD_some] at m1
          obtain ⟨l1, l2⟩ := openS_low OKW.out hi lc h16 e
          exact .inr ⟨q, l1, by omega, A.sealS_openS OKW.out hi lc h16 h0 e, m1⟩
        | none =>
          simp only [e, Option.getD_none] at m1
          exact .inl ⟨4, ⟨rfl, rfl⟩, m1⟩
    rcases OO with ⟨cd, ⟨c1, c2⟩, om⟩ | ⟨q, lq, zq, sq, om⟩
    · have OM : Hid _ := om
      clear hws x0 x1 om
      go_enter Try.func3, Try.ntmps3
      go_wp2_with fail
      refine Calls.mono EX.out ?_
      rintro e w1 ⟨cs, rfl, hky, hb1⟩
      have KY : Hid (Ky w1 cs key) := hky
      have D1 : Hid (Below w.heap.size w w1) := X1.out.trans (hb1.mono X1.out.size)
      have Y1 : Hid (Blk w1 w.heap.size (iv.map b8)) := X0.out.up hb1 X0.out.lt
      have CL : Hid (cs.length = zk.length) := C.size hky
      have CO : Hid (∀ v ∈ cs, v.oneCell' = true) := C.one hky
      clear X0 X1 EX hky hb1
      go_wp2_with (refine C.make rfl rfl 7 (.tmp 14) rfl rfl rfl rfl cs CL.out CO.out rfl rfl ?_)
      intro w2 k2 hb2
      obtain ⟨kk, hkk⟩ : ∃ kk, kk = w1.heap.size := ⟨_, rfl⟩
      rw [← hkk] at k2 ⊢
      have K2 : Hid (Blk w2 kk cs) := k2
      have KY2 : Hid (Ky w2 cs key) := C.up KY.out hb2
      have D2 : Hid (Below w.heap.size w w2) := D1.out.trans (hb2.mono D1.out.size)
      have Y2 : Hid (Blk w2 w.heap.size (iv.map b8)) := Y1.out.up hb2 Y1.out.lt
      clear k2 hb2 hkk KY D1 Y1
      have IB : Hid _ := info_n binfo_a16 iv HI.out.1
      obtain ⟨dk, huk, hrk⟩ := C.row
      have IK : Hid _ := C.info.trans (congrArg some CL.out.symm)
      go_wp2_with (first | refine wpList_load_mid rfl 27 (.tmp 7) rfl kk 0 rfl cs dk K2.out.all huk hrk IK.out ?_ | refine wpList_load_mid rfl 23 (.tmp 4) rfl w.heap.size 0 rfl (iv.map b8) _ Y2.out.all bu_a16 rfl IB.out ?_)
      refine Calls.mono (OM.out cs w2 D2.out KY2.out) ?_
      rintro e w3 ⟨x3, rfl, ⟨a3, c3, rfl, _, _, _⟩, hb3⟩
      have D3 : Hid (Below w.heap.size w w3) := D2.out.trans (hb3.mono D2.out.size)
      clear hb3 K2 KY2 D2 Y2 OM
      go_wp2_with fail
      go_ret
      exact ⟨rfl, D3.out⟩
    · have OM : Hid _ := om
      have SM : Hid (∀ cs W x, Below w.heap.size w W → Ky W cs key → By W x q → Calls Try.prog 8 #[.agg cs.toArray, aB iv, x] W fun e w' => ∃ u, e = .returned u ∧ By w' u c ∧ Below W.heap.size W w') := fun cs W x hW hK hx => by
        have := M.seals key cs iv q x KB HI.out lq zq W (C.tb ht hW) hK hx
        rw [← hws, sq] at this
        exact this.mono fun e w' ⟨x, he, ho, hb⟩ => ⟨x, he, ho.by, hb⟩
      have EQ : Hid (∀ x W, Below w.heap.size w W → By W x c → Calls Try.prog 7 #[x, u] W fun e w' => e = .returned (.bool true) ∧ Below W.heap.size W w') := fun x W hW hx => by
        have := equal_fun x u c c lc lc W hx (hu.up hW (Nat.le_refl _))
        rw [decide_eq_true rfl] at this
        exact this
      clear hws x0 x1 om sq
      go_enter Try.func3, Try.ntmps3
      go_wp2_with fail
      refine Calls.mono EX.out ?_
      rintro e w1 ⟨cs, rfl, hky, hb1⟩
      have KY : Hid (Ky w1 cs key) := hky
      have D1 : Hid (Below w.heap.size w w1) := X1.out.trans (hb1.mono X1.out.size)
      have Y1 : Hid (Blk w1 w.heap.size (iv.map b8)) := X0.out.up hb1 X0.out.lt
      have CL : Hid (cs.length = zk.length) := C.size hky
      have CO : Hid (∀ v ∈ cs, v.oneCell' = true) := C.one hky
      clear X0 X1 EX hky hb1
      go_wp2_with (refine C.make rfl rfl 7 (.tmp 14) rfl rfl rfl rfl cs CL.out CO.out rfl rfl ?_)
      intro w2 k2 hb2
      obtain ⟨kk, hkk⟩ : ∃ kk, kk = w1.heap.size := ⟨_, rfl⟩
      rw [← hkk] at k2 ⊢
      have K2 : Hid (Blk w2 kk cs) := k2
      have KY2 : Hid (Ky w2 cs key) := C.up KY.out hb2
      have D2 : Hid (Below w.heap.size w w2) := D1.out.trans (hb2.mono D1.out.size)
      have Y2 : Hid (Blk w2 w.heap.size (iv.map b8)) := Y1.out.up hb2 Y1.out.lt
      clear k2 hb2 hkk KY D1 Y1
      have IB : Hid _ := info_n binfo_a16 iv HI.out.1
      obtain ⟨dk, huk, hrk⟩ := C.row
      have IK : Hid _ := C.info.trans (congrArg some CL.out.symm)
      go_wp2_with (first | refine wpList_load_mid rfl 27 (.tmp 7) rfl kk 0 rfl cs dk K2.out.all huk hrk IK.out ?_ | refine wpList_load_mid rfl 23 (.tmp 4) rfl w.heap.size 0 rfl (iv.map b8) _ Y2.out.all bu_a16 rfl IB.out ?_)
      refine Calls.mono (OM.out cs w2 D2.out KY2.out) ?_
      rintro e w3 ⟨x3, rfl, hy3, hb3⟩
      have Q3 : Hid (By w3 x3 q) := hy3
      have K3 : Hid (Blk w3 kk cs) := K2.out.up hb3 K2.out.lt
      have KY3 : Hid (Ky w3 cs key) := C.up KY2.out hb3
      have D3 : Hid (Below w.heap.size w w3) := D2.out.trans (hb3.mono D2.out.size)
      have Y3 : Hid (Blk w3 w.heap.size (iv.map b8)) := Y2.out.up hb3 Y2.out.lt
      clear hb3 hy3 K2 KY2 D2 Y2 OM
      go_wp2_with (first | refine wp_ldG rfl 27 (.tmp 7) rfl kk 0 rfl cs dk K3.out.all huk hrk IK.out ?_ | refine wp_ldG rfl 23 (.tmp 4) rfl w.heap.size 0 rfl (iv.map b8) _ Y3.out.all bu_a16 rfl IB.out ?_)
      refine Calls.mono (SM.out cs w3 x3 D3.out KY3.out Q3.out) ?_
      rintro e w5 ⟨x5, rfl, hy5, hb5⟩
      have D5 : Hid (Below w.heap.size w w5) := D3.out.trans (hb5.mono D3.out.size)
      have E5 : Hid _ := EQ.out x5 w5 D5.out hy5
      clear hb5 hy5 K3 KY3 D3 Y3
      go_wp2_with fail
      refine Calls.mono E5.out ?_
      rintro e w6 ⟨rfl, hb6⟩
      have D6 : Hid (Below w.heap.size w w6) := D5.out.trans (hb6.mono D5.out.size)
      clear hb6
      go_wp2_with fail
      go_ret
      exact ⟨rfl, D6.out⟩
  · have EX : Hid _ := C.bad key v lk hn _ (C.tb ht x1) (hk.up x1 (Nat.le_refl _))
    have CO := C.zone
    clear hi x0 x1
    go_enter Try.func3, Try.ntmps3
    go_wp2_with fail
    refine Calls.mono EX.out ?_
    rintro e w1 ⟨rfl, hb1⟩
    have D1 : Hid (Below w.heap.size w w1) := X1.out.trans (hb1.mono X1.out.size)
    clear hb1 EX X0 X1
    go_wp2_with (refine C.make rfl rfl 7 (.tmp 14) rfl rfl rfl rfl zk rfl CO rfl rfl ?_)
    intro w2 _ hb2
    have D2 : Hid (Below w.heap.size w w2) := D1.out.trans (hb2.mono D1.out.size)
    clear hb2 D1
    go_wp2_with fail
    go_ret
    exact ⟨rfl, D2.out⟩
end Go.Proofs.Ytmfbdacalenfdab
