/- ModeParts out of the contracts of packages aes and mode. -/
import Derived.Test.YtmfbdacalenfdaaMdAlive
import Derived.Test.YtmfbdacalenfdaaHPcs
import Derived.Test.YtmfbdacalenfdaaUpS
namespace Go.Proofs.Ytmfbdacalenfdaa
open Go.RowKit
set_option linter.unusedSimpArgs false
attribute [local go_sem] YieldsP execOp
attribute [local simp] MP.eq_p
theorem mflatten_succ (ps : List (List Nat)) (k : Nat) (h : k < ps.length) : (ps.take (k + 1)).flatten = (ps.take k).flatten ++ ps.getD k [] := by
  rw [List.take_succ_eq_append_getElem h, List.flatten_append]
  simp [List.getD_eq_getElem?_getD, h]
theorem mpart_low {p : List Nat} (lp : ∀ x ∈ p, x < 256) {ps : List (List Nat)} (hf : ps.flatten = p) (j : Nat) : ∀ x ∈ ps.getD j [], x < 256 := by
  intro x hx
  rw [List.getD_eq_getElem?_getD] at hx
  rcases Nat.lt_or_ge j ps.length with h | h
  · rw [List.getElem?_eq_getElem h] at hx
    exact lp x (by rw [← hf]; exact List.mem_flatten.2 ⟨_, List.getElem_mem h, hx⟩)
  · rw [List.getElem?_eq_none h] at hx
    cases hx
theorem mfront_len {p : List Nat} {ps : List (List Nat)} (hf : ps.flatten = p) (k : Nat) : (ps.take k).flatten.length ≤ p.length := by
  have h : ((ps.take k).flatten ++ (ps.drop k).flatten).length = p.length := by rw [← List.flatten_append, List.take_append_drop, hf]
  rw [List.length_append] at h
  omega
theorem mpart_len {p : List Nat} {ps : List (List Nat)} (hf : ps.flatten = p) (j : Nat) : (ps.getD j []).length ≤ p.length := by
  rw [List.getD_eq_getElem?_getD]
  rcases Nat.lt_or_ge j ps.length with h | h
  · rw [List.getElem?_eq_getElem h, ← hf]
    exact (List.sublist_flatten_of_mem (List.getElem_mem h)).length_le
  · rw [List.getElem?_eq_none h]; exact Nat.zero_le _
set_option maxRecDepth 20000 in
set_option maxHeartbeats 1000000 in
theorem modeParts_of {Tb : World → Prop} {zk : List Value} {Ky : World → List Value → List Nat → Prop} (C : AesC Tb zk Ky) (S : StreamC Tb Ky) (M : ModeC Tb Ky) (v : Value) (key : List Nat) (lk : ∀ x ∈ key, x < 256) (iv : List Nat) (hi : A.ok 16 iv) (pl : Nat) (hpl : pl < 18446744073709551616) (u : Value) (p : List Nat) (lp : ∀ x ∈ p, x < 256) (zp : p.length ≤ 1048576) (c : Value) (zs : List Int) (lz : lowZ zs) (zz : zs.length ≤ 1048576) (w : World) (ht : Tb w) (hk : By w v key) (hu : By w u p) (hc : Iy w c zs) :
    Calls Try.prog 6 #[v, aB iv, .int .u64 (pl : Int), u, c] w fun e w' => e = .returned (.bool true) ∧ Below w.heap.size w w' := by
  obtain ⟨x0, x1⟩ := al1 w (iv.map b8).toArray 23
  have X0 : Hid (Blk _ w.heap.size (iv.map b8)) := x0
  have X1 : Hid (Below w.heap.size w _) := x1
  have HI : Hid (A.ok 16 iv) := hi
  have MO : Hid _ := modes_fun C M _ (C.tb ht x1)
  by_cases hn : KeyN key.length
  · have KB : KeyB key := ⟨hn, lk⟩
    have EX : Hid (∀ W, Below w.heap.size w W → Calls Try.prog 9 #[v] W fun e w' => ∃ cs, e = .returned (.tuple #[.agg cs.toArray, .int .i64 0]) ∧ Ky w' cs key ∧ Below W.heap.size W w') := fun W hW => C.expand key v KB W (C.tb ht hW) (hk.up hW (Nat.le_refl _))
    obtain ⟨ws, hws⟩ : ∃ ws, ws = A.keyW key := ⟨_, rfl⟩
    have OKW : Hid (A.okW ws) := by rw [hws]; exact KB.ws
    have HP : Hid (∀ W, Below w.heap.size w W → By W u p) := fun W hW => hu.up hW (Nat.le_refl _)
    have PF : Hid (∀ W, Below w.heap.size w W → Calls Try.prog 19 #[u, c] W fun e w' => (∃ v', e = .returned v' ∧ PcsAt w W w' v' p) ∧ Below W.heap.size W w') := fun W hW => pieces_fun p zp zs lz zz u c w hu W (hc.up hW (Nat.le_refl _))
    have SM : Hid (∀ cs W x q xs, q < 18446744073709551616 → (∀ y ∈ xs, y < 256) → xs.length ≤ 1048576 → Below w.heap.size w W → Ky W cs key → By W x xs → Calls Try.prog 11 #[.agg cs.toArray, aB iv, .int .u64 ((q : Nat) : Int), x] W fun e w' => ∃ z, e = .returned z ∧ By w' z (A.streamS ws iv q xs) ∧ Below W.heap.size W w') := fun cs W x q xs hq hxs hxl hW hK hx => by
      rw [hws]
      exact S.stream key cs iv q xs x KB hi hq hxs (by omega) W (C.tb ht hW) hK hx
    have LP : Hid (∀ x ∈ p, x < 256) := lp
    have ZP : Hid (p.length ≤ 1048576) := zp
    have HPL : Hid (pl < 18446744073709551616) := hpl
    have LST : Hid (∀ x ∈ A.streamS ws iv pl p, x < 256) := A.streamS_ok OKW.out iv pl lp
    have EQ : Hid (∀ x y W, By W x (A.streamS ws iv pl p) → By W y (A.streamS ws iv pl p) → Calls Try.prog 17 #[x, y] W fun e w' => e = .returned (.bool true) ∧ Below W.heap.size W w') := fun x y W hx hy => by
      have := equal_fun x y _ _ LST.out LST.out W hx hy
      rw [decide_eq_true rfl] at this
      exact this
    clear hws x0 x1 hu zp hpl lp hc lz zz
    go_enter Try.func6, Try.ntmps6
    go_wp2_with fail
    refine Calls.mono MO.out ?_
    rintro e w0 ⟨rfl, hb0⟩
    have D0 : Hid (Below w.heap.size w w0) := X1.out.trans (hb0.mono X1.out.size)
    have Y0 : Hid (Blk w0 w.heap.size (iv.map b8)) := X0.out.up hb0 X0.out.lt
    clear hb0 X0 X1 MO
    go_wp2_with fail
    refine Calls.mono (EX.out w0 D0.out) ?_
    rintro e w1 ⟨cs, rfl, hky, hb1⟩
    have KY : Hid (Ky w1 cs key) := hky
    have D1 : Hid (Below w.heap.size w w1) := D0.out.trans (hb1.mono D0.out.size)
    have Y1 : Hid (Blk w1 w.heap.size (iv.map b8)) := Y0.out.up hb1 Y0.out.lt
    have CL : Hid (cs.length = zk.length) := C.size hky
    have CO : Hid (∀ v ∈ cs, v.oneCell' = true) := C.one hky
    clear EX hky hb1 D0 Y0
    go_wp2_with (refine C.make rfl rfl 11 (.tmp 21) rfl rfl rfl rfl cs CL.out CO.out rfl rfl ?_)
    intro w2 k2 hb2
    obtain ⟨kk, hkk⟩ : ∃ kk, kk = w1.heap.size := ⟨_, rfl⟩
    rw [← hkk] at k2 ⊢
    have K2 : Hid (Blk w2 kk cs) := k2
    have KY2 : Hid (Ky w2 cs key) := C.up KY.out hb2
    have D2 : Hid (Below w.heap.size w w2) := D1.out.trans (hb2.mono D1.out.size)
    have Y2 : Hid (Blk w2 w.heap.size (iv.map b8)) := Y1.out.up hb2 Y1.out.lt
    clear k2 hb2 hkk KY D1 Y1
    go_wp2_with fail
    refine Calls.mono (PF.out w2 D2.out) ?_
    rintro e w4 ⟨⟨v4, rfl, us, ps, o4, pc, hf, ul, ul2⟩, hb4⟩
    obtain ⟨g, gc, L, rfl, hg, hL, hcell⟩ := o4.form ul
    have D4 : Hid (Below w.heap.size w w4) := D2.out.trans (hb4.mono D2.out.size)
    have K4 : Hid (Blk w4 kk cs) := K2.out.up hb4 K2.out.lt
    have KY4 : Hid (Ky w4 cs key) := C.up KY2.out hb4
    have Y4 : Hid (Blk w4 w.heap.size (iv.map b8)) := Y2.out.up hb4 Y2.out.lt
    have HC : Hid (∀ j, j < us.length → L[j]? = some (us.getD j undef)) := hcell
    have GL : Hid (Blk w4 g L) := hL
    have PC : Hid (∀ j, j < us.length → By w (us.getD j undef) (ps.getD j [])) := pc.at_
    have PL : Hid (ps.length = us.length) := pc.len
    have HF : Hid (ps.flatten = p) := hf
    clear hb4 hcell pc hf o4 hg hL K2 KY2 D2 Y2 PF
    generalize hul : us.length = n at *
    clear hul
    have IB : Hid _ := info_n binfo_a16 iv HI.out.1
    obtain ⟨dk, huk, hrk⟩ := C.row
    have IK : Hid _ := C.info.trans (congrArg some CL.out.symm)
    go_wp2_with fail
    go_loopw [13, 29] (fun so i wr => ∃ k : Nat, k ≤ n ∧ i = .int .i64 k ∧ Hid (Ob wr w4.heap.size so (A.streamS ws iv pl (ps.take k).flatten)) ∧ Hid (Below w4.heap.size w4 wr)) (fun _ i _ => n - (intOf i).toNat)
    case atStart => exact ⟨0, by omega, rfl, Ob.nil _ _, Below.refl _ _⟩
    case round =>
      obtain ⟨k, hk, rfl, ob, hb⟩ := hrel
      have DR : Hid (Below w.heap.size w wr) := D4.out.trans (hb.out.mono D4.out.size)
      have KR : Hid (Blk wr kk cs) := K4.out.up hb.out K4.out.lt
      have KYR : Hid (Ky wr cs key) := C.up KY4.out hb.out
      have YR : Hid (Blk wr w.heap.size (iv.map b8)) := Y4.out.up hb.out Y4.out.lt
      have RK : Hid (∀ W, Below wr.heap.size wr W → W.rangeAt kk 0 cs) := fun W hW => (KR.out.up hW KR.out.lt).all
      have RB : Hid (∀ W, Below wr.heap.size wr W → W.rangeAt w.heap.size 0 (iv.map b8)) := fun W hW => (YR.out.up hW YR.out.lt).all
      have KU : Hid (∀ W, Below wr.heap.size wr W → Ky W cs key ∧ Below w.heap.size w W) := fun W hW => ⟨C.up KYR.out hW, DR.out.trans (hW.mono DR.out.size)⟩
      by_cases hlt : k < n
      · have gl : Blk wr g L := GL.out.up hb.out GL.out.lt
        have c0 := gl.cell k _ (HC.out k hlt)
        have BP : Hid (∀ W, Below w.heap.size w W → By W (us.getD k undef) (ps.getD k [])) := fun W hW => (PC.out k hlt).up hW (Nat.le_refl _)
        have AP : Hid _ := A.stream_append ws iv pl (ps.take k).flatten (ps.getD k [])
        rw [← mflatten_succ ps k (by rw [PL.out]; exact hlt)] at AP
        have fl := mfront_len HF.out k
        have ll := A.streamS_length ws iv pl (ps.take k).flatten
        have zk1 := mpart_len HF.out k
        have zp := ZP.out
        obtain ⟨m, hm⟩ : ∃ m, m = (ps.take k).flatten.length := ⟨_, rfl⟩
        obtain ⟨q, hq⟩ : ∃ q, q = (pl + m) % 18446744073709551616 := ⟨_, rfl⟩
        rw [← hm] at fl ll AP
        rw [← hq] at AP
        have SK : Hid (∀ W, Below w.heap.size w W → Ky W cs key → Calls Try.prog 11 #[.agg cs.toArray, aB iv, .int .u64 (q : Int), us.getD k undef] W fun e w' => ∃ z, e = .returned z ∧ By w' z (A.streamS ws iv q (ps.getD k [])) ∧ Below W.heap.size W w') := fun W hW hK => SM.out cs W _ q _ (by rw [hq]; omega) (mpart_low LP.out HF.out k) (by omega) hW hK (BP.out W hW)
        have sl := A.streamS_length ws iv q (ps.getD k [])
        generalize A.streamS ws iv pl (ps.take k).flatten = acc at *
        generalize A.streamS ws iv q (ps.getD k []) = sk at *
        have LL : Hid (acc.length = m ∧ acc.length + sk.length ≤ 140737488355328) := ⟨ll, by omega⟩
        have wn : IntKind.u64.wrap (m : Int) = (m : Int) := by rw [IntKind.wrap_u64]; omega
        have wm : IntKind.u64.wrap ((pl : Int) + (m : Int)) = (q : Int) := by rw [IntKind.wrap_u64]; omega
        obtain ⟨sa, sc, hso, _⟩ := ob.out.by
        rw [ll] at hso
        obtain rfl := hso
        generalize us.getD k undef = uk at *
        have HB : Hid (w4.heap.size ≤ wr.heap.size) := hb.out.size
        clear gl fl ll zk1 zp hm hq sl BP
        have SR : Hid _ := SK.out wr DR.out KYR.out
        clear SK
        go_wp2_with (first | refine wpList_load_mid rfl 28 (.tmp 11) rfl kk 0 rfl cs dk KR.out.all huk hrk IK.out ?_ | refine wpList_load_mid rfl 23 (.tmp 6) rfl w.heap.size 0 rfl (iv.map b8) _ YR.out.all bu_a16 rfl IB.out ?_)
        try rw [wn]
        try rw [wm]
        refine Calls.mono SR.out ?_
        rintro e w5 ⟨z5, rfl, hz5, hb5⟩
        have F9 : Hid (By w5 z5 sk) := hz5
        have HB5 : Hid (Below wr.heap.size wr w5) := hb5
        clear hz5 hb5 SR
        go_wp2_with (refine wp_appB rfl (.tmp 33) (.tmp 42) rfl w4.heap.size _ _ acc sk wr rfl ob.out HB5.out rfl F9.out LL.out.2 HB.out ?_)
        intro v6 w6 o6 _ hb6
        have O6 : Hid (Ob w6 w4.heap.size v6 (acc ++ sk)) := o6
        have D6 : Hid (Below w4.heap.size w4 w6) := hb.out.trans hb6
        clear o6 hb6 HB5 F9
        go_wp2_with fail
        go_roundw
        case rel => exact ⟨k + 1, by omega, by go_num, by rw [AP.out]; exact O6, D6⟩
        case measure => simp [intOf]; omega
      · obtain rfl : k = n := by omega
        rw [← PL.out, List.take_length, HF.out] at ob
        obtain ⟨sa, sc, rfl⟩ := ob.out.by.len
        have OU : Hid (∀ W, Below wr.heap.size wr W → By W (.slice sa (A.streamS ws iv pl p).length sc) (A.streamS ws iv pl p)) := fun W hW => (ob.out.up hW).by
        have SK : Hid (∀ W, Below w.heap.size w W → Ky W cs key → Calls Try.prog 11 #[.agg cs.toArray, aB iv, .int .u64 (pl : Int), u] W fun e w' => ∃ z, e = .returned z ∧ By w' z (A.streamS ws iv pl p) ∧ Below W.heap.size W w') := fun W hW hK => SM.out cs W _ pl _ HPL.out LP.out ZP.out hW hK (HP.out W hW)
        generalize A.streamS ws iv pl p = st at *
        generalize st.length = sn at *
        clear hlt hk
        have SR : Hid _ := SK.out wr DR.out KYR.out
        clear SK
        go_wp2_with (first | refine wpList_load_mid rfl 28 (.tmp 11) rfl kk 0 rfl cs dk KR.out.all huk hrk IK.out ?_ | refine wpList_load_mid rfl 23 (.tmp 6) rfl w.heap.size 0 rfl (iv.map b8) _ YR.out.all bu_a16 rfl IB.out ?_)
        refine Calls.mono SR.out ?_
        rintro e w5 ⟨z5, rfl, hz5, hb5⟩
        have E5 : Hid _ := EQ.out _ z5 w5 (OU.out w5 hb5) hz5
        have D5 : Hid (Below w.heap.size w w5) := DR.out.trans (hb5.mono DR.out.size)
        clear hz5 hb5 SR
        go_wp2_with fail
        refine Calls.mono E5.out ?_
        rintro e w7 ⟨rfl, hb7⟩
        have D7 : Hid (Below w.heap.size w w7) := D5.out.trans (hb7.mono D5.out.size)
        clear hb7
        go_wp2_with fail
        go_ret
        exact ⟨rfl, D7.out⟩
  · have EX : Hid (∀ W, Below w.heap.size w W → Calls Try.prog 9 #[v] W _) := fun W hW => C.bad key v lk hn W (C.tb ht hW) (hk.up hW (Nat.le_refl _))
    have CO := C.zone
    clear hi x0 x1
    go_enter Try.func6, Try.ntmps6
    go_wp2_with fail
    refine Calls.mono MO.out ?_
    rintro e w0 ⟨rfl, hb0⟩
    have D0 : Hid (Below w.heap.size w w0) := X1.out.trans (hb0.mono X1.out.size)
    clear hb0 X0 X1 MO
    go_wp2_with fail
    refine Calls.mono (EX.out w0 D0.out) ?_
    rintro e w1 ⟨rfl, hb1⟩
    have D1 : Hid (Below w.heap.size w w1) := D0.out.trans (hb1.mono D0.out.size)
    clear hb1 EX D0
    go_wp2_with (refine C.make rfl rfl 11 (.tmp 21) rfl rfl rfl rfl zk rfl CO rfl rfl ?_)
    intro w2 _ hb2
    have D2 : Hid (Below w.heap.size w w2) := D1.out.trans (hb2.mono D1.out.size)
    clear hb2 D1
    go_wp2_with fail
    go_ret
    exact ⟨rfl, D2.out⟩
end Go.Proofs.Ytmfbdacalenfdaa
