/- Texts that were joined: MoOpen, ModeIs. -/
import Derived.Test.YtmfbdacalenfdaaMoSeal
import Derived.Test.YtmfbdacalenfdaaUpA
import Derived.Test.YtmfbdacalenfdaaGrp27
import Derived.Test.YtmfbdacalenfdaaMoStr
/- The contract of mode.Open; what package mode keeps. -/
namespace Go.Proofs.Ytmfbdacalenfdaa
open Go.RowKit
set_option linter.unusedSimpArgs false
attribute [local go_sem] YieldsP execOp
attribute [local simp] MP.eq_p
namespace A
/-- The last block tells of the padding. -/
theorem padOf_blk {O : List Nat} (h : 16 ≤ O.length) : padOf (blk O (O.length - 16)) = padOf O := by
  have e : blk O (O.length - 16) = O.drop (O.length - 16) := by
    unfold blk
    exact List.take_of_length_le (by rw [List.length_drop]; omega)
  rw [e]
  have hl : (O.drop (O.length - 16)).length = 16 := by rw [List.length_drop]; omega
  have hg : (O.drop (O.length - 16)).getD (16 - 1) 0 = O.getD (O.length - 1) 0 := by
    rw [List.getD_eq_getElem?_getD, List.getD_eq_getElem?_getD, List.getElem?_drop]
    congr 2
    omega
  unfold padOf
  rw [hl]
  simp only [hg]
  by_cases hb : O.getD (O.length - 1) 0 = 0 ∨ 16 < O.getD (O.length - 1) 0
  · rw [if_pos hb, if_pos hb]
  · rw [if_neg hb, if_neg hb, List.drop_drop, show O.length - 16 + (16 - O.getD (O.length - 1) 0) = O.length - O.getD (O.length - 1) 0 by omega]
theorem padI_none {l : List Nat} (h : padI l = 0) : padOf l = none := by
  unfold padI at h
  cases e : padOf l with
  | none => rfl
  | some n =>
    rw [e] at h
    have := (padOf_spec e).1
    simp at h
    omega
theorem padI_some {l : List Nat} {n : Nat} (h : padI l = n) (h0 : ¬ n = 0) : padOf l = some n ∧ n ≤ 16 := by
  unfold padI at h
  cases e : padOf l with
  | none =>
    rw [e] at h
    exact absurd h.symm h0
  | some m =>
    rw [e] at h
    have h1 : m = n := h
    subst h1
    exact ⟨rfl, (padOf_spec e).2.1⟩
end A
/-- The errno of what was opened. -/
def opE : Option (List Nat) → Int
  | some _ => 0
  | none => 4
/-- A key read in a quiet walk. -/
theorem AesC.ldq {Tb : World → Prop} {zk : List Value} {Ky : World → List Value → List Nat → Prop} (C : AesC Tb zk Ky) {ops : Array Oper} {D : World → Prop} {Q : Act → Prop} {o : Oper} {rest : List Oper} {a : Act} (hw : Region.wanted o (yielded ops a.tmps) = true) (x : Operand) (ho : o.op = .load 28 x) (k : Nat) (hx : a.eval x = .pointer (some ⟨k, 0, none⟩)) (cs : List Value) (hl : cs.length = zk.length) (hc : ∀ w, D w → w.rangeAt k 0 cs)
    (h : wpQuiet Try.prog ops D Q rest (a.put o.dst (.agg cs.toArray))) : wpQuiet Try.prog ops D Q (o :: rest) a := by
  obtain ⟨d, hu, hr⟩ := C.row
  exact quiet_load hw 28 x ho k 0 hx cs d hc hu hr (C.info.trans (congrArg some hl.symm)) h
/-- The front of a row, with no room behind it. -/
theorem wp_frontM {ops : Array Oper} {rest : List Oper} {o : Oper} {act : Act} {Q : Exit → Act → World → Prop} {w : World} (hgd : o.guard = none) (x l m : Operand)
    (ho : o.op = .slice 22 x none (some l) (some m)) (g n c e : Nat) (hx : act.eval x = .slice (some ⟨g, 0, none⟩) n c) (hl : act.eval l = .int .i64 (e : Int)) (hm : act.eval m = .int .i64 (e : Int)) (he : e ≤ c)
    (h : wpList Try.prog ops Q rest (act.put o.dst (.slice (some ⟨g, 0, none⟩) e e)) w) : wpList Try.prog ops Q (o :: rest) act w := by
  refine wpList_plain hgd fun K hK => ?_
  have e1 : (Instr.sliceAt 22 (.slice (some ⟨g, 0, none⟩) n c) none (some (.int .i64 (e : Int))) (some (.int .i64 (e : Int)))).run Try.prog w = .ok (.slice (some ⟨g, 0, none⟩) e e) w := by
    rw [run_sliceAt_slice (h := slice_elem), run_slice_hm (ht := slice_elem) (h0 := by omega) (h2 := by omega) (h3 := by omega), elem_bytes, size_u8]
    simp [sliced, Addr.add_zero']
  unfold Oper.wp
  simp [execOp, ho, hx, hl, hm, e1, Result.andThen]
  exact hK _ _ h
set_option maxRecDepth 20000 in
set_option maxHeartbeats 1000000 in
theorem mopen_bad (cs : List Value) (i0 c : List Nat) (v : Value) (hc : c = [] ∨ c.length % 16 ≠ 0) (w : World) (hv : By w v c) :
    Calls Try.prog 13 #[.agg cs.toArray, aB i0, v] w fun e w' => ∃ u, e = .returned (.tuple #[u, .int .i64 1]) ∧ By w' u [] ∧ Below w.heap.size w w' := by
  obtain ⟨va, vc, rfl⟩ := hv.len
  obtain ⟨x0, x1, x2⟩ := al2 w cs.toArray (i0.map b8).toArray 28 23
  have X2 : Hid (Below w.heap.size w _) := x2
  obtain ⟨L, hL⟩ : ∃ L, L = c.length := ⟨_, rfl⟩
  rw [← hL]
  by_cases h0 : L = 0
  · subst h0
    clear x0 x1 x2 hv hc hL
    go_enter Try.func13, Try.ntmps13
    go_wp2_with fail
    go_ret2
    exact ⟨_, rfl, By.nil _, X2.out⟩
  · have h1 : L % 16 ≠ 0 := by
      rcases hc with h | h
      · rw [h] at hL; exact absurd hL h0
      · rw [hL]; exact h
    have z0 : ((L : Int) == 0) = false := by simp [h0]
    obtain ⟨rm, hrm⟩ : ∃ rm, rm = L % 16 := ⟨_, rfl⟩
    have m1 : (L : Int).tmod 16 = (rm : Int) := by rw [Int.tmod_eq_emod_of_nonneg (by omega)]; omega
    have m2 : (L : Int) % 16 = (rm : Int) := by omega
    have z1 : ((rm : Int) != 0) = true := by simp; omega
    clear x0 x1 x2 hv hc hL h0 h1 hrm
    go_enter Try.func13, Try.ntmps13
    go_wp2_with fail
    go_ret2
    exact ⟨_, rfl, By.nil _, X2.out⟩
set_option maxRecDepth 20000 in
set_option maxHeartbeats 2000000 in
theorem mopen_of {Tb : World → Prop} {zk : List Value} {Ky : World → List Value → List Nat → Prop} (C : AesC Tb zk Ky) (key : List Nat) (cs : List Value) (i0 : List Nat) (c : List Nat) (v : Value) (KB : KeyB key) (hi : A.ok 16 i0) (hc : ∀ x ∈ c, x < 256) (zc : c.length ≤ 140737488351248) (h16 : c.length % 16 = 0) (h0 : 0 < c.length) (w : World) (ht : Tb w) (hk : Ky w cs key) (hv : By w v c) :
    Calls Try.prog 13 #[.agg cs.toArray, aB i0, v] w fun e w' => ∃ u, e = .returned (.tuple #[u, .int .i64 (opE (A.openS (A.keyW key) i0 c))]) ∧ By w' u ((A.openS (A.keyW key) i0 c).getD []) ∧ Below w.heap.size w w' := by
  obtain ⟨va, vc, rfl⟩ := hv.len
  obtain ⟨ws, hws⟩ : ∃ ws, ws = A.keyW key := ⟨_, rfl⟩
  have OKW : Hid (A.okW ws) := by rw [hws]; exact KB.ws
  rw [← hws]
  obtain ⟨K, hK⟩ : ∃ K, K = c.length / 16 := ⟨_, rfl⟩
  obtain ⟨N, hN⟩ : ∃ N, N = c.length := ⟨_, rfl⟩
  have NK : N = 16 * K := by omega
  have K0 : Hid (0 < K) := by show _ < _; omega
  obtain ⟨O, hO⟩ : ∃ O, O = A.openB ws K i0 c := ⟨_, rfl⟩
  have OO : Hid (A.ok (16 * K) O) := by rw [hO]; exact A.openB_ok OKW.out K hi ⟨by omega, hc⟩
  have START : Hid (([] ++ A.openB ws K i0 c = O ∧ A.ok (16 * K) c ∧ A.ok 16 i0) ∧ ([] : List Nat).length + 16 * K = N ∧ c.drop ([] : List Nat).length = c) := ⟨⟨by rw [hO]; rfl, ⟨by omega, hc⟩, hi⟩, by rw [NK]; simp, rfl⟩
  obtain ⟨RES, hRES⟩ : ∃ RES, RES = A.openS ws i0 c := ⟨_, rfl⟩
  have AN : Hid (∀ x, A.padOf O = x → RES = match x with | some n => some (O.take (N - n)) | none => none) := fun x hx => by
    rw [hRES]
    unfold A.openS
    rw [← hK, ← hN, ← hO, hx]
    cases x <;> exact rfl
  rw [← hRES]
  obtain ⟨ez, hez⟩ : ∃ ez : Int, ez = opE RES := ⟨_, rfl⟩
  have EZ : Hid (ez = opE RES) := hez
  obtain ⟨ry, hry⟩ : ∃ ry, ry = RES.getD [] := ⟨_, rfl⟩
  have RY : Hid (ry = RES.getD []) := hry
  rw [← hez, ← hry]
  have DEF : Hid (∀ b W, A.ok 16 b → Below w.heap.size w W → Calls Try.prog 38 #[.agg cs.toArray, aB b] W fun e w' => e = .returned (aB (A.decS ws b)) ∧ Below W.heap.size W w') := fun b W hb hW => by
    rw [hws]
    exact C.dec key cs b KB hb W (C.tb ht hW) (C.up hk hW)
  have BC : Hid (∀ i W, i + 16 ≤ N → Below w.heap.size w W → Calls Try.prog 36 #[.slice va N vc, .int .i64 ((i : Nat) : Int)] W fun e w' => e = .returned (aB (A.blk c i)) ∧ Below W.heap.size W w') := fun i W h hW => by
    rw [hN]
    exact mblk_fun c i (by omega) _ W (hv.up hW (Nat.le_refl _))
  have CL : Hid (cs.length = zk.length) := C.size hk
  have IL : Hid (i0.length = 16) := hi.1
  have NB : Hid (N ≤ 140737488351248 ∧ N = 16 * K) := ⟨by rw [hN]; exact zc, NK⟩
  obtain ⟨x0, x1, x2⟩ := al2 w cs.toArray (i0.map b8).toArray 28 23
  have X0 : Hid (Blk _ w.heap.size cs) := x0
  have X1 : Hid (Blk _ (w.heap.size + 1) (i0.map b8)) := x1
  have X2 : Hid (Below w.heap.size w _) := x2
  have z0 : ((N : Int) == 0) = false := by simp; omega
  have m1 : (N : Int).tmod 16 = 0 := by rw [Int.tmod_eq_emod_of_nonneg (by omega)]; omega
  have m2 : (N : Int) % 16 = 0 := by omega
  rw [← hN]
  clear x0 x1 x2 hez hry hws hK NK hO hRES hc hi zc ht hk KB hv h16 h0 hN
  go_enter Try.func13, Try.ntmps13
  go_wp2_with (refine wp_mkB rfl (.tmp 25) (.tmp 25) rfl _ N (N : Int) (N : Int) rfl rfl rfl rfl (by have := NB.out; omega) (Nat.le_refl _) ?_)
  intro w1 k1 hb1
  have K1 : Hid (RowB w1 (w.heap.size + 1 + 1) 5 (List.replicate N 0)) := k1.row (by rw [List.length_replicate])
  have Y0 : Hid (Blk w1 w.heap.size cs) := X0.out.up hb1 (by omega)
  have Y1 : Hid (Blk w1 (w.heap.size + 1) (i0.map b8)) := X1.out.up hb1 (by omega)
  have Y2 : Hid (Below w.heap.size w w1) := X2.out.trans (hb1.mono (by omega))
  obtain ⟨ka, hka⟩ : ∃ ka, ka = w1.heap.size := ⟨_, rfl⟩
  obtain ⟨y0, y1⟩ := al1 w1 #[Value.int IntKind.u8 0, Value.int IntKind.u8 0, Value.int IntKind.u8 0, Value.int IntKind.u8 0, Value.int IntKind.u8 0, Value.int IntKind.u8 0, Value.int IntKind.u8 0, Value.int IntKind.u8 0, Value.int IntKind.u8 0, Value.int IntKind.u8 0, Value.int IntKind.u8 0, Value.int IntKind.u8 0, Value.int IntKind.u8 0, Value.int IntKind.u8 0, Value.int IntKind.u8 0, Value.int IntKind.u8 0] 23
  have A0 : Hid (Blk (w1.alloc (.cells #[Value.int IntKind.u8 0, Value.int IntKind.u8 0, Value.int IntKind.u8 0, Value.int IntKind.u8 0, Value.int IntKind.u8 0, Value.int IntKind.u8 0, Value.int IntKind.u8 0, Value.int IntKind.u8 0, Value.int IntKind.u8 0, Value.int IntKind.u8 0, Value.int IntKind.u8 0, Value.int IntKind.u8 0, Value.int IntKind.u8 0, Value.int IntKind.u8 0, Value.int IntKind.u8 0, Value.int IntKind.u8 0] 23)) w.heap.size cs) := Y0.out.up y1 Y0.out.lt
  have AR : Hid (RowB (w1.alloc (.cells #[Value.int IntKind.u8 0, Value.int IntKind.u8 0, Value.int IntKind.u8 0, Value.int IntKind.u8 0, Value.int IntKind.u8 0, Value.int IntKind.u8 0, Value.int IntKind.u8 0, Value.int IntKind.u8 0, Value.int IntKind.u8 0, Value.int IntKind.u8 0, Value.int IntKind.u8 0, Value.int IntKind.u8 0, Value.int IntKind.u8 0, Value.int IntKind.u8 0, Value.int IntKind.u8 0, Value.int IntKind.u8 0] 23)) (w.heap.size + 1 + 1) 5 (List.replicate N 0)) := K1.out.up y1 K1.out.lt
  have AA : Hid (Blk (w1.alloc (.cells #[Value.int IntKind.u8 0, Value.int IntKind.u8 0, Value.int IntKind.u8 0, Value.int IntKind.u8 0, Value.int IntKind.u8 0, Value.int IntKind.u8 0, Value.int IntKind.u8 0, Value.int IntKind.u8 0, Value.int IntKind.u8 0, Value.int IntKind.u8 0, Value.int IntKind.u8 0, Value.int IntKind.u8 0, Value.int IntKind.u8 0, Value.int IntKind.u8 0, Value.int IntKind.u8 0, Value.int IntKind.u8 0] 23)) w1.heap.size (zB 16)) := y0
  have AB : Hid (Below w.heap.size w (w1.alloc (.cells #[Value.int IntKind.u8 0, Value.int IntKind.u8 0, Value.int IntKind.u8 0, Value.int IntKind.u8 0, Value.int IntKind.u8 0, Value.int IntKind.u8 0, Value.int IntKind.u8 0, Value.int IntKind.u8 0, Value.int IntKind.u8 0, Value.int IntKind.u8 0, Value.int IntKind.u8 0, Value.int IntKind.u8 0, Value.int IntKind.u8 0, Value.int IntKind.u8 0, Value.int IntKind.u8 0, Value.int IntKind.u8 0] 23))) := Y2.out.trans (y1.mono Y2.out.size)
  have TA : Hid ((w1.alloc (.cells #[Value.int IntKind.u8 0, Value.int IntKind.u8 0, Value.int IntKind.u8 0, Value.int IntKind.u8 0, Value.int IntKind.u8 0, Value.int IntKind.u8 0, Value.int IntKind.u8 0, Value.int IntKind.u8 0, Value.int IntKind.u8 0, Value.int IntKind.u8 0, Value.int IntKind.u8 0, Value.int IntKind.u8 0, Value.int IntKind.u8 0, Value.int IntKind.u8 0, Value.int IntKind.u8 0, Value.int IntKind.u8 0] 23)).there w1.heap.size 0 (i0.map b8).length) := AA.out.there (by rw [List.length_map, IL.out, zB_length]; omega)
  have GK : Hid (w.heap.size + 1 + 1 < ka) := by rw [hka]; exact K1.out.lt
  clear k1 hb1 X0 X1 X2 y0 y1 m1 m2 z0
  go_wp2_with (first | simp only [zero_a16] | refine wpList_load_mid rfl 23 (.tmp 4) rfl (w.heap.size + 1) 0 rfl (i0.map b8) _ Y1.out.all u_a16 rfl (info_n info_a16 i0 IL.out) ?_ | refine wp_store_eq rfl 23 (.tmp 9) (.tmp 27) rfl w1.heap.size 0 (i0.map b8) rfl rfl TA.out (info_n info_a16 i0 IL.out) (one_b8 _) ?_)
  intro w2 hw2
  rw [← hka] at AA hw2 ⊢
  have B0 : Hid (Blk w2 w.heap.size cs) := by rw [hw2.out]; exact A0.out.apart (by have h2 := GK.out; omega)
  have BR : Hid (RowB w2 (w.heap.size + 1 + 1) 5 (List.replicate N 0)) := by rw [hw2.out]; exact AR.out.apart (by have h2 := GK.out; omega)
  have BA : Hid (Blk w2 ka (i0.map b8)) := by rw [hw2.out]; exact AA.out.put (by rw [List.length_map, IL.out, zB_length])
  have BB : Hid (Below w.heap.size w w2) := by rw [hw2.out]; exact below_setCells _ _ _ AB.out (by have h2 := GK.out; omega)
  obtain ⟨kk, hkk⟩ : ∃ kk, kk = w.heap.size := ⟨_, rfl⟩
  obtain ⟨g, hg⟩ : ∃ g, g = w.heap.size + 1 + 1 := ⟨_, rfl⟩
  rw [← hkk] at B0
  rw [← hg] at BR
  have EG : Value.slice (some ⟨w.heap.size + 1 + 1, 0, none⟩) N N = .slice (some ⟨g, 0, none⟩) N N := by rw [hg]
  have EK : Value.pointer (some ⟨w.heap.size, 0, none⟩) = .pointer (some ⟨kk, 0, none⟩) := by rw [hkk]
  rw [EG, EK]
  have KS : Hid (kk = w.heap.size ∧ kk < g ∧ g < ka) := ⟨hkk, by omega, by have := GK.out; omega⟩
  have BR : Hid (RowB w2 g 5 ([] ++ List.replicate (16 * K) 0)) := by rw [List.nil_append, ← NB.out.2]; exact BR
  clear hw2 A0 AR AA AB TA Y0 Y1 Y2 K1 hka hg GK EG EK hkk
  go_wp2_with fail
  go_loopg [10] K (fun gk i wr => ∃ (iv P out : List Nat), i = .int .i64 (out.length : Int) ∧ Hid ((out ++ A.openB ws gk iv P = O ∧ A.ok (16 * gk) P ∧ A.ok 16 iv) ∧ out.length + 16 * gk = N ∧ c.drop out.length = P) ∧ Hid (Blk wr kk cs) ∧ Hid (RowB wr g 5 (out ++ List.replicate (16 * gk) 0)) ∧ Hid (Blk wr ka (iv.map b8)) ∧ Hid (Below w.heap.size w wr))
  case atStart => exact ⟨i0, c, [], rfl, START, B0, BR, BA, BB⟩
  case round =>
    clear B0 BR BA BB START
    obtain ⟨iv, P, out, rfl, TT, X0, XR, XA, XB⟩ := hrel
    obtain ⟨i, hie⟩ : ∃ i, i = out.length := ⟨_, rfl⟩
    rw [← hie] at TT ⊢
    have HI : Hid (i = out.length) := hie
    rcases Nat.eq_zero_or_pos gk with h0 | h0
    · subst h0
      have nlt : ¬ (i : Int) < (N : Int) := by have := TT.out.2.1; omega
      have FE : out = O := by
        have h1 := TT.out.1.1
        rw [A.openB, List.append_nil] at h1
        exact h1
      rw [Nat.mul_zero, List.replicate_zero, List.append_nil, FE] at XR
      have OL : Hid (O.length = N) := by rw [NB.out.2]; exact OO.out.1
      have N16 : Hid (16 ≤ N) := by have h1 := NB.out; have h2 := K0.out; show _ ≤ _; omega
      obtain ⟨e, he⟩ : ∃ e, e = N - 16 := ⟨_, rfl⟩
      have we : IntKind.i64.wrap ((N : Int) - 16) = (e : Int) := by have h1 := NB.out; have h2 := N16.out; rw [IntKind.wrap_i64]; omega
      have BL : Hid (∀ W, Below wr.heap.size wr W → Calls Try.prog 36 #[.slice (some ⟨g, 0, none⟩) N N, .int .i64 (e : Int)] W fun e' w' => e' = .returned (aB (A.blk O e)) ∧ Below W.heap.size W w') := fun W hW => mblk_fun O e (by rw [OL.out]; have := N16.out; omega) _ W ((XR.out.up hW XR.out.lt).by OL.out)
      have PD : Hid _ := mpad_fun (A.blk O e) (A.blk_ok (by rw [OL.out]; have := N16.out; omega) OO.out.2)
      have PB : Hid (A.padOf (A.blk O e) = A.padOf O) := by rw [he, ← OL.out]; exact A.padOf_blk (by rw [OL.out]; exact N16.out)
      obtain ⟨n, hn⟩ : ∃ n, A.padI (A.blk O e) = n := ⟨_, rfl⟩
      have HNP : Hid (A.padI (A.blk O e) = n) := hn
      rw [hn] at PD
      generalize A.blk O e = lb at *
      clear FE TT hie HI hn he
      go_wp2_with fail
      refine Calls.mono (BL.out wr (Below.refl _ _)) ?_
      rintro e' w3 ⟨rfl, hb3⟩
      have Y3 : Hid (RowB w3 g 5 O) := XR.out.up hb3 XR.out.lt
      have D3 : Hid (Below w.heap.size w w3) := XB.out.trans (hb3.mono XB.out.size)
      clear hb3 XR XB X0 XA BL
      go_wp2_with fail
      refine Calls.mono (PD.out w3) ?_
      rintro e' w4 ⟨rfl, hb4⟩
      have Y4 : Hid (RowB w4 g 5 O) := Y3.out.up hb4 Y3.out.lt
      have D4 : Hid (Below w.heap.size w w4) := D3.out.trans (hb4.mono D3.out.size)
      clear hb4 Y3 D3 PD
      by_cases hn0 : n = 0
      · have RS : Hid (RES = none) := AN.out none (by rw [← PB.out]; exact A.padI_none (HNP.out.trans hn0))
        have zn : ((n : Int) == 0) = true := by simp [hn0]
        clear hn0
        go_wp2_with fail
        go_ret2
        exact ⟨.slice none 0 0, by rw [EZ.out, RS.out]; rfl, by rw [RY.out, RS.out]; exact By.nil _, D4.out⟩
      · have PS := A.padI_some HNP.out hn0
        have RS : Hid (RES = some (O.take (N - n))) := AN.out (some n) (by rw [← PB.out]; exact PS.1)
        have n16 : n ≤ 16 := PS.2
        have zn : ((n : Int) == 0) = false := by simp [hn0]
        obtain ⟨f, hf⟩ : ∃ f, f = N - n := ⟨_, rfl⟩
        have wf_ : IntKind.i64.wrap ((N : Int) - (n : Int)) = (f : Int) := by have h1 := NB.out; have h2 := N16.out; rw [IntKind.wrap_i64]; omega
        have FN : Hid (f ≤ N) := by show _ ≤ _; omega
        rw [← hf] at RS
        clear hn0 PS hf
        go_wp2_with (refine wp_frontM rfl (.tmp 60) (.tmp 61) (.tmp 62) rfl g N N f rfl rfl rfl FN.out ?_)
        go_ret2
        refine ⟨.slice (some ⟨g, 0, none⟩) f f, by rw [EZ.out, RS.out]; rfl, ?_, D4.out⟩
        rw [RY.out, RS.out]
        show By w4 _ (O.take f)
        have hl : (O.take f).length = f := by rw [List.length_take, OL.out]; exact Nat.min_eq_left FN.out
        have h1 : By w4 (.slice (some ⟨g, 0, none⟩) (O.take f).length f) (O.take f) := By.of_cells (by rw [hl]; exact Nat.le_refl _) fun j hj => by
          rw [hl] at hj
          rw [Nat.zero_add, Y4.out.blk.byte j (by rw [OL.out]; have := FN.out; omega)]
          congr 2
          simp [List.getD_eq_getElem?_getD, List.getElem?_take, hj]
        rw [hl] at h1
        exact h1
    · obtain ⟨m, hm⟩ : ∃ m, gk = m + 1 := ⟨gk - 1, by omega⟩
      subst hm
      have z0 : (i : Int) < (N : Int) := by have := TT.out.2.1; omega
      have wi : IntKind.i64.wrap ((i : Int) + 16) = (i : Int) + 16 := by have := TT.out.2.1; have := NB.out; rw [IntKind.wrap_i64]; omega
      have IN : Hid (i + 16 * (m + 1) = N) := TT.out.2.1
      have OP := TT.out.1.2.1
      have TK : Hid (A.ok 16 (P.take 16)) := A.ok_take OP
      have DK : Hid (A.ok (16 * m) (P.drop 16)) := A.ok_drop OP
      have IV : Hid (A.ok 16 iv) := TT.out.1.2.2
      have CD : Hid (c.drop i = P) := TT.out.2.2
      have BL : Hid (∀ W, Below w.heap.size w W → Calls Try.prog 36 #[.slice va N vc, .int .i64 (i : Int)] W fun e w' => e = .returned (aB (P.take 16)) ∧ Below W.heap.size W w') := fun W hW => by
        have := BC.out i W (by have := IN.out; omega) hW
        unfold A.blk at this
        rwa [CD.out] at this
      have DE : Hid _ := DEF.out (P.take 16)
      have DC : Hid (A.ok 16 (A.decS ws (P.take 16))) := A.decS_ok OKW.out TK.out
      have SU : Hid _ := msum_fun (A.decS ws (P.take 16)) iv DC.out IV.out
      have AK : Hid (A.ok 16 (A.addK (A.decS ws (P.take 16)) iv)) := A.addK_ok DC.out IV.out
      have NEXT : Hid ((out ++ A.addK (A.decS ws (P.take 16)) iv) ++ A.openB ws m (P.take 16) (P.drop 16) = O) := by
        have := TT.out.1.1
        rw [A.openB, ← List.append_assoc] at this
        exact this
      have CN : Hid (c.drop (i + 16) = P.drop 16) := by rw [← List.drop_drop, CD.out]; exact rfl
      have US : Hid (∀ W ax, ax.length = 16 → RowB W g 5 (out ++ List.replicate (16 * (m + 1)) 0) → RowB (W.setCells g i (ax.map b8)) g 5 ((out ++ ax) ++ List.replicate (16 * m) 0)) := fun W ax hx h => by
        have e : List.replicate (16 * (m + 1)) 0 = List.replicate 16 0 ++ List.replicate (16 * m) 0 := by rw [List.replicate_append_replicate]; congr 1; omega
        rw [e] at h
        rw [List.append_assoc]
        exact h.put hie (by rw [hx, List.length_replicate])
      generalize A.addK (A.decS ws (P.take 16)) iv = ax at *
      generalize A.decS ws (P.take 16) = dx at *
      generalize P.take 16 = pt at *
      have SL : Hid (sliced (some ⟨g, 0, none⟩) i (List.replicate N 0).length N 1 = .slice (some ⟨g, i, none⟩) (N - i) (N - i)) := by
        rw [List.length_replicate, sliced_at (by have := IN.out; omega), Nat.zero_add]
        exact rfl
      clear OP TT h0 hie
      go_wp2_with fail
      refine Calls.mono (BL.out wr XB.out) ?_
      rintro e w3 ⟨rfl, hb3⟩
      have Y0 : Hid (Blk w3 kk cs) := X0.out.up hb3 X0.out.lt
      have YR : Hid (RowB w3 g 5 (out ++ List.replicate (16 * (m + 1)) 0)) := XR.out.up hb3 XR.out.lt
      have YA : Hid (Blk w3 ka (iv.map b8)) := XA.out.up hb3 XA.out.lt
      have YB : Hid (Below w.heap.size w w3) := XB.out.trans (hb3.mono XB.out.size)
      obtain ⟨y0, y1⟩ := al1 w3 #[Value.int IntKind.u8 0, Value.int IntKind.u8 0, Value.int IntKind.u8 0, Value.int IntKind.u8 0, Value.int IntKind.u8 0, Value.int IntKind.u8 0, Value.int IntKind.u8 0, Value.int IntKind.u8 0, Value.int IntKind.u8 0, Value.int IntKind.u8 0, Value.int IntKind.u8 0, Value.int IntKind.u8 0, Value.int IntKind.u8 0, Value.int IntKind.u8 0, Value.int IntKind.u8 0, Value.int IntKind.u8 0] 23
      have S3 : Hid (Blk (w3.alloc (.cells #[Value.int IntKind.u8 0, Value.int IntKind.u8 0, Value.int IntKind.u8 0, Value.int IntKind.u8 0, Value.int IntKind.u8 0, Value.int IntKind.u8 0, Value.int IntKind.u8 0, Value.int IntKind.u8 0, Value.int IntKind.u8 0, Value.int IntKind.u8 0, Value.int IntKind.u8 0, Value.int IntKind.u8 0, Value.int IntKind.u8 0, Value.int IntKind.u8 0, Value.int IntKind.u8 0, Value.int IntKind.u8 0] 23)) w3.heap.size (zB 16)) := y0
      have C3 : Hid (Below w3.heap.size w3 (w3.alloc (.cells #[Value.int IntKind.u8 0, Value.int IntKind.u8 0, Value.int IntKind.u8 0, Value.int IntKind.u8 0, Value.int IntKind.u8 0, Value.int IntKind.u8 0, Value.int IntKind.u8 0, Value.int IntKind.u8 0, Value.int IntKind.u8 0, Value.int IntKind.u8 0, Value.int IntKind.u8 0, Value.int IntKind.u8 0, Value.int IntKind.u8 0, Value.int IntKind.u8 0, Value.int IntKind.u8 0, Value.int IntKind.u8 0] 23))) := y1
      have T3 : Hid ((w3.alloc (.cells #[Value.int IntKind.u8 0, Value.int IntKind.u8 0, Value.int IntKind.u8 0, Value.int IntKind.u8 0, Value.int IntKind.u8 0, Value.int IntKind.u8 0, Value.int IntKind.u8 0, Value.int IntKind.u8 0, Value.int IntKind.u8 0, Value.int IntKind.u8 0, Value.int IntKind.u8 0, Value.int IntKind.u8 0, Value.int IntKind.u8 0, Value.int IntKind.u8 0, Value.int IntKind.u8 0, Value.int IntKind.u8 0] 23)).there w3.heap.size 0 (pt.map b8).length) := S3.out.there (by rw [List.length_map, TK.out.1, zB_length]; omega)
      clear hb3 y0 y1 X0 XR XA XB BL
      go_wp2_with (first | simp only [zero_a16] | refine wp_store_eq rfl 23 (.tmp 11) (.tmp 36) rfl w3.heap.size 0 (pt.map b8) rfl rfl T3.out (info_n info_a16 pt TK.out.1) (one_b8 _) ?_)
      intro w4 hw4
      obtain ⟨ks, hks⟩ : ∃ ks, ks = w3.heap.size := ⟨_, rfl⟩
      rw [← hks] at S3 hw4 ⊢
      have KA : Hid (ka < ks) := by rw [hks]; exact YA.out.lt
      have S4 : Hid (Blk w4 ks (pt.map b8)) := by rw [hw4.out]; exact S3.out.put (by rw [List.length_map, TK.out.1, zB_length])
      have V0 : Hid (Blk w4 kk cs) := by rw [hw4.out]; exact (Y0.out.up C3.out Y0.out.lt).apart (by have h1 := KS.out; have h2 := KA.out; omega)
      have VR : Hid (RowB w4 g 5 (out ++ List.replicate (16 * (m + 1)) 0)) := by rw [hw4.out]; exact (YR.out.up C3.out YR.out.lt).apart (by have h1 := KS.out; have h2 := KA.out; omega)
      have VA : Hid (Blk w4 ka (iv.map b8)) := by rw [hw4.out]; exact (YA.out.up C3.out YA.out.lt).apart (by have h2 := KA.out; omega)
      have VB : Hid (Below w.heap.size w w4) := by rw [hw4.out]; exact below_setCells _ _ _ (YB.out.trans (C3.out.mono YB.out.size)) (by have h1 := KS.out; have h2 := KA.out; omega)
      clear hw4 T3 C3 S3 Y0 YR YA YB hks
      go_wp2_with fail
      try simp only [Act.put, List.setIfInBounds_toArray, List.set_cons_succ, List.set_cons_zero]
      refine wp_region_alloc1 5 (.cells #[Value.int IntKind.u8 0, Value.int IntKind.u8 0, Value.int IntKind.u8 0, Value.int IntKind.u8 0, Value.int IntKind.u8 0, Value.int IntKind.u8 0, Value.int IntKind.u8 0, Value.int IntKind.u8 0, Value.int IntKind.u8 0, Value.int IntKind.u8 0, Value.int IntKind.u8 0, Value.int IntKind.u8 0, Value.int IntKind.u8 0, Value.int IntKind.u8 0, Value.int IntKind.u8 0, Value.int IntKind.u8 0] 23) (by kernel_rfl) (by kernel_rfl) (by kernel_rfl) (by kernel_rfl) (by decide) (fun _ _ d _ _ h => by cases d <;> exact h) rfl rfl (fun _ _ => by kernel_rfl) ?_
      apply Exists.intro
      refine ⟨fun U hU f hf hcl => ?_, fun kd w6 hb6 hk6 hc6 => ?_⟩
      · have RK : Hid (∀ n, (f n).rangeAt kk 0 cs) := fun n => (V0.out.up (hf n).out V0.out.lt).all
        have RB : Hid (∀ n, (f n).rangeAt ks 0 (pt.map b8)) := fun n => (S4.out.up (hf n).out S4.out.lt).all
        have RI : Hid (∀ n, (f n).rangeAt ka 0 (iv.map b8)) := fun n => (VA.out.up (hf n).out VA.out.lt).all
        have DF : Hid (∀ n, _) := fun n => DE.out (f n) TK.out (VB.out.trans ((hf n).out.mono VB.out.size))
        have XF : Hid (∀ n, _) := fun n => SU.out (f n)
        clear hf
        simp only [List.take_succ_cons, List.take_zero]
        repeat (first | (refine C.ldq rfl (.tmp 3) rfl kk rfl cs CL.out (fun W hW => by obtain ⟨n, rfl⟩ := hW; exact RK.out n) ?_; simp only [Act.put, List.setIfInBounds_toArray, List.set_cons_succ, List.set_cons_zero]) | (refine quietA_ld rfl u_a16 info_a16 (.tmp 11) rfl ks 0 rfl pt TK.out.1 (fun W hW => by obtain ⟨n, rfl⟩ := hW; exact RB.out n) ?_; simp only [Act.put, List.setIfInBounds_toArray, List.set_cons_succ, List.set_cons_zero]) | (refine quietA_ld rfl u_a16 info_a16 (.tmp 9) rfl ka 0 rfl iv IV.out.1 (fun W hW => by obtain ⟨n, rfl⟩ := hW; exact RI.out n) ?_; simp only [Act.put, List.setIfInBounds_toArray, List.set_cons_succ, List.set_cons_zero]) | go_big_quiet_step (first | (go_at_call 38; exact (DF.out _).mono fun e w'' ⟨he, hb⟩ => ⟨he, hcl.out _ _ hb⟩) | (go_at_call 37; exact (XF.out _).mono fun e w'' ⟨he, hb⟩ => ⟨he, hcl.out _ _ hb⟩)))
        exact wpQuiet_nil rfl
      simp only [List.drop_succ_cons, List.drop_zero]
      have K6 : Hid (Blk w6 kd (zB 16)) := Blk.of_heap hc6.out
      have S6 : Hid (Blk w6 ks (pt.map b8)) := S4.out.up hb6.out S4.out.lt
      have U0 : Hid (Blk w6 kk cs) := V0.out.up hb6.out V0.out.lt
      have UR : Hid (RowB w6 g 5 (out ++ List.replicate (16 * (m + 1)) 0)) := VR.out.up hb6.out VR.out.lt
      have UA : Hid (Blk w6 ka (iv.map b8)) := VA.out.up hb6.out VA.out.lt
      have UB : Hid (Below w.heap.size w w6) := VB.out.trans (hb6.out.mono VB.out.size)
      have KD : Hid (ks < kd) := Nat.lt_of_lt_of_le S4.out.lt hk6
      have T6 : Hid (w6.there kd 0 (ax.map b8).length) := K6.out.there (by rw [List.length_map, AK.out.1, zB_length]; omega)
      clear hb6 hk6 hc6 S4 V0 VR VA VB DE SU
      go_wp2_with (refine wp_store_eq rfl 23 (.tmp 12) (.tmp 41) rfl kd 0 (ax.map b8) rfl rfl T6.out (info_n info_a16 ax AK.out.1) (one_b8 _) ?_)
      intro w7 hw7
      have K7 : Hid (Blk w7 kd (ax.map b8)) := by rw [hw7.out]; exact K6.out.put (by rw [List.length_map, AK.out.1, zB_length])
      have S7 : Hid (Blk w7 ks (pt.map b8)) := by rw [hw7.out]; exact S6.out.apart (by have := KD.out; omega)
      have V0 : Hid (Blk w7 kk cs) := by rw [hw7.out]; exact U0.out.apart (by have h1 := KS.out; have h2 := KA.out; have h3 := KD.out; omega)
      have VR : Hid (RowB w7 g 5 (out ++ List.replicate (16 * (m + 1)) 0)) := by rw [hw7.out]; exact UR.out.apart (by have h1 := KS.out; have h2 := KA.out; have h3 := KD.out; omega)
      have VA : Hid (Blk w7 ka (iv.map b8)) := by rw [hw7.out]; exact UA.out.apart (by have h2 := KA.out; have h3 := KD.out; omega)
      have VB : Hid (Below w.heap.size w w7) := by rw [hw7.out]; exact below_setCells _ _ _ UB.out (by have h1 := KS.out; have h2 := KA.out; have h3 := KD.out; omega)
      clear hw7 T6 K6 S6 U0 UR UA UB
      go_wp2_with fail
      refine wp_region_monoSE 4 [MP.eq (.slice (some ⟨g, 0, none⟩) N N), MP.eq (.int .i64 (i : Int)), MP.eq (.slice (some ⟨g, i, none⟩) (N - i) (N - i)), MP.eq (.slice (some ⟨kd, 0, none⟩) 16 16)] (by kernel_rfl) (by kernel_rfl) rfl (by decide) (by kernel_rfl) ?_
      apply Exists.intro
      refine ⟨fun vals => ?_, ?_, fun vals8 w8 hb8 hF hO => ?_⟩
      · simp only [putsV, dstL, List.length_cons, List.length_nil, Nat.zero_add, Nat.reduceAdd, List.getElem?_cons_zero, List.getElem?_cons_succ, Option.bind_some, Act.put, List.setIfInBounds_toArray, List.set_cons_succ, List.set_cons_zero]
        rfl
      · refine ⟨?_, ?_, ?_, ?_, trivial⟩
        · intro vals W hW hw hd
          try simp [Region.binds] at hd
          refine ⟨by first | rfl | simp [Region.wanted, yielded, hd], ?_⟩
          simp [go_sem, hd]
          exact Below.refl _ _
        · intro vals W hW hw hd
          try simp [Region.binds] at hd
          refine ⟨by first | rfl | simp [Region.wanted, yielded, hd], ?_⟩
          simp [go_sem, hd]
          exact Below.refl _ _
        · intro vals W hW hw hd
          try simp [Region.binds] at hd
          refine ⟨by first | rfl | simp [Region.wanted, yielded, hd], ?_⟩
          exact yields_cutB (.tmp 42) (.tmp 43) rfl (some ⟨g, 0, none⟩) N i .i64 (List.replicate N 0) (by rw [List.length_replicate]; exact hd.1) hd.2 (by rw [List.length_replicate]; have := IN.out; omega) SL.out
        · intro vals W hW hw hd
          try simp [Region.binds] at hd
          refine ⟨by first | rfl | simp [Region.wanted, yielded, hd], ?_⟩
          exact yields_all u_a16 gi_u8 (by decide) (.tmp 12) rfl kd 0 rfl rfl
      obtain ⟨f0, f1, f2, f3, _⟩ := hF
      simp only [MP.eq_p] at f0 f1 f2 f3
      rw [f0, f1, f2, f3]
      simp only [List.drop_succ_cons, List.drop_zero]
      have K8 : Hid (Blk w8 kd (ax.map b8)) := K7.out.up hb8.out K7.out.lt
      have S8 : Hid (Blk w8 ks (pt.map b8)) := S7.out.up hb8.out S7.out.lt
      have Y0 : Hid (Blk w8 kk cs) := V0.out.up hb8.out V0.out.lt
      have YR : Hid (RowB w8 g 5 (out ++ List.replicate (16 * (m + 1)) 0)) := VR.out.up hb8.out VR.out.lt
      have YA : Hid (Blk w8 ka (iv.map b8)) := VA.out.up hb8.out VA.out.lt
      have YB : Hid (Below w.heap.size w w8) := VB.out.trans (hb8.out.mono VB.out.size)
      have TT : Hid (w8.there g i ax.length) := YR.out.blk.there (by rw [List.length_map, List.length_append, AK.out.1, ← HI.out, List.length_replicate]; omega)
      have MI : Hid (ax.length = min 16 (N - i)) := by rw [AK.out.1]; have := IN.out; show 16 = _; omega
      clear f0 f1 f2 f3 hb8 hO K7 S7 V0 VR VA VB
      go_wp2_with (refine wp_copyR rfl (.tmp 44) (.tmp 45) rfl g i (N - i) (N - i) kd 0 16 16 ax rfl rfl MI.out K8.out.all TT.out ?_)
      intro w9 hw9
      have S9 : Hid (Blk w9 ks (pt.map b8)) := by rw [hw9.out]; exact S8.out.apart (by have h1 := KS.out; have h2 := KA.out; omega)
      have Z0 : Hid (Blk w9 kk cs) := by rw [hw9.out]; exact Y0.out.apart (by have := KS.out; omega)
      have ZR : Hid (RowB w9 g 5 ((out ++ ax) ++ List.replicate (16 * m) 0)) := by rw [hw9.out]; exact US.out w8 ax AK.out.1 YR.out
      have ZA : Hid (Blk w9 ka (iv.map b8)) := by rw [hw9.out]; exact YA.out.apart (by have := KS.out; omega)
      have ZB : Hid (Below w.heap.size w w9) := by rw [hw9.out]; exact below_setCells _ _ _ YB.out (by have := KS.out; omega)
      have T9 : Hid (w9.there ka 0 (pt.map b8).length) := ZA.out.there (by rw [List.length_map, List.length_map, TK.out.1, IV.out.1]; omega)
      clear hw9 TT K8 S8 Y0 YR YA YB US
      go_wp2_with (first | refine wpList_load_mid rfl 23 (.tmp 11) rfl ks 0 rfl (pt.map b8) _ S9.out.all u_a16 rfl (info_n info_a16 pt TK.out.1) ?_ | refine wp_store_eq rfl 23 (.tmp 9) (.tmp 47) rfl ka 0 (pt.map b8) rfl rfl T9.out (info_n info_a16 pt TK.out.1) (one_b8 _) ?_)
      intro w10 hw10
      have V0 : Hid (Blk w10 kk cs) := by rw [hw10.out]; exact Z0.out.apart (by have := KS.out; omega)
      have VR : Hid (RowB w10 g 5 ((out ++ ax) ++ List.replicate (16 * m) 0)) := by rw [hw10.out]; exact ZR.out.apart (by have := KS.out; omega)
      have VA : Hid (Blk w10 ka (pt.map b8)) := by rw [hw10.out]; exact ZA.out.put (by rw [List.length_map, List.length_map, TK.out.1, IV.out.1])
      have VB : Hid (Below w.heap.size w w10) := by rw [hw10.out]; exact below_setCells _ _ _ ZB.out (by have := KS.out; omega)
      clear hw10 T9 S9 Z0 ZR ZA ZB
      go_wp2_with fail
      go_roundg m
      case measure => omega
      case rel => exact ⟨pt, P.drop 16, out ++ ax, by rw [List.length_append, AK.out.1, ← HI.out]; first | rfl | go_num, ⟨⟨NEXT.out, DK.out, TK.out⟩, by rw [List.length_append, AK.out.1, ← HI.out]; have := IN.out; omega, by rw [List.length_append, AK.out.1, ← HI.out]; exact CN.out⟩, V0, VR, VA, VB⟩
/-- What package mode keeps of sealed texts. -/
theorem mode_of {Tb : World → Prop} {zk : List Value} {Ky : World → List Value → List Nat → Prop} (C : AesC Tb zk Ky) : ModeC Tb Ky where
  seals := fun key cs iv p v KB hi hp zp w ht hk hv => mseal_of C key cs iv p v KB hi hp zp w ht hk hv
  opens := fun key cs iv c v KB hi hc zc h16 h0 w ht hk hv => mopen_of C key cs iv c v KB hi hc zc h16 h0 w ht hk hv
  opensBad := fun _ cs iv c v _ _ _ _ hb w _ _ hv => mopen_bad cs iv c v hb w hv
end Go.Proofs.Ytmfbdacalenfdaa

/- What package mode keeps, over the landed aes. -/
namespace Go.Proofs.Ytmfbdacalenfdaa
/-- Of streams; 11. -/
theorem streamIs : StreamC (fun _ => True) KyA := mstream_of aesIs
theorem modeIs : ModeC (fun _ => True) KyA := mode_of aesIs
end Go.Proofs.Ytmfbdacalenfdaa
