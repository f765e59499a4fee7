/- Package attr, as it landed: Pack. -/
import Derived.Test.YtohliojdmmbcdabQAtRs
import Derived.Test.YtohliojdmmbcdabQMkR
namespace Go.Proofs.Ytohliojdmmbcdab
open Go.RowKit
attribute [local go_sem] World.cell?_alloc_some cell_alloc2 cell_alloc3 cell_alloc4 frozen?_alloc_cells frozen_out
set_option linter.unusedSimpArgs false
def itZ : List Value := [.int .u8 0, .slice none 0 0]
theorem iItem2 : (Try.prog.info? 35).map (fun i => (i.zero, i.size, i.bytes)) = some (some (.agg itZ.toArray), itZ.length, 32) := by kernel_rfl
theorem info_item2 (t : Nat) (u : Value) : (Try.prog.info? 35).map (·.size) = some ([b8 t, u] : List Value).length := by kernel_rfl
/-- Where the values of attributes lie. -/
theorem ats_ptrs {w : World} {v : Value} {l : List Ar} (h : Ats w v l) : ∃ P : Nat → Option Addr × Nat, ∀ j x, l[j]? = some x → ∀ b o n c, v = .slice (some ⟨b, o, none⟩) n c → AtE w b (o + j * 2) x (P j).1 (P j).2 := by
  have hinh : Inhabited (Option Addr × Nat) := ⟨(none, 0)⟩
  obtain ⟨f, hf⟩ := Deep.choose_lt (n := l.length) (p := fun j (y : Option Addr × Nat) => ∀ x, l[j]? = some x → ∀ b o n c, v = .slice (some ⟨b, o, none⟩) n c → AtE w b (o + j * 2) x y.1 y.2) fun j hj => by
    obtain ⟨a, c, rfl⟩ := ats_parts h
    obtain ⟨b, o, rfl⟩ := h.addr (by omega)
    obtain ⟨xa, xc, ex⟩ := h.elem (List.getElem?_eq_getElem hj)
    refine ⟨(xa, xc), fun x hx b' o' n' c' e => ?_⟩
    cases e
    rw [List.getElem?_eq_getElem hj] at hx
    obtain rfl := Option.some.inj hx
    exact ex
  exact ⟨f, fun j x hx => hf j (List.getElem?_eq_some_iff.1 hx).1 x hx⟩
/-- The cells of an attribute's item. -/
def itC (m : List Ar) (P : Nat → Option Addr × Nat) (j : Nat) : List Value := [b8 ((m.getD j ar0).k.toNat), .slice (P j).1 (m.getD j ar0).v.length (P j).2]
theorem its_full {w : World} {g n : Nat} {m : List Ar} {P : Nat → Option Addr × Nat} {L : List (Nat × List Value)} (hn : m.length = n) (hk : Kn w ((g, flR itZ (itC m P) n n) :: L)) (hb : ∀ j x, m[j]? = some x → By w (.slice (P j).1 x.v.length (P j).2) x.v) : Its w (.slice (some ⟨g, 0, none⟩) n n) (m.map itA) := by
  refine ⟨_, n, by rw [List.length_map, hn], by rw [List.length_map, hn]; exact Nat.le_refl _, (fun h => by cases h), fun _ => ⟨g, 0, rfl, fun j y hy => ?_⟩⟩
  rw [List.getElem?_map] at hy
  cases hx : m[j]? with
  | none => rw [hx] at hy; cases hy
  | some x =>
    rw [hx] at hy
    obtain rfl := Option.some.inj hy
    have hj : j < n := by rw [← hn]; exact (List.getElem?_eq_some_iff.1 hx).1
    have hr := flR_rng hk hj (Nat.le_refl _) rfl
    have e : m.getD j ar0 = x := by rw [List.getD_eq_getElem?_getD, hx]; rfl
    have c0 := hr 0 _ rfl
    have c1 := hr 1 _ rfl
    rw [e] at c0 c1
    rw [Nat.zero_add]
    exact ⟨c0, _, c1, hb j x hx⟩
theorem wp_buildIt {ops : Array Oper} {rest : List Oper} {o : Oper} {a : Act} {Q : Exit → Act → World → Prop} {w : World} (hgd : o.guard = none) (x y : Operand) (ho : o.op = .build 35 #[(0, x), (1, y)]) (X : Int) (d : Option Addr) (n c : Nat) (hx : a.eval x = .int .u8 X) (hy : a.eval y = .slice d n c)
    (h : wpList Try.prog ops Q rest (a.put o.dst (.agg #[.int .u8 X, .slice d n c])) w) : wpList Try.prog ops Q (o :: rest) a w := by
  refine wpList_plain hgd fun K hK => ?_
  have hb : Try.prog.built 35 [(0, .int .u8 X), (1, .slice d n c)] = some #[.int .u8 X, .slice d n c] := by kernel_rfl
  have e : (Instr.build 35 ((#[(0, x), (1, y)] : Array (Nat × Operand)).map fun q => (q.fst, a.eval q.snd))).run Try.prog w = .ok (.agg #[.int .u8 X, .slice d n c]) w := run_build w 35 _ _ (by simpa [hx, hy] using hb)
  unfold Oper.wp
  simp only [execOp, ho, Sem.run_bind, e, Result.andThen_ok, Sem.run_pure]
  exact hK _ _ h
set_option maxRecDepth 20000 in
set_option maxHeartbeats 4000000 in
theorem pack_walk (v : Value) (m : List Ar) (bs : List Nat) (n : Nat) (hn : m.length = n) (n18 : n ≤ 18) (hm : ∀ x ∈ m, 1 ≤ x.k ∧ x.k ≤ 18) (w : World)
    (N1 : Calls Try.prog 11 #[v] w fun e w' => (∃ u, e = .returned (.tuple #[u, .int .i64 0]) ∧ Ats w' u m) ∧ Below w.heap.size w w')
    (W1 : ∀ u W, Its W u (m.map itA) → Calls Try.prog 12 #[u] W fun e w' => (∃ u, e = .returned (.tuple #[u, .int .i64 0]) ∧ By w' u bs) ∧ Below W.heap.size W w') :
    Calls Try.prog 5 #[v] w fun e w' => (∃ u, e = .returned (.tuple #[u, .int .i64 0]) ∧ By w' u bs) ∧ Below w.heap.size w w' := by
  have HN : Hid (m.length = n ∧ n ≤ 18) := ⟨hn, n18⟩
  have HM : Hid (∀ x ∈ m, 1 ≤ x.k ∧ x.k ≤ 18) := hm
  clear hn n18 hm
  go_enter Try.func5, Try.ntmps5
  go_wp2_with fail
  refine N1.mono ?_
  rintro e w1 ⟨⟨u, rfl, hu⟩, hb⟩
  have b1 : Hid (Below w.heap.size w w1) := hb
  have U1 : Hid (Ats w1 u m) := hu
  obtain ⟨ua, uc, hu'⟩ := ats_parts hu
  rw [HN.out.1] at hu'
  subst hu'
  obtain ⟨P, hP⟩ := ats_ptrs hu
  have HP : Hid _ := hP
  clear hb hu N1 hP
  go_wp2_with (refine wp_mkRow rfl 31 35 itZ 32 Try.uItems iItem2 (by decide) _ _ rfl n _ rfl rfl rfl (by have := HN.out; omega) ?_)
  intro w2 hk2 hb2
  have b2 : Hid (Below w.heap.size w w2) := b1.out.trans (hb2.mono b1.out.size)
  have s2 : Hid (Kn w2 [(w1.heap.size, flR itZ (itC m P) 0 n)]) := by
    rw [← flR_zero]
    exact (Kn.nil w1).fresh_of hb2 (Nat.le_refl _) hk2
  have c2 : Hid (Below w1.heap.size w1 w2) := hb2
  clear hk2 hb2
  generalize hg : w1.heap.size = g at s2 ⊢
  have HG : Hid (w1.heap.size = g) := hg
  clear hg
  go_wp2_with fail
  go_loopw [22] (fun i wr => ∃ j : Nat, j ≤ n ∧ i = .int .i64 (j : Int) ∧ Hid (Kn wr [(g, flR itZ (itC m P) j n)]) ∧ Hid (Below w1.heap.size w1 wr)) (fun i _ => n - (intOf i).toNat)
  case atStart => exact ⟨0, Nat.zero_le _, rfl, s2, c2⟩
  case round =>
    clear s2 c2
    obtain ⟨j, hj, rfl, sk, bk⟩ := hrel
    by_cases hlt : j < n
    · have i1 : (j : Int) < (n : Int) := by omega
      have i0 : (0 : Int) ≤ (j : Int) := by omega
      have jn : (n : Int) ≤ 18 := by have := HN.out.2; omega
      have HJ : Hid (j < n) := hlt
      obtain ⟨b, o, rfl⟩ := U1.out.addr (by omega)
      obtain ⟨x, hx⟩ : ∃ x, Hid (m[j]? = some x) := ⟨m[j]'(by have := HN.out; omega), List.getElem?_eq_getElem _⟩
      obtain ⟨k1, k18⟩ := HM.out x (List.mem_of_getElem? hx.out)
      obtain ⟨i, hi⟩ : ∃ i : Nat, x.k = (i : Int) := ⟨x.k.toNat, by omega⟩
      have e0 := HP.out j x hx.out b o _ _ rfl
      have EX : Hid (AtE wr b (o + j * 2) x (P j).1 (P j).2) := e0.up bk.out
      have ec : Hid (itC m P j = [.int .u8 (i : Int), .slice (P j).1 x.v.length (P j).2]) := by
        show _ = _
        unfold itC
        rw [show m.getD j ar0 = x by rw [List.getD_eq_getElem?_getD, hx.out]; rfl, hi, Int.toNat_natCast]
      have R1 : Hid (wr.rangeAt b (o + j * 2) [.int .i64 (i : Int), .slice (P j).1 x.v.length (P j).2]) := by have := EX.out.rng; rw [hi] at this; exact this
      have R2 : Hid (∀ (C : Array Value) t, (wr.alloc (.cells C t)).rangeAt b (o + j * 2) [.int .i64 (i : Int), .slice (P j).1 x.v.length (P j).2]) := fun C t => by have := (EX.out.up ((Below.refl _ _).alloc (Nat.le_refl _) (.cells C t))).rng; rw [hi] at this; exact this
      clear EX e0
      generalize (P j).1 = xa at *
      generalize (P j).2 = xc at *
      generalize x.v.length = q at *
      have s3 : Hid (Kn (wr.alloc (.cells #[.int .i64 (i : Int), .slice xa q xc] 37)) [(wr.heap.size, [.int .i64 (i : Int), .slice xa q xc]), (g, flR itZ (itC m P) j n)]) := sk.out.al [.int .i64 (i : Int), .slice xa q xc] 37 rfl
      have b3 : Hid (Below w1.heap.size w1 (wr.alloc (.cells #[.int .i64 (i : Int), .slice xa q xc] 37))) := bk.out.alloc bk.out.size _
      have wk : IntKind.u8.wrap (i : Int) = (i : Int) := by rw [IntKind.wrap_u8]; omega
      have u0 := Kn.get s3.out 0 0 rfl rfl
      have u1 := Kn.get s3.out 0 1 rfl rfl
      have T3 : Hid ((wr.alloc (.cells #[.int .i64 (i : Int), .slice xa q xc] 37)).there g (j * 2) ([.int .u8 (i : Int), .slice xa q xc] : List Value).length) := flR_there (s3.out.front 1 rfl) HJ.out _ rfl
      clear hlt hj bk sk k1 k18 hi
      go_wp2_with (first | simp only [zero_attr] | refine wp_ldW rfl 37 _ rfl b (o + j * 2) rfl [.int .i64 (i : Int), .slice xa q xc] _ (by first | exact R1.out | exact R2.out _ _) u_attr rfl (info_attr _ _) ?_ | refine wp_buildIt rfl _ _ rfl (i : Int) xa q xc rfl rfl ?_ | refine I.wp_store_eq rfl 35 _ _ rfl g (j * 2) [.int .u8 (i : Int), .slice xa q xc] rfl rfl T3.out (info_item2 i _) (by intro v hv; simp only [List.mem_cons, List.not_mem_nil, or_false] at hv; rcases hv with rfl | rfl <;> rfl) ?_)
      intro w9 hw9
      have s9 : Hid (Kn w9 [(g, flR itZ (itC m P) (j + 1) n)]) := by
        rw [hw9.out]
        have := flR_put (s3.out.front 1 rfl) HJ.out rfl
        rw [ec.out] at this
        exact this.drop 1
      have b9 : Hid (Below w1.heap.size w1 w9) := by
        rw [hw9.out]
        exact I.below_setCells _ _ _ b3.out (Nat.le_of_eq HG.out)
      clear hw9 s3 b3 wk u0 u1 T3 R1 R2 ec
      go_wp2_with fail
      go_roundw
      case rel => exact ⟨j + 1, HJ.out, by go_num, s9, b9⟩
      case measure => simp [intOf]; have := HJ.out; omega
    · have i1 : ¬ (j : Int) < (n : Int) := by omega
      have ej : j = n := by omega
      rw [ej] at sk
      have IT : Its wr (.slice (some ⟨g, 0, none⟩) n n) (m.map itA) := its_full HN.out.1 sk.out fun i x hx => by
        obtain ⟨b, o, e⟩ := U1.out.addr (by have := (List.getElem?_eq_some_iff.1 hx).1; have := HN.out.1; omega)
        exact ((HP.out i x hx b o n uc (by rw [e])).up bk.out).2.2
      have W2 := W1 _ wr IT
      have b4 : Hid (Below w.heap.size w wr) := b1.out.trans (bk.out.mono b1.out.size)
      clear hlt hj ej sk IT W1
      go_wp2_with fail
      refine W2.mono ?_
      rintro e w5 ⟨⟨r, rfl, hr⟩, hb⟩
      have b5 : Hid (Below w.heap.size w w5) := b4.out.trans (hb.mono b4.out.size)
      have R5 : Hid (By w5 r bs) := hr
      clear hb hr W2 b4
      go_wp2_with fail
      go_ret2
      exact ⟨⟨_, rfl, R5.out⟩, b5.out⟩
set_option maxHeartbeats 1000000 in
theorem pack_bad (v : Value) (f : Nat) (hf : ¬ f = 0) (w : World)
    (N1 : Calls Try.prog 11 #[v] w fun e w' => (∃ u, e = .returned (.tuple #[u, .int .i64 (f : Int)]) ∧ Ats w' u []) ∧ Below w.heap.size w w') :
    Calls Try.prog 5 #[v] w fun e w' => e = .returned (.tuple #[.slice none 0 0, .int .i64 (f : Int)]) ∧ Below w.heap.size w w' := by
  have hn : ((f : Int) != 0) = true := bne_iff_ne.2 (by omega)
  go_enter Try.func5, Try.ntmps5
  go_wp2_with fail
  refine N1.mono ?_
  rintro e w1 ⟨⟨u, rfl, -⟩, hb⟩
  have b1 : Hid (Below w.heap.size w w1) := hb
  clear hb N1
  go_wp2_with fail
  go_ret2
  exact ⟨rfl, b1.out⟩
/-- Pack. -/
theorem atPackC : AtPackC := fun v l w lo h => by -- function 5
  have N1 := atNormC v l w lo h
  by_cases hf : fltA l = 0
  · have G := (fltA_zero l).1 hf
    rw [hf] at N1 ⊢
    rw [if_pos rfl] at N1 ⊢
    refine pack_walk v (risA l) (packA l) _ rfl (risA_len l) (fun x hx => (risA_mem.1 hx).1) w N1 fun u W hu => ?_
    refine (write_any u _ W hu).mono ?_
    rintro e w' ⟨⟨r, k, rfl, hr⟩, hb⟩
    refine ⟨?_, hb⟩
    have ok : okIts ((risA l).map itA) := by
      refine ⟨by rw [List.length_map]; have := risA_len l; omega, fun x hx => ?_⟩
      obtain ⟨y, hy, rfl⟩ := List.mem_map.1 hx
      exact Nat.le_trans (fit_len (good_of_get G.2.1 (risA_mem.1 hy).2).2.2) (by decide)
    rcases hr with ⟨rfl, _, hr⟩ | ⟨_, hr, _⟩
    · exact ⟨r, rfl, hr⟩
    · exact absurd ok hr
  · rw [if_neg hf] at N1 ⊢
    exact (pack_bad v _ hf w N1).mono fun _ _ ⟨he, hb⟩ => ⟨⟨_, he, By.nil _⟩, hb⟩
end Go.Proofs.Ytohliojdmmbcdab
