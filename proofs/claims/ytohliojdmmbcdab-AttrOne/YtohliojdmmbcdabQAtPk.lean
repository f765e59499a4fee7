/- Package attr, as it landed: Unpack; both contracts. -/
import Derived.Test.YtohliojdmmbcdabQAtSo
namespace Go.Proofs.Ytohliojdmmbcdab
open Go.RowKit
attribute [local go_sem] World.cell?_alloc_some cell_alloc2 cell_alloc3 cell_alloc4 frozen?_alloc_cells frozen_out
set_option linter.unusedSimpArgs false
theorem u_itemP : Try.prog.underlying 35 = some (.struct (match Try.prog.underlying 35 with | some (.struct fs) => fs | _ => #[])) := by kernel_rfl
theorem zero_itemP (w : World) : (zeroValue 35).run Try.prog w = .ok (.agg #[.int .u8 0, .slice none 0 0]) w := I.zero_of (by kernel_rfl) w
theorem iAttr2 : (Try.prog.info? 37).map (fun i => (i.zero, i.size, i.bytes)) = some (some (.agg atZ.toArray), atZ.length, 32) := by kernel_rfl
/-- Where the bodies of items lie. -/
theorem its_ptrs {w : World} {v : Value} {l : List It} (h : Its w v l) : ∃ P : Nat → Option Addr × Nat, ∀ j x, l[j]? = some x → ∀ b o n c, v = .slice (some ⟨b, o, none⟩) n c → w.rangeAt b (o + j * 2) [b8 x.tag, .slice (P j).1 x.body.length (P j).2] ∧ By w (.slice (P j).1 x.body.length (P j).2) x.body := by
  have hinh : Inhabited (Option Addr × Nat) := ⟨(none, 0)⟩
  obtain ⟨f, hf⟩ := Deep.choose_lt (n := l.length) (p := fun j (y : Option Addr × Nat) => ∀ x, l[j]? = some x → ∀ b o n c, v = .slice (some ⟨b, o, none⟩) n c → w.rangeAt b (o + j * 2) [b8 x.tag, .slice y.1 x.body.length y.2] ∧ By w (.slice y.1 x.body.length y.2) x.body) fun j hj => by
    obtain ⟨a, c, rfl, -, -, h2⟩ := h
    obtain ⟨b, o, rfl, h3⟩ := h2 (by omega)
    obtain ⟨h1, u, h4, h5⟩ := h3 j _ (List.getElem?_eq_getElem hj)
    obtain ⟨xa, xc, rfl, -⟩ := id h5
    refine ⟨(xa, xc), fun x hx b' o' n' c' e => ?_⟩
    cases e
    rw [List.getElem?_eq_getElem hj] at hx
    obtain rfl := Option.some.inj hx
    refine ⟨fun i v hv => ?_, h5⟩
    match i, hv with
    | 0, hv =>
      obtain rfl := Option.some.inj hv
      exact h1
    | 1, hv =>
      obtain rfl := Option.some.inj hv
      exact h4
  exact ⟨f, fun j x hx => hf j (List.getElem?_eq_some_iff.1 hx).1 x hx⟩
def it0 : It := ⟨0, []⟩
/-- The cells of an item's attribute. -/
def atC_ (l : List It) (P : Nat → Option Addr × Nat) (j : Nat) : List Value := [.int .i64 ((l.getD j it0).tag : Int), .slice (P j).1 (l.getD j it0).body.length (P j).2]
theorem ats_full {w : World} {g n : Nat} {l : List It} {P : Nat → Option Addr × Nat} {L : List (Nat × List Value)} (hn : l.length = n) (hk : Kn w ((g, flR atZ (atC_ l P) n n) :: L)) (hb : ∀ j x, l[j]? = some x → By w (.slice (P j).1 x.body.length (P j).2) x.body) : Ats w (.slice (some ⟨g, 0, none⟩) n n) (l.map arI) := by
  refine ⟨_, n, by rw [List.length_map, hn], by rw [List.length_map, hn]; exact Nat.le_refl _, (fun h => by cases h), fun _ => ⟨g, 0, rfl, fun j y hy => ?_⟩⟩
  rw [List.getElem?_map] at hy
  cases hx : l[j]? with
  | none => rw [hx] at hy; cases hy
  | some x =>
    rw [hx] at hy
    obtain rfl := Option.some.inj hy
    have hj : j < n := by rw [← hn]; exact (List.getElem?_eq_some_iff.1 hx).1
    have hr := flR_rng hk hj (Nat.le_refl _) rfl
    have e : l.getD j it0 = x := by rw [List.getD_eq_getElem?_getD, hx]; rfl
    have c0 := hr 0 _ rfl
    have c1 := hr 1 _ rfl
    rw [e] at c0 c1
    rw [Nat.zero_add]
    exact ⟨c0, _, c1, hb j x hx⟩
set_option maxRecDepth 20000 in
set_option maxHeartbeats 4000000 in
theorem unpack_walk (v : Value) (l : List It) (L : List Ar) (hL : l.map arI = L) (n : Nat) (hn : l.length = n) (n200 : n ≤ 200) (lt : ∀ x ∈ l, x.tag < 256) (g0 : Nat) (M : List Ar) (hr : unL L = (g0, M)) (w : World)
    (R1 : Calls Try.prog 7 #[v] w fun e w' => (∃ u, e = .returned (.tuple #[u, .int .i64 0]) ∧ Its w' u l) ∧ Below w.heap.size w w')
    (C1 : ∀ u W, Ats W u L → Calls Try.prog 8 #[u] W fun e w' => e = .returned (.int .i64 ((fltA L : Nat) : Int)) ∧ Below W.heap.size W w')
    (S1 : fltA L = 0 → ∀ u W, Ats W u L → Calls Try.prog 9 #[u, .func (.func 10) #[] #[]] W fun e w' => e = .returned (.bool (riseB L)) ∧ Below W.heap.size W w') :
    Calls Try.prog 4 #[v] w fun e w' => (∃ u, e = .returned (.tuple #[u, .int .i64 (g0 : Int)]) ∧ Ats w' u M) ∧ Below w.heap.size w w' := by
  have HN : Hid (l.length = n ∧ n ≤ 200 ∧ l.map arI = L) := ⟨hn, n200, hL⟩
  have HT : Hid (∀ x ∈ l, x.tag < 256) := lt
  have HR : Hid (unL L = (g0, M)) := hr
  clear hn n200 lt hr hL
  go_enter Try.func4, Try.ntmps4
  go_wp2_with fail
  refine R1.mono ?_
  rintro e w1 ⟨⟨u, rfl, hu⟩, hb⟩
  have b1 : Hid (Below w.heap.size w w1) := hb
  have U1 : Hid (Its w1 u l) := hu
  obtain ⟨ua, uc, hu', -⟩ := id hu
  rw [HN.out.1] at hu'
  subst hu'
  obtain ⟨P, hP⟩ := its_ptrs hu
  have HP : Hid _ := hP
  clear hb hu R1 hP
  go_wp2_with (refine wp_mkRow rfl 23 37 atZ 32 Try.uAttrs iAttr2 (by decide) _ _ rfl n _ rfl rfl rfl (by have := HN.out; omega) ?_)
  intro w2 hk2 hb2
  have b2 : Hid (Below w.heap.size w w2) := b1.out.trans (hb2.mono b1.out.size)
  have s2 : Hid (Kn w2 [(w1.heap.size, flR atZ (atC_ l P) 0 n)]) := by
    rw [← flR_zero]
    exact (Kn.nil w1).fresh_of hb2 (Nat.le_refl _) hk2
  have c2 : Hid (Below w1.heap.size w1 w2) := hb2
  clear hk2 hb2
  generalize hg : w1.heap.size = g at s2 ⊢
  have HG : Hid (w1.heap.size = g) := hg
  clear hg
  go_wp2_with fail
  go_loopw [23] (fun i wr => ∃ j : Nat, j ≤ n ∧ i = .int .i64 (j : Int) ∧ Hid (Kn wr [(g, flR atZ (atC_ l P) j n)]) ∧ Hid (Below w1.heap.size w1 wr)) (fun i _ => n - (intOf i).toNat)
  case atStart => exact ⟨0, Nat.zero_le _, rfl, s2, c2⟩
  case round =>
    clear s2 c2
    obtain ⟨j, hj, rfl, sk, bk⟩ := hrel
    by_cases hlt : j < n
    · have i1 : (j : Int) < (n : Int) := by omega
      have i0 : (0 : Int) ≤ (j : Int) := by omega
      have jn : (n : Int) ≤ 200 := by have := HN.out.2.1; omega
      have HJ : Hid (j < n) := hlt
      obtain ⟨b, o, rfl⟩ : ∃ b o, ua = some ⟨b, o, none⟩ := by
        obtain ⟨a', c', e, -, -, h2⟩ := id U1.out
        cases e
        obtain ⟨b', o', e, -⟩ := h2 (by have := HN.out.1; omega)
        exact ⟨b', o', e⟩
      obtain ⟨x, hx⟩ : ∃ x, Hid (l[j]? = some x) := ⟨l[j]'(by have := HN.out; omega), List.getElem?_eq_getElem _⟩
      have tx := HT.out x (List.mem_of_getElem? hx.out)
      obtain ⟨e0, -⟩ := HP.out j x hx.out b o _ _ rfl
      have ec : Hid (atC_ l P j = [.int .i64 (x.tag : Int), .slice (P j).1 x.body.length (P j).2]) := by
        show _ = _
        unfold atC_
        rw [show l.getD j it0 = x by rw [List.getD_eq_getElem?_getD, hx.out]; rfl]
      have R1 : Hid (wr.rangeAt b (o + j * 2) [.int .u8 (x.tag : Int), .slice (P j).1 x.body.length (P j).2]) := fun i v hv => by
        have h1 := e0 i v hv
        exact (bk.out.cell (p := ⟨b, _, none⟩) (lt_of_cellB h1)).trans h1
      have R2 : Hid (∀ (C : Array Value) t, (wr.alloc (.cells C t)).rangeAt b (o + j * 2) [.int .u8 (x.tag : Int), .slice (P j).1 x.body.length (P j).2]) := fun C t i v hv => by
        have h1 := R1.out i v hv
        exact (((Below.refl _ _).alloc (Nat.le_refl _) (.cells C t)).cell (p := ⟨b, _, none⟩) (lt_of_cellB h1)).trans h1
      have wk : IntKind.i64.wrap (x.tag : Int) = (x.tag : Int) := by rw [IntKind.wrap_i64]; omega
      clear e0 tx
      generalize (P j).1 = xa at *
      generalize (P j).2 = xc at *
      generalize x.body.length = q at *
      generalize x.tag = i at *
      have s3 : Hid (Kn (wr.alloc (.cells #[.int .u8 (i : Int), .slice xa q xc] 35)) [(wr.heap.size, [.int .u8 (i : Int), .slice xa q xc]), (g, flR atZ (atC_ l P) j n)]) := sk.out.al [.int .u8 (i : Int), .slice xa q xc] 35 rfl
      have b3 : Hid (Below w1.heap.size w1 (wr.alloc (.cells #[.int .u8 (i : Int), .slice xa q xc] 35))) := bk.out.alloc bk.out.size _
      have u0 := Kn.get s3.out 0 0 rfl rfl
      have u1 := Kn.get s3.out 0 1 rfl rfl
      have T3 : Hid ((wr.alloc (.cells #[.int .u8 (i : Int), .slice xa q xc] 35)).there g (j * 2) ([.int .i64 (i : Int), .slice xa q xc] : List Value).length) := flR_there (s3.out.front 1 rfl) HJ.out _ rfl
      clear hlt hj bk sk
      go_wp2_with (first | simp only [zero_itemP] | refine wp_ldW rfl 35 _ rfl b (o + j * 2) rfl [.int .u8 (i : Int), .slice xa q xc] _ (by first | exact R1.out | exact R2.out _ _) u_itemP rfl (info_item2 i _) ?_ | refine wp_buildAt rfl _ _ rfl (i : Int) xa q xc rfl rfl ?_ | refine I.wp_store_eq rfl 37 _ _ rfl g (j * 2) [.int .i64 (i : Int), .slice xa q xc] rfl rfl T3.out (info_attr _ _) (by intro v hv; simp only [List.mem_cons, List.not_mem_nil, or_false] at hv; rcases hv with rfl | rfl <;> rfl) ?_)
      intro w9 hw9
      have s9 : Hid (Kn w9 [(g, flR atZ (atC_ l P) (j + 1) n)]) := by
        rw [hw9.out]
        have := flR_put (s3.out.front 1 rfl) HJ.out rfl
        rw [ec.out] at this
        exact this.drop 1
      have b9 : Hid (Below w1.heap.size w1 w9) := by
        rw [hw9.out]
        exact I.below_setCells _ _ _ b3.out (Nat.le_of_eq HG.out)
      clear hw9 s3 b3 wk u0 u1 T3 R1 R2 ec
      go_wp2_with fail
      go_roundw
      case rel => exact ⟨j + 1, HJ.out, by go_num, s9, b9⟩
      case measure => simp [intOf]; have := HJ.out; omega
    · have i1 : ¬ (j : Int) < (n : Int) := by omega
      have ej : j = n := by omega
      rw [ej] at sk
      have AT : Hid (Ats wr (.slice (some ⟨g, 0, none⟩) n n) L) := by
        have := ats_full HN.out.1 sk.out fun i x hx => by
          obtain ⟨a', c', e, -, -, h2⟩ := id U1.out
          cases e
          obtain ⟨b, o, e, -⟩ := h2 (by have := (List.getElem?_eq_some_iff.1 hx).1; have := HN.out.1; omega)
          exact (HP.out i x hx b o _ uc (by rw [e])).2.up bk.out (Nat.le_refl _)
        rw [HN.out.2.2] at this
        exact this
      have C2 := C1 _ wr AT.out
      have b4 : Hid (Below w.heap.size w wr) := b1.out.trans (bk.out.mono b1.out.size)
      clear hlt hj ej sk C1
      by_cases hf : fltA L = 0
      · have hr := HR.out
        unfold unL at hr
        rw [if_pos hf] at hr
        have S2 := S1 hf
        rw [hf] at C2
        clear hf S1
        go_wp2_with fail
        refine C2.mono ?_
        rintro e w5 ⟨rfl, hb⟩
        have b5 : Hid (Below w.heap.size w w5) := b4.out.trans (hb.mono b4.out.size)
        have A5 : Hid (Ats w5 (.slice (some ⟨g, 0, none⟩) n n) L) := AT.out.up hb (Nat.le_refl _)
        have S3 := S2 _ w5 A5.out
        clear hb C2 b4 AT S2
        cases hrb : riseB L with
        | true =>
          rw [hrb] at S3 hr
          rw [if_pos rfl] at hr
          obtain ⟨e1, e2⟩ : Hid (0 = g0) ∧ Hid (L = M) := Prod.mk.inj hr
          clear hr hrb
          go_wp2_with fail
          refine S3.mono ?_
          rintro e w6 ⟨rfl, hb⟩
          have b6 : Hid (Below w.heap.size w w6) := b5.out.trans (hb.mono b5.out.size)
          have A6 : Hid (Ats w6 (.slice (some ⟨g, 0, none⟩) n n) L) := A5.out.up hb (Nat.le_refl _)
          clear hb S3 b5 A5
          go_wp2_with fail
          go_ret2
          exact ⟨⟨_, by rw [← e1.out]; rfl, by rw [← e2.out]; exact A6.out⟩, b6.out⟩
        | false =>
          rw [hrb] at S3 hr
          rw [if_neg (by decide)] at hr
          obtain ⟨e1, e2⟩ : Hid (1 = g0) ∧ Hid ([] = M) := Prod.mk.inj hr
          clear hr hrb
          go_wp2_with fail
          refine S3.mono ?_
          rintro e w6 ⟨rfl, hb⟩
          have b6 : Hid (Below w.heap.size w w6) := b5.out.trans (hb.mono b5.out.size)
          clear hb S3 b5 A5
          go_wp2_with fail
          go_ret2
          exact ⟨⟨_, by rw [← e1.out]; rfl, by rw [← e2.out]; exact Ats.nil _⟩, b6.out⟩
      · have hr := HR.out
        unfold unL at hr
        rw [if_neg hf] at hr
        obtain ⟨e1, e2⟩ : Hid (fltA L = g0) ∧ Hid ([] = M) := Prod.mk.inj hr
        rw [e1.out] at C2 hf
        have hne : ((g0 : Int) != 0) = true := bne_iff_ne.2 (by omega)
        clear hr hf S1 AT
        go_wp2_with fail
        refine C2.mono ?_
        rintro e w5 ⟨rfl, hb⟩
        have b5 : Hid (Below w.heap.size w w5) := b4.out.trans (hb.mono b4.out.size)
        clear hb C2 b4
        go_wp2_with fail
        go_ret2
        exact ⟨⟨_, rfl, by rw [← e2.out]; exact Ats.nil _⟩, b5.out⟩
set_option maxHeartbeats 1000000 in
theorem unpack_bad (v u : Value) (f : Nat) (hf : ¬ f = 0) (w : World)
    (R1 : Calls Try.prog 7 #[v] w fun e w' => e = .returned (.tuple #[u, .int .i64 (f : Int)]) ∧ Below w.heap.size w w') :
    Calls Try.prog 4 #[v] w fun e w' => e = .returned (.tuple #[.slice none 0 0, .int .i64 (f : Int)]) ∧ Below w.heap.size w w' := by
  have hn : ((f : Int) != 0) = true := bne_iff_ne.2 (by omega)
  go_enter Try.func4, Try.ntmps4
  go_wp2_with fail
  refine R1.mono ?_
  rintro e w1 ⟨rfl, hb⟩
  have b1 : Hid (Below w.heap.size w w1) := hb
  clear hb R1
  go_wp2_with fail
  go_ret2
  exact ⟨rfl, b1.out⟩
/-- Unpack. -/
theorem atUnpC : AtUnpC := fun v b w low h => by -- function 4
  have hread := read_fun v b low w h
  by_cases hb : 65536 < b.length
  · have e : unpA b = (2, []) := by unfold unpA; rw [if_pos hb]
    rw [e]
    refine (unpack_bad v (.slice none 0 0) 2 (by decide) w (hread.mono fun e w' ⟨he, hb'⟩ => ⟨?_, hb'⟩)).mono fun _ _ ⟨he, hb⟩ => ⟨⟨_, he, Ats.nil _⟩, hb⟩
    rcases he with ⟨h1, _⟩ | ⟨_, he⟩
    · omega
    · exact he
  · cases hr : readS 200 b with
    | inl k =>
      have e : unpA b = (k, []) := by unfold unpA; rw [if_neg hb, hr]
      rw [e]
      have hk : ¬ k = 0 := fun e => readS_pos 200 b low (by rw [hr, e])
      refine (unpack_bad v (.slice none 0 0) k hk w (hread.mono fun e w' ⟨he, hb'⟩ => ⟨?_, hb'⟩)).mono fun _ _ ⟨he, hb⟩ => ⟨⟨_, he, Ats.nil _⟩, hb⟩
      rcases he with ⟨_, ⟨k', _, h2, he⟩ | ⟨l, u, h2, _⟩⟩ | ⟨h1, _⟩
      · rw [hr] at h2
        obtain rfl := Sum.inl.inj h2
        exact he
      · rw [hr] at h2
        cases h2
      · exact absurd h1 hb
    | inr l =>
      have e : unpA b = unL (l.map arI) := by unfold unpA; rw [if_neg hb, hr]
      rw [e]
      have hl := readS_one 200 b l low hr
      have lo : lowA (l.map arI) := fun x hx => by
        obtain ⟨y, hy, rfl⟩ := List.mem_map.1 hx
        have := hl.2.2 y hy
        refine ⟨?_, this.2.2⟩
        show -9223372036854775808 ≤ (y.tag : Int) ∧ (y.tag : Int) ≤ 9223372036854775807
        omega
      refine unpack_walk v l _ rfl _ rfl hl.2.1 (fun x hx => (hl.2.2 x hx).2.1) _ _ rfl w (hread.mono fun e w' ⟨he, hb'⟩ => ⟨?_, hb'⟩) (fun u W hu => atCheckC u _ W lo hu) (fun h0 u W hu => ?_)
      · rcases he with ⟨_, ⟨k', _, h2, he⟩ | ⟨l', u, h2, he, ho⟩⟩ | ⟨h1, _⟩
        · rw [hr] at h2
          cases h2
        · rw [hr] at h2
          obtain rfl := Sum.inr.inj h2
          exact ⟨u, he, ho.its⟩
        · exact absurd h1 hb
      · have G := (fltA_zero _).1 h0
        exact sorted_fun _ G.1 G.2 u W hu
end Go.Proofs.Ytohliojdmmbcdab
