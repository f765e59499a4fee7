/- UnpackedAttrs, as the document has it. -/
import Derived.Test.YtohliojdmmbcdaaQAtP
import Derived.Test.YtohliojdmmbcdaaQAtFf
import Derived.Test.YtohliojdmmbcdaaQDerRR
import Derived.Deep.CutRange
namespace Go.Proofs.Ytohliojdmmbcdaa
open Go.RowKit
attribute [local go_sem] World.cell?_alloc_some cell_alloc2 cell_alloc3 cell_alloc4 frozen?_alloc_cells frozen_out
set_option linter.unusedSimpArgs false
theorem u_itemA : Try.prog.underlying 62 = some (.struct (match Try.prog.underlying 62 with | some (.struct fs) => fs | _ => #[])) := by kernel_rfl
theorem info_itemA (k : Nat) (u : Value) : (Try.prog.info? 62).map (·.size) = some ([b8 k, u] : List Value).length := by kernel_rfl
theorem zero_itemA (w : World) : (zeroValue 62).run Try.prog w = .ok (.agg #[.int .u8 0, .slice none 0 0]) w := I.zero_of (by kernel_rfl) w
theorem unpA_read (b : List Nat) : unpA b = if (readR b).1 = 0 then unL ((readR b).2.map arI) else ((readR b).1, []) := by
  unfold unpA readR
  by_cases hb : 65536 < b.length
  · rw [if_pos hb, if_pos hb]
    rfl
  · rw [if_neg hb, if_neg hb]
    cases readS 200 b with
    | inl n =>
      show (n, []) = if n = 0 then unL [] else (n, [])
      by_cases h : n = 0
      · rw [if_pos h, h]
        unfold unL
        rw [if_pos ((fltA_zero []).2 ⟨by simp, fun x hx => absurd hx List.not_mem_nil, List.nodup_nil⟩)]
        rfl
      · rw [if_neg h]
    | inr l => rfl
theorem readR_small (b : List Nat) (low : ∀ x ∈ b, x < 256) : (readR b).2.length ≤ 200 ∧ ∀ x ∈ (readR b).2, x.tag < 256 ∧ ∀ y ∈ x.body, y < 256 := by
  unfold readR
  split
  · exact ⟨Nat.zero_le _, fun x hx => absurd hx List.not_mem_nil⟩
  · cases hr : readS 200 b with
    | inl n => exact ⟨Nat.zero_le _, fun x hx => absurd hx List.not_mem_nil⟩
    | inr l =>
      have := readS_one 200 b l low hr
      exact ⟨this.2.1, fun x hx => (this.2.2 x hx).2⟩
theorem rise_iff {l : List Ar} (h : goodA l) : riseB l = true ↔ l = risA l := by
  constructor
  · intro hr
    have := of_decide_eq_true (p := (l.map Ar.k).Pairwise (· < ·)) hr
    rw [List.pairwise_map] at this
    exact (risA_rising h this).symm
  · intro e
    rw [e]
    exact rise_kinds (risA_rise l)
theorem Its.elem {w : World} {b o n c : Nat} {l : List It} (h : Its w (.slice (some ⟨b, o, none⟩) n c) l) {j : Nat} {x : It} (hx : l[j]? = some x) : ∃ a d, w.rangeAt b (o + j * 2) [b8 x.tag, .slice a x.body.length d] ∧ By w (.slice a x.body.length d) x.body := by
  obtain ⟨a', c', e, -, -, h2⟩ := id h
  cases e
  have hj := (List.getElem?_eq_some_iff.1 hx).1
  obtain ⟨b', o', e, h3⟩ := h2 (by omega)
  cases e
  obtain ⟨h1, u, h4, h5⟩ := h3 j x hx
  obtain ⟨a, d, rfl, -⟩ := id h5
  refine ⟨a, d, fun i v hv => ?_, h5⟩
  match i, hv with
  | 0, hv =>
    obtain rfl := Option.some.inj hv
    exact h1
  | 1, hv =>
    obtain rfl := Option.some.inj hv
    exact h4
set_option maxRecDepth 20000 in
set_option maxHeartbeats 4000000 in
theorem unpacked_walk (s : ByteArray) (f : Nat) (l : List It) (L : List Ar) (hL : l.map arI = L) (w : World) (hn : l.length ≤ 200) (lt : ∀ x ∈ l, x.tag < 256) (g : Nat) (M : List Ar) (hr : (if f = 0 then unL L else (f, [])) = (g, M))
    (R1 : ∀ W, Calls Try.prog 38 #[.string s] W fun e w' => (∃ u, e = .returned (.tuple #[u, .int .i64 (f : Int)]) ∧ Its w' u l) ∧ Below W.heap.size W w')
    (F1 : ∀ v W, Ats W v L → Calls Try.prog 9 #[v] W fun e w' => e = .returned (.int .i64 ((fltA L : Nat) : Int)) ∧ Below W.heap.size W w')
    (C1 : ∀ v W, Ats W v L → Calls Try.prog 11 #[v] W fun e w' => e = .returned (.agg (crdC (crdF L)).toArray) ∧ Below W.heap.size W w')
    (A1 : ∀ W, Calls Try.prog 12 #[.agg (crdC (crdF L)).toArray] W fun e w' => (∃ u, e = .returned u ∧ Ats w' u (risA L)) ∧ Below W.heap.size W w')
    (S1 : ∀ u v W, Ats W u L → Ats W v (risA L) → fltA L = 0 → Calls Try.prog 16 #[u, v] W fun e w' => e = .returned (.bool (riseB L)) ∧ Below W.heap.size W w') :
    Calls Try.prog 23 #[.string s] w fun e w' => (∃ u, e = .returned (.tuple #[u, .int .i64 (g : Int)]) ∧ Ats w' u M) ∧ Below w.heap.size w w' := by
  have HT : Hid (∀ x ∈ l, x.tag < 256) := lt
  generalize hN : l.length = n at *
  have HN : Hid (l.length = n ∧ n ≤ 200 ∧ l.map arI = L) := ⟨hN, hn, hL⟩
  clear hN hn lt hL
  go_enter Try.func23, Try.ntmps23
  go_wp2_with fail
  refine (R1 w).mono ?_
  rintro e w2 ⟨⟨u, rfl, hu⟩, hb⟩
  have b2 : Hid (Below w.heap.size w w2) := hb
  have U2 : Hid (Its w2 u l) := hu
  obtain ⟨ua, uc, hu', _⟩ := id U2.out
  rw [HN.out.1] at hu'
  subst hu'
  clear hb hu R1
  by_cases hf : f = 0
  · subst hf
    rw [if_pos rfl] at hr
    have HR : Hid (unL L = (g, M)) := hr
    clear hr
    go_wp2_with fail
    go_loopw [6, 20] (fun q i wr => ∃ j : Nat, j ≤ n ∧ i = .int .i64 (j : Int) ∧ Hid (Oa wr w2.heap.size q ((l.take j).map arI)) ∧ Hid (Below w2.heap.size w2 wr)) (fun _ i _ => n - (intOf i).toNat)
    case atStart => exact ⟨0, Nat.zero_le _, rfl, Oa.nil _ _, Below.refl _ _⟩
    case round =>
      obtain ⟨j, hj, rfl, ok, bk⟩ := hrel
      by_cases hlt : j < n
      · have i1 : (j : Int) < (n : Int) := by omega
        have i0 : (0 : Int) ≤ (j : Int) := by omega
        have jn : (n : Int) ≤ 200 := by have := HN.out.2.1; omega
        have HJ : Hid (j < n) := hlt
        obtain ⟨b, o, rfl⟩ : ∃ b o, ua = some ⟨b, o, none⟩ := by
          obtain ⟨a', c', e, -, -, h2⟩ := id U2.out
          cases e
          obtain ⟨b', o', e, -⟩ := h2 (by have := HN.out.1; omega)
          exact ⟨b', o', e⟩
        obtain ⟨x, hx⟩ : ∃ x, Hid (l[j]? = some x) := ⟨l[j]'(by have := HN.out; omega), List.getElem?_eq_getElem _⟩
        obtain ⟨xa, xc, ex, ey⟩ := U2.out.elem hx.out
        have tx := HT.out x (List.mem_of_getElem? hx.out)
        obtain ⟨qa, qc, rfl⟩ := ats_parts ok.out.ats
        have R0 : Hid (wr.rangeAt b (o + j * 2) [b8 x.tag, .slice xa x.body.length xc]) := fun i v hv => by
          have h1 := ex i v hv
          exact (bk.out.cell (p := ⟨b, _, none⟩) (lt_of_cellB h1)).trans h1
        have R2 : Hid (∀ (C : Array Value) t, (wr.alloc (.cells C t)).rangeAt b (o + j * 2) [b8 x.tag, .slice xa x.body.length xc]) := fun C t i v hv => by
          have h1 := R0.out i v hv
          exact (((Below.refl _ _).alloc (Nat.le_refl _) (.cells C t)).cell (p := ⟨b, _, none⟩) (lt_of_cellB h1)).trans h1
        have s2 : Hid (Kn (wr.alloc (.cells #[b8 x.tag, .slice xa x.body.length xc] 62)) [(wr.heap.size, [b8 x.tag, .slice xa x.body.length xc])]) := (Kn.nil wr).al [b8 x.tag, .slice xa x.body.length xc] 62 rfl
        have b3 : Hid (Below w2.heap.size w2 (wr.alloc (.cells #[b8 x.tag, .slice xa x.body.length xc] 62))) := bk.out.alloc bk.out.size _
        have V2 : Hid (Vk w2 w2.heap.size (.slice xa x.body.length xc) x.body) := ey.vk
        have ok2 : Hid (Oa (wr.alloc (.cells #[b8 x.tag, .slice xa x.body.length xc] 62)) w2.heap.size (.slice qa ((l.take j).map arI).length qc) ((l.take j).map arI)) := ok.out.up ((Below.refl _ _).alloc (Nat.le_refl _) _)
        have u0 := Kn.get s2.out 0 0 rfl rfl
        have u1 := Kn.get s2.out 0 1 rfl rfl
        have wt : IntKind.i64.wrap (x.tag : Int) = (x.tag : Int) := by rw [IntKind.wrap_i64]; omega
        have et : Hid ((l.take (j + 1)).map arI = (l.take j).map arI ++ [arI x]) := by
          show _ = _
          rw [List.take_add_one, hx.out, List.map_append]
          rfl
        clear hlt hj ex ey ok bk tx
        generalize ((l.take j).map arI).length = nn at *
        go_upto_region 8 with (first | simp only [zero_itemA] | refine wp_ldW rfl 62 _ rfl b (o + j * 2) rfl [b8 x.tag, .slice xa x.body.length xc] _ (by first | exact R0.out | exact R2.out _ _) u_itemA rfl (info_itemA _ _) ?_)
        clear R0 R2
        generalize (wr.alloc (.cells #[b8 x.tag, .slice xa x.body.length xc] 62)) = W at *
        generalize wr.heap.size = k at *
        have ba : Below W.heap.size W (W.alloc (.cells #[.int .i64 (x.tag : Int), .slice xa x.body.length xc] 50)) := (Below.refl _ _).alloc (Nat.le_refl _) _
        have ok3 : Hid (Oa (W.alloc (.cells #[.int .i64 (x.tag : Int), .slice xa x.body.length xc] 50)) w2.heap.size (.slice qa nn qc) ((l.take j).map arI)) := ok2.out.up ba
        have b4 : Hid (Below w2.heap.size w2 (W.alloc (.cells #[.int .i64 (x.tag : Int), .slice xa x.body.length xc] 50))) := b3.out.trans (ba.mono b3.out.size)
        have k3 : Hid (Kn (W.alloc (.cells #[.int .i64 (x.tag : Int), .slice xa x.body.length xc] 50)) [(W.heap.size, [.int .i64 (x.tag : Int), .slice xa x.body.length xc])]) := (Kn.nil W).al [.int .i64 (x.tag : Int), .slice xa x.body.length xc] 50 rfl
        have one : Hid (As (W.alloc (.cells #[.int .i64 (x.tag : Int), .slice xa x.body.length xc] 50)) w2.heap.size (.slice (some ⟨W.heap.size, 0, none⟩) 1 1) [arI x]) := As.one (arI x) _ (V2.out.up b4.out) W.heap.size (Kn.get k3.out 0 0 rfl rfl) (Kn.get k3.out 0 1 rfl rfl)
        clear s2 ok2 b3 V2 k3 ba
        go_wp2_with (first | refine wp_buildAt rfl _ _ rfl (x.tag : Int) _ _ _ rfl rfl ?_ | refine wp_bsA rfl _ rfl (x.tag : Int) _ _ _ rfl ?_ | refine wp_appA rfl _ _ rfl w2.heap.size _ _ ((l.take j).map arI) [arI x] rfl ok3.out rfl one.out (by rw [List.length_map, List.length_take]; have := HN.out; simp only [List.length_cons, List.length_nil]; omega) b4.out.size ?_)
        intro v4 w4 o4 hg4
        have ok4 : Hid (Oa w4 w2.heap.size v4 ((l.take (j + 1)).map arI)) := by rw [et.out, List.map_take]; exact o4
        have b5 : Hid (Below w2.heap.size w2 w4) := Below.grown b4.out hg4 b4.out.size fun g hg => ok3.out.ge g hg
        clear u0 u1 wt ok3 one b4 o4 hg4 et
        go_wp2_with fail
        go_roundw
        case rel => exact ⟨j + 1, HJ.out, by go_num, ok4, b5⟩
        case measure => simp [intOf]; have := HJ.out; omega
      · have i1 : ¬ (j : Int) < (n : Int) := by omega
        have e : (l.take j).map arI = L := by rw [List.take_of_length_le (by have := HN.out.1; omega)]; exact HN.out.2.2
        rw [e] at ok
        have b4 : Hid (Below w.heap.size w wr) := b2.out.trans (bk.out.mono b2.out.size)
        have L4 : Hid (Ats wr u6 L) := ok.out.ats
        clear hlt hj e ok bk U2 b2
        go_wp2_with fail
        by_cases h0 : fltA L = 0
        · have S2 := fun u v W a c => S1 u v W a c h0
          have hu : unL L = if riseB L = true then (0, L) else (1, []) := by unfold unL; rw [if_pos h0]
          rw [h0] at F1
          have HR2 : Hid ((if riseB L = true then (0, L) else (1, [])) = (g, M)) := hu.symm.trans HR.out
          clear hu h0 S1 HR
          refine (F1 _ wr L4.out).mono ?_
          rintro e w5 ⟨rfl, hb⟩
          have b5 : Hid (Below w.heap.size w w5) := b4.out.trans (hb.mono b4.out.size)
          have L5 : Hid (Ats w5 u6 L) := L4.out.up hb (Nat.le_refl _)
          clear hb b4 L4 F1
          go_wp2_with fail
          refine (C1 _ w5 L5.out).mono ?_
          rintro e w6 ⟨rfl, hb⟩
          have b6 : Hid (Below w.heap.size w w6) := b5.out.trans (hb.mono b5.out.size)
          have L6 : Hid (Ats w6 u6 L) := L5.out.up hb (Nat.le_refl _)
          clear hb b5 L5 C1
          generalize (crdC (crdF L)).toArray = cc at *
          go_wp2_with fail
          refine (A1 w6).mono ?_
          rintro e w7 ⟨⟨p, rfl, hp⟩, hb⟩
          have b7 : Hid (Below w.heap.size w w7) := b6.out.trans (hb.mono b6.out.size)
          have L7 : Hid (Ats w7 u6 L) := L6.out.up hb (Nat.le_refl _)
          have P7 : Hid (Ats w7 p (risA L)) := hp
          clear hb b6 L6 A1 hp
          go_wp2_with fail
          refine (S2 u6 p w7 L7.out P7.out).mono ?_
          rintro e w8 ⟨rfl, hb⟩
          have b8 : Hid (Below w.heap.size w w8) := b7.out.trans (hb.mono b7.out.size)
          have L8 : Hid (Ats w8 u6 L) := L7.out.up hb (Nat.le_refl _)
          clear hb b7 L7 P7 S2
          cases hrb : riseB L with
          | true =>
            have h3 := HR2.out
            rw [hrb, if_pos rfl] at h3
            obtain ⟨e1, e2⟩ : Hid (0 = g) ∧ Hid (L = M) := Prod.mk.inj h3
            clear h3 hrb
            go_wp2_with fail
            go_ret2
            exact ⟨⟨_, by rw [← e1.out]; rfl, by rw [← e2.out]; exact L8.out⟩, b8.out⟩
          | false =>
            have h3 := HR2.out
            rw [hrb, if_neg (by decide)] at h3
            obtain ⟨e1, e2⟩ : Hid (1 = g) ∧ Hid ([] = M) := Prod.mk.inj h3
            clear h3 hrb
            go_wp2_with fail
            go_ret2
            exact ⟨⟨_, by rw [← e1.out]; rfl, by rw [← e2.out]; exact Ats.nil _⟩, b8.out⟩
        · have hu : unL L = (fltA L, []) := by unfold unL; rw [if_neg h0]
          have HR2 : Hid (fltA L = g ∧ [] = M) := Prod.mk.inj (hu.symm.trans HR.out)
          rw [HR2.out.1] at F1 h0
          have f1 : ((g : Int) != 0) = true := bne_iff_ne.2 (by omega)
          clear hu h0 S1 C1 A1 HR
          refine (F1 _ wr L4.out).mono ?_
          rintro e w5 ⟨rfl, hb⟩
          have b5 : Hid (Below w.heap.size w w5) := b4.out.trans (hb.mono b4.out.size)
          have L5 : Hid (Ats w5 u6 L) := L4.out.up hb (Nat.le_refl _)
          clear hb b4 L4 F1
          go_wp2_with fail
          go_ret2
          exact ⟨⟨_, rfl, by rw [← HR2.out.2]; exact Ats.nil _⟩, b5.out⟩
  · have f1 : ((f : Int) != 0) = true := bne_iff_ne.2 (by omega)
    rw [if_neg hf] at hr
    obtain ⟨e1, e2⟩ : Hid (f = g) ∧ Hid ([] = M) := Prod.mk.inj hr
    clear hf F1 C1 A1 S1 hr
    go_wp2_with fail
    go_ret2
    exact ⟨⟨_, by rw [← e1.out]; rfl, by rw [← e2.out]; exact Ats.nil _⟩, b2.out⟩
/-- UnpackedAttrs as the document has it. -/
theorem unpacked_fun (b : List Nat) (low : ∀ x ∈ b, x < 256) (w : World) : Calls Try.prog 23 #[.string (sOf b)] w fun e w' => (∃ u, e = .returned (.tuple #[u, .int .i64 (((unpA b).1 : Nat) : Int)]) ∧ Ats w' u (unpA b).2) ∧ Below w.heap.size w w' := by
  rw [unpA_read]
  have sm := readR_small b low
  have ll : ((readR b).2.map arI).length ≤ 200 := by rw [List.length_map]; exact sm.1
  have lo : ∀ x ∈ (readR b).2.map arI, lowB x.v := fun x hx => by
    obtain ⟨y, hy, rfl⟩ := List.mem_map.1 hx
    exact (sm.2 y hy).2
  refine unpacked_walk (sOf b) (readR b).1 (readR b).2 _ rfl w sm.1 (fun x hx => (sm.2 x hx).1) _ _ rfl (fun W => readItems_any b low W) (fun v W h => attrsFault_fun v _ W h) (fun v W h => cardOf_fun _ (by omega) v W h) (fun W => attrs_fun _ lo W) (fun u v W h1 h2 h0 => ?_)
  have hg := ((fltA_zero _).1 h0).2
  refine (sameR_fun _ _ (by omega) lo (fun x hx => ?_) u v W h1 h2).mono fun e w' ⟨⟨t, he, ht⟩, hb⟩ => ⟨?_, hb⟩
  · obtain ⟨y, hy, _, e⟩ := getA_mem (risA_mem.1 hx).2
    rw [← e]
    exact lo y hy
  · rw [he]
    have : t = riseB ((readR b).2.map arI) := Bool.eq_iff_iff.2 (ht.trans (rise_iff hg).symm)
    rw [this]
end Go.Proofs.Ytohliojdmmbcdaa
