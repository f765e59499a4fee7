/- The contract of mode.padded. -/
import Derived.Test.YtmfbdacalenfdaaMoOn
namespace Go.Proofs.Ytmfbdacalenfdaa
open Go.RowKit
set_option linter.unusedSimpArgs false
attribute [local go_sem] YieldsP execOp
attribute [local simp] MP.eq_p
/-- copy of a whole text to the front of a row that has room; there may be nothing to copy. -/
theorem wp_copyAll {ops : Array Oper} {rest : List Oper} {o : Oper} {act : Act} {Q : Exit → Act → World → Prop} {w : World} (hgd : o.guard = none) (d s : Operand)
    (ho : o.op = .call { callee := .builtin .copy, args := #[d, s], argTypes := #[22, 22] }) (b dl dc : Nat) (a : Option Addr) (n c : Nat) (xs : List Nat) (hd : act.eval d = .slice (some ⟨b, 0, none⟩) dl dc) (hs : act.eval s = .slice a n c) (hn : n = xs.length) (hb : By w (.slice a n c) xs)
    (hl : xs.length ≤ dl) (ht : w.there b 0 xs.length)
    (h : ∀ w2, Hid (w2 = w.setCells b 0 (xs.map b8)) → wpList Try.prog ops Q rest (act.put o.dst (.int .i64 ((n : Nat) : Int))) w2) : wpList Try.prog ops Q (o :: rest) act w := by
  subst hn
  rcases Nat.eq_zero_or_pos xs.length with h0 | h0
  · refine wpList_plain hgd fun K hK => ?_
    have hrun := run_copy_none (P := Try.prog) w 22 22 o.type 5 (some ⟨b, 0, none⟩) a dl dc xs.length c Try.uBytes gi_u8 (by rw [h0]; exact Nat.zero_min _)
    unfold Oper.wp
    simp [execOp, ho, resolve, invoke, builtin, hd, hs, hrun, Result.andThen]
    have e : xs = [] := List.length_eq_zero_iff.1 h0
    have hw : w = w.setCells b 0 (xs.map b8) := by rw [e]; rfl
    have := h w hw
    rw [h0] at this
    exact hK _ _ this
  · obtain ⟨g, q, rfl, _, hr⟩ := hb.range h0
    exact wp_copyR hgd d s ho b 0 dl dc g q xs.length c xs hd hs (Nat.min_eq_left hl).symm hr ht h
set_option maxRecDepth 20000 in
set_option maxHeartbeats 1000000 in
theorem mpadd_fun (p : List Nat) (zp : p.length ≤ 140737488351248) (v : Value) (w : World) (hv : By w v p) : Calls Try.prog 43 #[v] w fun e w' => ∃ g, e = .returned (.slice (some ⟨g, 0, none⟩) (A.padS p).length (A.padS p).length) ∧ w.heap.size ≤ g ∧ RowB w' g 5 (A.padS p) ∧ Below w.heap.size w w' := by
  obtain ⟨va, vc, rfl⟩ := hv.len
  obtain ⟨n, hn⟩ : ∃ n, n = A.padN p := ⟨_, rfl⟩
  have NP := A.padN_pos p
  have FIN : Hid (A.padT p n n = A.padS p) := by rw [hn]; exact A.padT_all p
  have TS : Hid (∀ t, t < n → (A.padT p n t).set (p.length + t) n = A.padT p n (t + 1)) := fun t h => A.padT_set p h
  have TL : Hid (∀ t, t ≤ n → (A.padT p n t).length = p.length + n) := fun t h => A.padT_length p h
  have T0 : Hid (A.padT p n 0 = p ++ List.replicate n 0) := rfl
  have PL : Hid ((A.padS p).length = p.length + n) := by rw [← FIN.out]; exact A.padT_length p (Nat.le_refl _)
  have nm : n = 16 - p.length % 16 := hn
  rw [← hn] at NP
  rw [PL.out]
  have HV : Hid (By w (.slice va p.length vc) p) := hv
  have ZP : Hid (p.length ≤ 140737488351248) := zp
  have BZ : Hid (∀ W, Below w.heap.size w W → By W (.slice va p.length vc) p) := fun W hW => hv.up hW (Nat.le_refl _)
  obtain ⟨L, hL⟩ : ∃ L, L = p.length := ⟨_, rfl⟩
  have HL : Hid (L = p.length) := hL
  rw [← hL] at nm TS TL PL ZP BZ HV ⊢
  obtain ⟨rm, hrm⟩ : ∃ rm, rm = L % 16 := ⟨_, rfl⟩
  have m1 : (L : Int).tmod 16 = (rm : Int) := by rw [Int.tmod_eq_emod_of_nonneg (by omega)]; omega
  have m2 : (L : Int) % 16 = (rm : Int) := by omega
  have s1 : IntKind.i64.wrap (16 - (rm : Int)) = (n : Int) := by rw [IntKind.wrap_i64]; omega
  have n8 : IntKind.u8.wrap (n : Int) = (n : Int) := by rw [IntKind.wrap_u8]; omega
  obtain ⟨M, hM⟩ : ∃ M, M = L + n := ⟨_, rfl⟩
  have HM : Hid (M = L + n) := hM
  have zp' := ZP.out
  have s2 : IntKind.i64.wrap ((L : Int) + (n : Int)) = (M : Int) := by rw [IntKind.wrap_i64]; omega
  have NB : Hid (1 ≤ n ∧ n ≤ 16) := NP
  rw [← hM] at TL ⊢
  clear hn nm hrm hv zp hL hM NP zp' PL
  go_enter Try.func43, Try.ntmps43
  go_wp2_with (refine wp_mkB rfl (.tmp 13) (.tmp 13) rfl w.heap.size M (M : Int) (M : Int) rfl rfl rfl rfl (by have h1 := ZP.out; have h2 := HM.out; have h3 := NB.out; omega) (Nat.le_refl _) ?_)
  intro w1 k1 hb1
  have K1 : Hid (RowB w1 w.heap.size 5 (List.replicate M 0)) := k1.row (by rw [List.length_replicate])
  have B1 : Hid (Below w.heap.size w w1) := hb1
  have Y1 : Hid (By w1 (.slice va L vc) p) := BZ.out w1 hb1
  have TH : Hid (w1.there w.heap.size 0 p.length) := K1.out.blk.there (by rw [List.length_map, List.length_replicate, HM.out, HL.out]; omega)
  clear k1 hb1
  go_wp2_with (refine wp_copyAll rfl (.tmp 15) (.tmp 16) rfl w.heap.size M M va L vc p rfl rfl HL.out Y1.out (by rw [HM.out, HL.out]; omega) TH.out ?_)
  intro w2 hw2
  have K2 : Hid (RowB w2 w.heap.size 5 (A.padT p n 0)) := by
    rw [hw2.out, T0.out]
    have e : List.replicate M 0 = [] ++ (List.replicate p.length 0 ++ List.replicate n 0) := by rw [List.nil_append, List.replicate_append_replicate, HM.out, HL.out]
    have h1 := K1.out
    rw [e] at h1
    have := h1.put (b' := p) (o := 0) rfl (by rw [List.length_replicate])
    exact this
  have B2 : Hid (Below w.heap.size w w2) := by rw [hw2.out]; exact below_setCells _ _ _ B1.out (Nat.le_refl _)
  clear hw2 K1 B1 Y1 TH
  go_wp2_with fail
  go_loopw [5] (fun i wr => ∃ t : Nat, t ≤ n ∧ i = .int .i64 ((L + t : Nat) : Int) ∧ Hid (RowB wr w.heap.size 5 (A.padT p n t)) ∧ Hid (Below w.heap.size w wr)) (fun i _ => M - (intOf i).toNat)
  case atStart => exact ⟨0, by omega, rfl, K2, B2⟩
  case round =>
    clear K2 B2
    obtain ⟨t, ht, rfl, K2, B2⟩ := hrel
    obtain ⟨i, hi⟩ : ∃ i, i = L + t := ⟨_, rfl⟩
    rw [← hi]
    have HI : Hid (i = L + t) := hi
    have hm := HM.out
    have zp' := ZP.out
    by_cases ht1 : t < n
    · have t1 : (i : Int) < (M : Int) := by omega
      have i0 : (0 : Int) ≤ (i : Int) := by omega
      have iN : i < M := by omega
      have wi : IntKind.i64.wrap ((i : Int) + 1) = (i : Int) + 1 := by have := NB.out; rw [IntKind.wrap_i64]; omega
      have c1 := K2.out.blk.byte i (by rw [TL.out t ht]; omega)
      have f1 := K2.out.blk.fz i
      have V0 : Hid (RowB (wr.setCell ⟨w.heap.size, i, none⟩ (b8 n)) w.heap.size 5 (A.padT p n (t + 1))) := by
        rw [← TS.out t ht1, ← hi]
        exact K2.out.setB i n
      have V1 : Hid _ := B2.out.setCell (p := ⟨w.heap.size, i, none⟩) (Nat.le_refl _) (b8 n)
      have T1 : Hid (t < n) := ht1
      generalize (A.padT p n t).getD i 0 = ox at *
      clear hi ht ht1 K2 B2 hm zp'
      go_wp2_with fail
      go_roundw
      case rel => exact ⟨t + 1, T1.out, by rw [show L + (t + 1) = i + 1 by have := HI.out; omega]; first | rfl | go_num, V0, V1⟩
      case measure => have h1 := HI.out; have h2 := HM.out; have h3 := T1.out; simp [intOf]; omega
    · obtain rfl : t = n := by omega
      have t1 : ¬ (i : Int) < (M : Int) := by omega
      rw [FIN.out] at K2
      clear hi ht ht1 hm zp'
      go_wp2_with fail
      go_ret
      exact ⟨w.heap.size, rfl, Nat.le_refl _, K2.out, B2.out⟩
end Go.Proofs.Ytmfbdacalenfdaa
