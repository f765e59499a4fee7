/- A log in memory: what it keeps; the contracts of tree.Log.has, Len, Peaks. -/
import Derived.Test.YtmpniingbioggaaDoorTRoot
namespace Go.Proofs.YtmpniingbioggaaDoor
open Go.RowKit
set_option linter.unusedSimpArgs false
abbrev z32 : List Nat := List.replicate 32 0
/-- What a log of these leaves keeps, the first b of it taken out. -/
def lgQ (ls : List (List Nat)) (b : Nat) : List (List Nat) := T.logQ nodeS (sumS []) z32 (ls.map leafS) b
def lgC (ps : List (List Nat)) (n : Nat) : List Value := ps.flatten.map b8 ++ [.int .i64 (n : Int)]
theorem lgQ_length (ls : List (List Nat)) (b : Nat) : (lgQ ls b).length = 17 := T.logQ_length _ _ _ _ _
theorem pk_low (ls : List (List Nat)) (c : Nat) : (T.pk nodeS (sumS []) (ls.map leafS) c).length = 32 ∧ ∀ x ∈ T.pk nodeS (sumS []) (ls.map leafS) c, x < 256 :=
  T.top_all (P := fun d => d.length = 32 ∧ ∀ x ∈ d, x < 256) nodeS (sumS []) nodeS_low ⟨sumS_length _, sumS_low _⟩ (fun x hx => by
    have : x ∈ ls.map leafS := List.mem_of_mem_drop (List.mem_of_mem_take hx)
    exact Dlow.leaves ls x this)
theorem lgQ_low (ls : List (List Nat)) (b : Nat) : Dlow (lgQ ls b) := by
  intro d hd
  unfold lgQ T.logQ at hd
  obtain ⟨c, _, rfl⟩ := List.mem_map.1 hd
  split
  · exact ⟨by simp, low_rep 32⟩
  · split
    · exact pk_low ls c
    · exact ⟨by simp, low_rep 32⟩
theorem lgQ_at {ls : List (List Nat)} {b c : Nat} (hc : c < 17) (hb : b ≤ c) (hbit : ls.length / 2 ^ c % 2 = 1) : (lgQ ls b).getD c [] = T.pk nodeS (sumS []) (ls.map leafS) c := by
  rw [lgQ, List.getD_eq_getElem?_getD, T.logQ_at nodeS (sumS []) z32 hc, if_neg (by omega), List.length_map, if_pos hbit]
  rfl
theorem flat_len {ps : List (List Nat)} (h : Dok ps) : ps.flatten.length = ps.length * 32 := by
  induction ps with
  | nil => rfl
  | cons p ps ih =>
    rw [List.flatten_cons, List.length_append, ih (fun x hx => h x (by simp [hx])), h p (by simp), List.length_cons]
    omega
theorem lgC_split {ps : List (List Nat)} {n c : Nat} (hc : c < ps.length) : lgC ps n = (ps.take c).flatten.map b8 ++ ((ps.getD c []).map b8 ++ ((ps.drop (c + 1)).flatten.map b8 ++ [.int .i64 (n : Int)])) := by
  have e : ps = ps.take c ++ (ps.getD c [] :: ps.drop (c + 1)) := by
    conv => lhs; rw [← List.take_append_drop c ps]
    congr 1
    rw [List.drop_eq_getElem_cons hc, List.getD_eq_getElem?_getD, List.getElem?_eq_getElem hc]
    rfl
  unfold lgC
  conv => lhs; rw [e]
  simp [List.flatten_append, List.map_append, List.append_assoc]
theorem take_flat_len {ps : List (List Nat)} (h : Dok ps) {c : Nat} (hc : c ≤ ps.length) : ((ps.take c).flatten.map b8).length = c * 32 := by
  rw [List.length_map, flat_len (fun x hx => h x (List.mem_of_mem_take hx)), List.length_take]
  congr 1
  omega
/-- A log of these leaves lies in block k. -/
def LgAt (w : World) (k : Nat) (ls : List (List Nat)) : Prop := Blk w k (lgC (lgQ ls 0) ls.length)
theorem LgAt.up {W w1 : World} {k B : Nat} {ls : List (List Nat)} (h : LgAt W k ls) (hb : Below B W w1) (hB : k < B) : LgAt w1 k ls := Blk.up h hb hB
theorem LgAt.lt {W : World} {k : Nat} {ls : List (List Nat)} (h : LgAt W k ls) : k < W.heap.size := Blk.lt h
theorem lg_range {w : World} {k n c : Nat} {ps : List (List Nat)} (h : Blk w k (lgC ps n)) (hp : Dok ps) (hc : c < ps.length) : w.rangeAt k (c * 32) ((ps.getD c []).map b8) := by
  rw [lgC_split hc] at h
  exact h.range (take_flat_len hp (by omega)).symm
theorem lg_count {w : World} {k n : Nat} {ps : List (List Nat)} (h : Blk w k (lgC ps n)) (hp : Dok ps) (hl : ps.length = 17) : w.cell? ⟨k, 544, none⟩ = some (.int .i64 (n : Int)) := by
  refine h.cell 544 _ ?_
  have : (ps.flatten.map b8).length = 544 := by rw [List.length_map, flat_len hp, hl]
  unfold lgC
  rw [List.getElem?_append_right (by omega), this]
  rfl
theorem bit_test (n b : Nat) (hn : n ≤ 65536) : (bits BinOp.and IntKind.i64 ((n : Int) / 2 ^ b) 1 == 1) = decide (n / 2 ^ b % 2 = 1) := by
  have e : ((n : Int) / 2 ^ b) = ((n / 2 ^ b : Nat) : Int) := by simp
  have hl : n / 2 ^ b ≤ n := Nat.div_le_self _ _
  have := i64_and (n / 2 ^ b) 1 (by omega) (by decide)
  rw [show ((1 : Nat) : Int) = 1 from rfl] at this
  rw [e, this, Nat.and_one_is_mod]
  by_cases h : n / 2 ^ b % 2 = 1
  · simp [h]
  · rw [decide_eq_false h, show n / 2 ^ b % 2 = 0 by omega]
    rfl
set_option maxRecDepth 20000 in
set_option maxHeartbeats 1000000 in
theorem has_fun (k n b : Nat) (hb : b < 64) (hn : n ≤ 65536) (w : World) (hc : w.cell? ⟨k, 544, none⟩ = some (.int .i64 (n : Int))) :
    Calls Tryd.prog 37 #[.pointer (some ⟨k, 0, none⟩), .int .i64 (b : Int)] w fun e w' => e = .returned (.bool (decide (n / 2 ^ b % 2 = 1))) ∧ w' = w := by
  have B := bit_test n b hn
  go_enter Tryd.func37, Tryd.ntmps37
  go_wp2_with fail
  go_ret
  exact ⟨congrArg Ending.returned (congrArg Value.bool (by first | exact B | rfl)), rfl⟩
theorem len_fun (k n : Nat) (w : World) (hc : w.cell? ⟨k, 544, none⟩ = some (.int .i64 (n : Int))) :
    Calls Tryd.prog 20 #[.pointer (some ⟨k, 0, none⟩)] w fun e w' => e = .returned (.int .i64 (n : Int)) ∧ w' = w := by
  go_enter Tryd.func20, Tryd.ntmps20
  go_wp2_with fail
  go_ret
  exact ⟨rfl, rfl⟩
theorem peaksS_17 {ls : List (List Nat)} (h : ls.length < 131072) : T.peaksF nodeS (sumS []) 17 (T.restL 17 (ls.map leafS)) = peaksS ls := by
  rw [T.restL_all (by rw [List.length_map]; exact h)]
  exact (T.peaksF_more nodeS (sumS []) 17 4 (by rw [List.length_map]; exact h)).symm
theorem peaksS_len (ls : List (List Nat)) (K : Nat) : (T.peaksF nodeS (sumS []) K (T.restL K (ls.map leafS))).length ≤ K := by
  induction K with
  | zero => simp [T.peaksF]
  | succ K ih =>
    rw [T.peaks_step, List.length_append]
    split
    · rw [List.length_singleton]; omega
    · rw [List.length_nil]; omega
set_option maxRecDepth 20000 in
set_option maxHeartbeats 4000000 in
theorem peaks_fun (k : Nat) (ls : List (List Nat)) (zl : ls.length ≤ 65536) (w : World) (hk : LgAt w k ls) :
    Calls Tryd.prog 22 #[.pointer (some ⟨k, 0, none⟩)] w fun e w' => (∃ v', e = .returned v' ∧ Od w' w.heap.size v' (peaksS ls)) ∧ Below w.heap.size w w' := by
  have CE := lg_count hk (lgQ_low ls 0).ok (lgQ_length ls 0)
  have HR : Hid (∀ c, c < 17 → ls.length / 2 ^ c % 2 = 1 → w.rangeAt k (c * 32) ((T.pk nodeS (sumS []) (ls.map leafS) c).map b8)) := fun c hc hb => by
    rw [← lgQ_at (b := 0) hc (Nat.zero_le _) hb]
    exact lg_range hk (lgQ_low ls 0).ok (by rw [lgQ_length]; exact hc)
  have TG : Hid ([] ++ T.peaksF nodeS (sumS []) 17 (T.restL 17 (ls.map leafS)) = peaksS ls) := by
    rw [List.nil_append]
    exact peaksS_17 (by omega)
  have ST : Hid (∀ K, T.peaksF nodeS (sumS []) (K + 1) (T.restL (K + 1) (ls.map leafS)) = (if ls.length / 2 ^ K % 2 = 1 then [T.pk nodeS (sumS []) (ls.map leafS) K] else []) ++ T.peaksF nodeS (sumS []) K (T.restL K (ls.map leafS))) := fun K => by
    have := T.peaks_step nodeS (sumS []) K (ls.map leafS)
    rw [List.length_map] at this
    exact this
  have PL : Hid (∀ c, (T.pk nodeS (sumS []) (ls.map leafS) c).length = 32) := fun c => (pk_low ls c).1
  have HF : Hid (∀ b W, b < 64 → Below w.heap.size w W → Calls Tryd.prog 37 #[.pointer (some ⟨k, 0, none⟩), .int .i64 ((b : Nat) : Int)] W fun e w' => e = .returned (.bool (decide (ls.length / 2 ^ b % 2 = 1))) ∧ w' = W) := fun b W hb hW => has_fun k ls.length b hb zl W ((hW.cell (p := ⟨k, 544, none⟩) hk.lt).trans CE)
  have KL : Hid (k < w.heap.size) := hk.lt
  clear hk CE zl
  generalize peaksS ls = target at *
  go_enter Tryd.func22, Tryd.ntmps22
  go_wp2_with fail
  go_loopw [3, 4] (fun s i wr => ∃ (K : Nat) (out : List (List Nat)), K ≤ 17 ∧ i = .int .i64 ((K : Int) - 1) ∧ Hid (Od wr w.heap.size s out) ∧ Hid (out.length + K ≤ 17) ∧ Hid (out ++ T.peaksF nodeS (sumS []) K (T.restL K (ls.map leafS)) = target) ∧ Hid (Below w.heap.size w wr)) (fun _ i _ => (intOf i + 1).toNat)
  case atStart => exact ⟨17, [], by omega, rfl, Od.nil _ _, (by decide : 0 + 17 ≤ 17), TG, Below.refl _ _⟩
  case round =>
    clear TG
    obtain ⟨K, out, hK, rfl, oo, ol, tg, hb⟩ := hrel
    cases K with
    | zero =>
      have RS : Hid (out = target) := by
        have h := tg.out
        rw [T.peaksF, List.append_nil] at h
        exact h
      rw [RS.out] at oo
      clear tg ol RS
      go_wp2_with fail
      go_ret
      exact ⟨⟨_, rfl, oo.out⟩, hb.out⟩
    | succ K =>
      have tg1 := tg.out
      rw [ST.out K] at tg1
      have e1 : ((K + 1 : Nat) : Int) - 1 = (K : Int) := by omega
      rw [e1]
      have HK : Hid _ := HF.out K wr (by omega) hb.out
      have k17 : (K : Int) < 17 := by omega
      have k0 : (0 : Int) ≤ (K : Int) := by omega
      have wk : IntKind.i64.wrap ((K : Int) - 1) = (K : Int) - 1 := by rw [IntKind.wrap_i64]; omega
      have OK : Hid (out.length + (K + 1) ≤ 17) := ol.out
      have HK1 : Hid (K + 1 ≤ 17) := hK
      by_cases hbit : ls.length / 2 ^ K % 2 = 1
      · rw [if_pos hbit, ← List.append_assoc] at tg1
        have TG : Hid _ := tg1
        have RK : Hid (wr.rangeAt k (K * 32) ((T.pk nodeS (sumS []) (ls.map leafS) K).map b8)) := range_up (HR.out K (by omega) hbit) hb.out (Nat.le_refl _)
        have RL : Hid _ := PL.out K
        rw [decide_eq_true hbit] at HK
        have I0 : Hid _ := info_d32.trans (congrArg some (show 32 = ((T.pk nodeS (sumS []) (ls.map leafS) K).map b8).length by rw [List.length_map, RL.out]))
        have OL : Hid (out.length + 1 ≤ 4398046511103) := (by have := ol.out; omega : out.length + 1 ≤ 4398046511103)
        generalize T.pk nodeS (sumS []) (ls.map leafS) K = pk at *
        clear tg tg1 hbit hK ol e1 HR ST PL
        go_wp2_with fail
        refine Calls.mono HK.out ?_
        rintro e w1 ⟨rfl, hw1⟩
        have hw1 := hw1.symm
        subst hw1
        clear HK
        go_wp2_with (first | (refine wp_ldD rfl (.tmp 17) rfl k (K * 32) rfl pk RK.out RL.out ?_) | (refine wp_bsD rfl (.tmp 18) rfl pk RL.out rfl ?_))
        intro w7 cc7 hb7
        have B7 : Hid (Below wr.heap.size wr w7) := hb7
        have C7 : Hid (w7.rangeAt wr.heap.size 0 (pk.map b8)) := cc7
        clear cc7 hb7 RK
        go_wp2_with (refine wp_appD rfl (.tmp 12) (.tmp 19) rfl w.heap.size _ out wr _ pk rfl oo.out B7.out rfl C7.out RL.out OL.out hb.out.size ?_)
        intro v8 w8 o8 hb8 _
        have O8 : Hid (Od w8 w.heap.size v8 (out ++ [pk])) := o8
        have D8 : Hid (Below w.heap.size w w8) := hb.out.trans hb8
        clear o8 hb8 B7 C7 oo hb
        go_wp2_with fail
        go_roundw
        case rel =>
          have hkk := HK1.out
          exact ⟨K, out ++ [pk], by omega, by first | rfl | go_num, O8, (by have := OK.out; rw [List.length_append, List.length_singleton]; omega : (out ++ [pk]).length + K ≤ 17), TG, D8⟩
        case measure =>
          simp [intOf]
      · rw [if_neg hbit, List.nil_append] at tg1
        have TG : Hid _ := tg1
        rw [decide_eq_false hbit] at HK
        clear tg tg1 hbit hK ol e1 HR ST PL
        go_wp2_with fail
        refine Calls.mono HK.out ?_
        rintro e w1 ⟨rfl, hw1⟩
        have hw1 := hw1.symm
        subst hw1
        clear HK
        go_wp2_with fail
        go_roundw
        case rel =>
          have hkk := HK1.out
          exact ⟨K, out, by omega, by first | rfl | go_num, oo, (by have := OK.out; omega : out.length + K ≤ 17), TG, hb⟩
        case measure =>
          simp [intOf]
end Go.Proofs.YtmpniingbioggaaDoor
