/- The contract of der.Read. -/
import Derived.Test.YtohliojdmmbcdabQDerRd
namespace Go.Proofs.Ytohliojdmmbcdab
open Go.RowKit
set_option linter.unusedSimpArgs false
def lenVb : Value → Nat
  | .slice _ n _ => n
  | _ => 0
theorem By.drop {w : World} {bk o c s : Nat} {b : List Nat} (h : ∀ j, j < b.length → w.cell? ⟨bk, o + j, none⟩ = some (b8 (b.getD j 0))) (hl : s ≤ b.length) (hc : b.length ≤ c) (A : Option Addr) (hA : A = if c = s then some ⟨bk, o, none⟩ else some ⟨bk, o + s, none⟩) : By w (.slice A (b.length - s) (c - s)) (b.drop s) := by
  have := By.mid (n := b.length - s) h (by omega) hc A hA
  rwa [List.take_of_length_le (by simp)] at this
/-- What Read answers. -/
def ReadIs (b : List Nat) (B : Nat) (e : Ending) (w' : World) : Prop :=
  (∃ n, (n = 2 ∨ n = 3 ∨ n = 4) ∧ readS 200 b = .inl n ∧ e = .returned (.tuple #[.slice none 0 0, i64 n])) ∨
  (∃ l u, readS 200 b = .inr l ∧ e = .returned (.tuple #[u, i64 0]) ∧ Oi w' B u l)
set_option maxRecDepth 20000 in
set_option maxHeartbeats 4000000 in
theorem read_some (v : Value) (b0 : List Nat) (low : ∀ x ∈ b0, x < 256) (hm : b0.length ≤ 65536) (w : World) (h : By w v b0) :
    Calls Try.prog 7 #[v] w fun e w' => ReadIs b0 w.heap.size e w' ∧ Below w.heap.size w w' := by
  obtain ⟨a, c, rfl, _⟩ := id h
  have H : Hid (By w _ b0) := h
  have LO : Hid (∀ x ∈ b0, x < 256) := low
  have m1 : ¬ (b0.length : Int) > 65536 := by omega
  clear h low hm
  go_enter Try.func7, Try.ntmps7
  go_wp2_with fail
  go_loopw [0, 4] (fun bv lv wr => ∃ (b : List Nat) (l : List It), l.length ≤ 200 ∧ Hid (By w bv b) ∧ Hid (∀ x ∈ b, x < 256) ∧ Hid (readS 200 b0 = joinS l (readS (200 - l.length) b)) ∧ Hid (Oi wr w.heap.size lv l) ∧ Hid (Below w.heap.size w wr)) (fun bv _ _ => lenVb bv)
  case atStart =>
    refine ⟨b0, [], by simp, H, LO, ?_, Oi.nil _ _, Below.refl _ _⟩
    have : readS 200 b0 = joinS [] (readS (200 - 0) b0) := by
      cases readS 200 b0 <;> rfl
    exact this
  case round =>
    clear H LO
    obtain ⟨b, l, hl, hbv, low, hr, ho, hb⟩ := hrel
    obtain ⟨ab, cb, rfl, hcb, _, hcell⟩ := id hbv.out
    obtain ⟨al, nl, cl, rfl⟩ : ∃ a n c, u4 = .slice a n c := by
      obtain ⟨a, c, e, _⟩ := ho.out.its
      exact ⟨a, _, c, e⟩
    have hnl : nl = l.length := by
      obtain ⟨a, c, e, _⟩ := ho.out.its
      cases e
      rfl
    subst hnl
    by_cases h0 : b.length = 0
    · have e : b = [] := List.length_eq_zero_iff.1 h0
      subst e
      have E : Hid (readS 200 b0 = .inr l) := by
        have := hr.out
        rw [readS, joinS, List.append_nil] at this
        exact this
      clear hcell hbv
      go_wp2_with fail
      go_ret2
      exact ⟨.inr ⟨l, _, E.out, rfl, ho.out⟩, hb.out⟩
    · have i0 : (b.length : Int) > 0 := by omega
      have ne : b ≠ [] := fun e => h0 (by rw [e]; rfl)
      by_cases h200 : l.length = 200
      · have E : Hid (readS 200 b0 = .inl 2) := by
          have := hr.out
          rw [h200] at this
          match b, ne with
          | x :: b, _ =>
            rw [readS] at this
            exact this
        clear hcell hbv
        rw [h200]
        go_wp2_with fail
        go_ret2
        exact ⟨.inl ⟨2, .inl rfl, E.out, rfl⟩, hb.out⟩
      · have i1 : ¬ (l.length : Int) = 200 := by omega
        have i2 : ((l.length : Int) == 200) = false := by simp [i1]
        obtain ⟨bk, o, rfl, hc⟩ := hcell (by omega)
        have HC : Hid _ := hc
        have e1 : 200 - l.length = (200 - (l.length + 1)) + 1 := by omega
        have HR : Hid (readS 200 b0 = joinS l (readS ((200 - (l.length + 1)) + 1) b)) := by
          have := hr.out
          rw [e1] at this
          exact this
        clear hcell hc hr e1 i1
        go_wp2_with fail
        refine (first_fun _ b low.out _ (hbv.out.up hb.out (Nat.le_refl _))).mono ?_
        rintro e w1 ⟨hf, hb1⟩
        have B1 : Hid (Below w.heap.size w w1) := hb.out.trans (hb1.mono hb.out.size)
        have O1 : Hid (Oi w1 w.heap.size (.slice al l.length cl) l) := ho.out.up hb1
        clear ho
        rcases hf with ⟨n, hn, rfl⟩ | ⟨x, n, u, hn, rfl, hu⟩
        · have n3 := firstS_inl low.out hn
          have E : Hid (readS 200 b0 = .inl n) := HR.out.trans (readS_err ne hn l)
          have N3 : Hid _ := n3
          have nz : ¬ (n : Int) = 0 := by omega
          clear hb hb1 hbv hn n3
          go_wp2_with fail
          go_ret2
          exact ⟨.inl ⟨n, N3.out, E.out, rfl⟩, B1.out.alloc B1.out.size _⟩
        · obtain ⟨n2, nle, _, _, _, _⟩ := firstS_inr low.out hn
          have E : Hid (readS 200 b0 = joinS (l ++ [x]) (readS (200 - (l.length + 1)) (b.drop n))) := HR.out.trans (readS_step ne hn l)
          have U1 : Hid (Bk w1 u x.body) := hu
          obtain ⟨au, cu, rfl⟩ := hu.1.len
          obtain ⟨A, hA⟩ : ∃ A, A = if cb = n then some (⟨bk, o, none⟩ : Addr) else some ⟨bk, o + n, none⟩ := ⟨_, rfl⟩
          have T : Hid (By w (.slice A (b.length - n) (cb - n)) (b.drop n)) := By.drop HC.out nle hcb A hA
          have LD : Hid (∀ y ∈ b.drop n, y < 256) := (fun y hy => low.out y (List.mem_of_mem_drop hy) : ∀ y ∈ b.drop n, y < 256)
          have hA2 := hA.symm
          have n1 : n ≤ cb := by omega
          clear hb hb1 hbv hn hA low HC hu HR
          go_wp2_with (at_builtin; refine wp_appI rfl _ _ rfl w.heap.size _ l x (.slice au x.body.length cu) (w1.heap.size + 1) w1 rfl O1.out (((Below.refl _ _).alloc (Nat.le_refl _) _).alloc (by simp) _) rfl ((cell_top (by simp)).trans (by simp)) ((cell_top (by simp)).trans (by simp)) (U1.out.up (((Below.refl _ _).alloc (Nat.le_refl _) _).alloc (by simp) _)) rfl (by omega) B1.out.size ?_)
          intro v2 w2 o2 g2 b2
          have O2 : Hid (Oi w2 w.heap.size v2 (l ++ [x])) := o2
          have B2 : Hid (Below w.heap.size w w2) := B1.out.trans b2
          clear o2 g2 b2 O1 U1 B1
          go_wp2_with fail
          go_roundw
          case rel =>
            refine ⟨b.drop n, l ++ [x], by simp; omega, T, LD, ?_, O2, B2⟩
            have := E.out
            have e : (l ++ [x]).length = l.length + 1 := by simp
            rw [e]
            exact this
          case measure => simp [lenVb]; omega
set_option maxHeartbeats 1000000 in
theorem read_large (a : Option Addr) (n c : Nat) (h : 65536 < n) (w : World) :
    Calls Try.prog 7 #[.slice a n c] w fun e w' => e = .returned (.tuple #[.slice none 0 0, i64 2]) ∧ Below w.heap.size w w' := by
  have i2 : (n : Int) > 65536 := by omega
  go_enter Try.func7, Try.ntmps7
  go_wp2_with fail
  go_ret2
  exact ⟨rfl, Below.refl _ _⟩
/-- der.Read: the items; or what is wrong. -/
theorem read_fun (v : Value) (b : List Nat) (low : ∀ x ∈ b, x < 256) (w : World) (h : By w v b) :
    Calls Try.prog 7 #[v] w fun e w' => ((b.length ≤ 65536 ∧ ReadIs b w.heap.size e w') ∨ (65536 < b.length ∧ e = .returned (.tuple #[.slice none 0 0, i64 2]))) ∧ Below w.heap.size w w' := by
  by_cases hb : b.length ≤ 65536
  · refine (read_some v b low hb w h).mono ?_
    rintro e w' ⟨h1, h2⟩
    exact ⟨.inl ⟨hb, h1⟩, h2⟩
  · obtain ⟨a, c, rfl, _⟩ := h
    refine (read_large a b.length c (by omega) w).mono ?_
    rintro e w' ⟨h1, h2⟩
    exact ⟨.inr ⟨by omega, h1⟩, h2⟩
/-- What is read is written as just those bytes. -/
theorem readS_one : ∀ (r : Nat) (b : List Nat) (l : List It), (∀ x ∈ b, x < 256) → readS r b = .inr l → texts l = b ∧ l.length ≤ r ∧ ∀ x ∈ l, x.body.length ≤ 4096 ∧ x.tag < 256 ∧ ∀ y ∈ x.body, y < 256
  | r, [], l, _, h => by
    have : l = [] := by
      cases r <;> (rw [readS] at h; exact (Sum.inr.inj h).symm)
    subst this
    exact ⟨rfl, by simp, by simp⟩
  | 0, x :: b, l, _, h => by rw [readS] at h; cases h
  | r + 1, x :: b, l, low, h => by
    rw [readS] at h
    cases hf : firstS (x :: b) with
    | inl e => rw [hf] at h; cases h
    | inr p =>
      obtain ⟨y, n⟩ := p
      rw [hf] at h
      simp only at h
      cases hr : readS r ((x :: b).drop n) with
      | inl e => rw [hr] at h; cases h
      | inr m =>
        rw [hr] at h
        obtain rfl : y :: m = l := Sum.inr.inj h
        obtain ⟨_, _, h3, h4, h5, h6⟩ := firstS_inr low hf
        obtain ⟨t1, t2, t3⟩ := readS_one r _ m (fun z hz => low z (List.mem_of_mem_drop hz)) hr
        refine ⟨?_, by simp; omega, fun z hz => ?_⟩
        · have e : texts (y :: m) = y.text ++ texts m := by simp [texts]
          rw [e, h4, t1, List.take_append_drop]
        · rcases List.mem_cons.1 hz with rfl | hz
          · exact ⟨h3, h5, h6⟩
          · exact t3 z hz
end Go.Proofs.Ytohliojdmmbcdab
