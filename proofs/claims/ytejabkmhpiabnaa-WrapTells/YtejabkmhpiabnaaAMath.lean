/- Blocks under a key, as functions of lists: words of a key, rounds there and back. -/
import Derived.Test.YtejabkmhpiabnaaGMix
namespace Go.Proofs.Ytejabkmhpiabnaa.A
/-- So many bytes. -/
def ok (n : Nat) (l : List Nat) : Prop := l.length = n ∧ ∀ x ∈ l, x < 256
theorem ok.at {n : Nat} {l : List Nat} (h : ok n l) (i : Nat) : l.getD i 0 < 256 := by
  rw [List.getD_eq_getElem?_getD]
  cases e : l[i]? with
  | none => simp
  | some x => exact h.2 x (List.mem_of_getElem? e)
/-- A list told by its places. -/
def by_ (n : Nat) (f : Nat → Nat) : List Nat := (List.range n).map f
theorem by_length (n : Nat) (f : Nat → Nat) : (by_ n f).length = n := by simp [by_]
theorem by_get {n : Nat} {f : Nat → Nat} {i : Nat} (h : i < n) : (by_ n f).getD i 0 = f i := by simp [by_, List.getD_eq_getElem?_getD, h]
theorem by_ok {n : Nat} {f : Nat → Nat} (h : ∀ i, i < n → f i < 256) : ok n (by_ n f) := ⟨by_length n f, by
  intro x hx
  obtain ⟨i, hi, rfl⟩ := List.mem_map.1 hx
  exact h i (List.mem_range.1 hi)⟩
theorem by_congr {n : Nat} {f g : Nat → Nat} (h : ∀ i, i < n → f i = g i) : by_ n f = by_ n g := List.map_congr_left fun i hi => h i (List.mem_range.1 hi)
theorem by_self {n : Nat} {l : List Nat} (h : l.length = n) : by_ n (fun i => l.getD i 0) = l := by
  subst h
  apply List.ext_getElem?
  intro i
  rcases Nat.lt_or_ge i l.length with hi | hi
  · simp [by_, hi, List.getD_eq_getElem?_getD]
  · rw [List.getElem?_eq_none (by rw [by_length]; exact hi), List.getElem?_eq_none hi]
/-- Xor, byte by byte. -/
def addK (s k : List Nat) : List Nat := by_ 16 fun i => s.getD i 0 ^^^ k.getD i 0
theorem addK_ok {s k : List Nat} (hs : ok 16 s) (hk : ok 16 k) : ok 16 (addK s k) := by_ok fun i _ => G.xor_lt (hs.at i) (hk.at i)
theorem addK_twice {s k : List Nat} (hs : ok 16 s) : addK (addK s k) k = s := by
  rw [← by_self hs.1]
  refine (by_congr fun i hi => ?_)
  show (addK (by_ 16 fun i => s.getD i 0) k).getD i 0 ^^^ k.getD i 0 = _
  rw [by_self hs.1]
  unfold addK
  rw [by_get hi, Nat.xor_assoc, Nat.xor_self, Nat.xor_zero]
def subAll (s : List Nat) : List Nat := by_ 16 fun i => G.sub (s.getD i 0)
def unsubAll (s : List Nat) : List Nat := by_ 16 fun i => G.unsub (s.getD i 0)
/-- Byte 4c + i becomes what was byte 4d + i, where d is c + i modulo 4. -/
def turn (p : Nat) : Nat := 4 * ((p / 4 + p % 4) % 4) + p % 4
def unturn (p : Nat) : Nat := 4 * ((p / 4 + (4 - p % 4)) % 4) + p % 4
def shift (s : List Nat) : List Nat := by_ 16 fun p => s.getD (turn p) 0
def unshift (s : List Nat) : List Nat := by_ 16 fun p => s.getD (unturn p) 0
/-- The four bytes of column c. -/
def col (s : List Nat) (c : Nat) : List Nat := [s.getD (4 * c) 0, s.getD (4 * c + 1) 0, s.getD (4 * c + 2) 0, s.getD (4 * c + 3) 0]
def mixAll (s : List Nat) : List Nat := by_ 16 fun p => (G.mixL (col s (p / 4))).getD (p % 4) 0
def unmixAll (s : List Nat) : List Nat := by_ 16 fun p => (G.unmixL (col s (p / 4))).getD (p % 4) 0
theorem col_four {s : List Nat} (h : ok 16 s) (c : Nat) : G.four (col s c) := G.four_mk (h.at _) (h.at _) (h.at _) (h.at _)
theorem four_at {l : List Nat} (h : G.four l) (i : Nat) : l.getD i 0 < 256 := (show ok 4 l from h).at i
theorem subAll_ok (s : List Nat) : ok 16 (subAll s) := by_ok fun _ _ => G.sub_lt _
theorem unsubAll_ok (s : List Nat) : ok 16 (unsubAll s) := by_ok fun _ _ => G.unsub_lt _
theorem shift_ok {s : List Nat} (h : ok 16 s) : ok 16 (shift s) := by_ok fun _ _ => h.at _
theorem unshift_ok {s : List Nat} (h : ok 16 s) : ok 16 (unshift s) := by_ok fun _ _ => h.at _
theorem mixAll_ok {s : List Nat} (h : ok 16 s) : ok 16 (mixAll s) := by_ok fun _ _ => four_at (G.mixL_four (col_four h _)) _
theorem unmixAll_ok {s : List Nat} (h : ok 16 s) : ok 16 (unmixAll s) := by_ok fun _ _ => four_at (G.unmixL_four (col_four h _)) _
theorem unsub_sub {s : List Nat} (h : ok 16 s) : unsubAll (subAll s) = s := by
  refine Eq.trans (by_congr fun i hi => ?_) (by_self h.1)
  unfold subAll
  rw [by_get hi, G.unsub_sub (h.at i)]
theorem sub_unsub {s : List Nat} (h : ok 16 s) : subAll (unsubAll s) = s := by
  refine Eq.trans (by_congr fun i hi => ?_) (by_self h.1)
  unfold unsubAll
  rw [by_get hi, G.sub_unsub (h.at i)]
theorem turns : ∀ p < 16, turn p < 16 ∧ unturn p < 16 ∧ turn (unturn p) = p ∧ unturn (turn p) = p := by decide
theorem unshift_shift {s : List Nat} (h : ok 16 s) : unshift (shift s) = s := by
  refine Eq.trans (by_congr fun i hi => ?_) (by_self h.1)
  unfold shift
  rw [by_get (turns i hi).2.1, (turns i hi).2.2.1]
theorem shift_unshift {s : List Nat} (h : ok 16 s) : shift (unshift s) = s := by
  refine Eq.trans (by_congr fun i hi => ?_) (by_self h.1)
  unfold unshift
  rw [by_get (turns i hi).1, (turns i hi).2.2.2]
theorem four_self {l : List Nat} (h : G.four l) : [l.getD 0 0, l.getD 1 0, l.getD 2 0, l.getD 3 0] = l := by
  obtain ⟨a, b, c, d, rfl, _⟩ := h.ex
  rfl
theorem col_by {f : Nat → List Nat} (hf : ∀ c, G.four (f c)) {c : Nat} (hc : c < 4) : col (by_ 16 fun p => (f (p / 4)).getD (p % 4) 0) c = f c := by
  unfold col
  rw [by_get (by omega), by_get (by omega), by_get (by omega), by_get (by omega), show 4 * c / 4 = c by omega, show (4 * c + 1) / 4 = c by omega, show (4 * c + 2) / 4 = c by omega, show (4 * c + 3) / 4 = c by omega,
    show 4 * c % 4 = 0 by omega, show (4 * c + 1) % 4 = 1 by omega, show (4 * c + 2) % 4 = 2 by omega, show (4 * c + 3) % 4 = 3 by omega]
  exact four_self (hf c)
theorem col_at (s : List Nat) {p : Nat} (_ : p < 16) : (col s (p / 4)).getD (p % 4) 0 = s.getD p 0 := by
  have h : p = 4 * (p / 4) + p % 4 := by omega
  have h4 : p % 4 = 0 ∨ p % 4 = 1 ∨ p % 4 = 2 ∨ p % 4 = 3 := by omega
  rcases h4 with e | e | e | e <;> rw [e] at h ⊢ <;> rw [h] <;> simp [col] <;> congr 2 <;> omega
theorem unmix_mix {s : List Nat} (h : ok 16 s) : unmixAll (mixAll s) = s := by
  refine Eq.trans (by_congr fun p hp => ?_) (by_self h.1)
  unfold mixAll
  rw [col_by (f := fun c => G.mixL (col s c)) (fun c => G.mixL_four (col_four h c)) (by omega), G.unmixL_mixL (col_four h _), col_at s hp]
theorem mix_unmix {s : List Nat} (h : ok 16 s) : mixAll (unmixAll s) = s := by
  refine Eq.trans (by_congr fun p hp => ?_) (by_self h.1)
  unfold unmixAll
  rw [col_by (f := fun c => G.unmixL (col s c)) (fun c => G.unmixL_four (col_four h c)) (by omega), G.mixL_unmixL (col_four h _), col_at s hp]
/-- The block behind j rounds; K: the round keys. -/
def encN (K : Nat → List Nat) (r : Nat) (b : List Nat) : Nat → List Nat
  | 0 => addK b (K 0)
  | j + 1 => addK (if j + 1 = r then shift (subAll (encN K r b j)) else mixAll (shift (subAll (encN K r b j)))) (K (j + 1))
def encR (K : Nat → List Nat) (r : Nat) (b : List Nat) : List Nat := encN K r b r
/-- The block when k rounds are undone. -/
def decN (K : Nat → List Nat) (r : Nat) (b : List Nat) : Nat → List Nat
  | 0 => b
  | k + 1 => unsubAll (unshift (if r - k = r then addK (decN K r b k) (K (r - k)) else unmixAll (addK (decN K r b k) (K (r - k)))))
def decR (K : Nat → List Nat) (r : Nat) (b : List Nat) : List Nat := addK (decN K r b r) (K 0)
theorem encN_ok {K : Nat → List Nat} {r : Nat} (hK : ∀ j, j ≤ r → ok 16 (K j)) {b : List Nat} (hb : ok 16 b) : ∀ j, j ≤ r → ok 16 (encN K r b j)
  | 0, _ => addK_ok hb (hK 0 (Nat.zero_le _))
  | j + 1, hj => by
    rw [encN]
    refine addK_ok ?_ (hK _ hj)
    split
    · exact shift_ok (subAll_ok _)
    · exact mixAll_ok (shift_ok (subAll_ok _))
theorem decN_ok {K : Nat → List Nat} {r : Nat} {b : List Nat} (hb : ok 16 b) : ∀ k, ok 16 (decN K r b k)
  | 0 => hb
  | k + 1 => by
    rw [decN]
    exact unsubAll_ok _
theorem encR_ok {K : Nat → List Nat} {r : Nat} (hK : ∀ j, j ≤ r → ok 16 (K j)) {b : List Nat} (hb : ok 16 b) : ok 16 (encR K r b) := encN_ok hK hb r (Nat.le_refl _)
theorem decR_ok {K : Nat → List Nat} {r : Nat} (hK : ∀ j, j ≤ r → ok 16 (K j)) {b : List Nat} (hb : ok 16 b) : ok 16 (decR K r b) := addK_ok (decN_ok hb r) (hK 0 (Nat.zero_le _))
/-- What was encrypted is decrypted as it was. -/
theorem dec_enc {K : Nat → List Nat} {r : Nat} (hK : ∀ j, j ≤ r → ok 16 (K j)) {b : List Nat} (hb : ok 16 b) : decR K r (encR K r b) = b := by
  have key : ∀ k, k ≤ r → decN K r (encR K r b) k = encN K r b (r - k) := by
    intro k
    induction k with
    | zero => intro _; rfl
    | succ k ih =>
      intro hk
      obtain ⟨j, hj⟩ : ∃ j, r - k = j + 1 := ⟨r - k - 1, by omega⟩
      have ok1 := encN_ok hK hb j (by omega)
      rw [decN, ih (by omega), hj, show r - (k + 1) = j by omega, encN]
      split
      · rw [addK_twice (shift_ok (subAll_ok _)), unshift_shift (subAll_ok _), unsub_sub ok1]
      · rw [addK_twice (mixAll_ok (shift_ok (subAll_ok _))), unmix_mix (shift_ok (subAll_ok _)), unshift_shift (subAll_ok _), unsub_sub ok1]
  unfold decR
  rw [key r (Nat.le_refl _), Nat.sub_self, encN, addK_twice hb]
/-- What is decrypted is encrypted to just that. -/
theorem enc_dec {K : Nat → List Nat} {r : Nat} (hK : ∀ j, j ≤ r → ok 16 (K j)) {b : List Nat} (hb : ok 16 b) : encR K r (decR K r b) = b := by
  have key : ∀ j, j ≤ r → encN K r (decR K r b) j = decN K r b (r - j) := by
    intro j
    induction j with
    | zero =>
      intro _
      rw [encN, decR, addK_twice (decN_ok hb r)]
      rfl
    | succ j ih =>
      intro hj
      obtain ⟨k, hk⟩ : ∃ k, r - j = k + 1 := ⟨r - j - 1, by omega⟩
      have ok1 := decN_ok (K := K) (r := r) hb k
      have okK := hK (j + 1) hj
      rw [encN, ih (by omega), hk, decN, show r - k = j + 1 by omega, show r - (j + 1) = k by omega]
      split
      · rw [sub_unsub (unshift_ok (addK_ok ok1 okK)), shift_unshift (addK_ok ok1 okK), addK_twice ok1]
      · rw [sub_unsub (unshift_ok (unmixAll_ok (addK_ok ok1 okK))), shift_unshift (unmixAll_ok (addK_ok ok1 okK)), mix_unmix (addK_ok ok1 okK), addK_twice ok1]
  unfold encR
  rw [key r (Nat.le_refl _), Nat.sub_self]
  rfl
/-- Words: xor; what is put for each byte; turned by one. -/
def xorW (a t : List Nat) : List Nat := by_ 4 fun i => a.getD i 0 ^^^ t.getD i 0
def subW (t : List Nat) : List Nat := by_ 4 fun i => G.sub (t.getD i 0)
def topW (t : List Nat) (m : Nat) : List Nat := [G.sub (t.getD 1 0) ^^^ m, G.sub (t.getD 2 0), G.sub (t.getD 3 0), G.sub (t.getD 0 0)]
/-- What the last word becomes, at place i, ahead of the xor. -/
def preW (n i : Nat) (t : List Nat) : List Nat := if i % n = 0 then topW t (G.pow 2 (i / n - 1)) else if n = 8 ∧ i % 8 = 4 then subW t else t
def nextW (n : Nat) (ws : List (List Nat)) : List Nat := xorW (ws.getD (ws.length - n) []) (preW n ws.length (ws.getD (ws.length - 1) []))
/-- So many words more. -/
def growW (n : Nat) (ws : List (List Nat)) : Nat → List (List Nat)
  | 0 => ws
  | k + 1 => growW n ws k ++ [nextW n (growW n ws k)]
/-- The first words: the key's bytes, in order. -/
def firstW (key : List Nat) (j : Nat) : List (List Nat) := (List.range j).map fun i => [key.getD (4 * i) 0, key.getD (4 * i + 1) 0, key.getD (4 * i + 2) 0, key.getD (4 * i + 3) 0]
def keyN (key : List Nat) : Nat := key.length / 4
def keyW (key : List Nat) : List (List Nat) := growW (keyN key) (firstW key (keyN key)) (3 * keyN key + 28)
def okW (ws : List (List Nat)) : Prop := ∀ w ∈ ws, ok 4 w
theorem okW.at {ws : List (List Nat)} (h : okW ws) (i j : Nat) : (ws.getD i []).getD j 0 < 256 := by
  rw [List.getD_eq_getElem?_getD (l := ws)]
  cases e : ws[i]? with
  | none => simp
  | some x => exact (h x (List.mem_of_getElem? e)).at j
theorem firstW_length (key : List Nat) (j : Nat) : (firstW key j).length = j := by simp [firstW]
theorem growW_length (n : Nat) (ws : List (List Nat)) : ∀ k, (growW n ws k).length = ws.length + k
  | 0 => rfl
  | k + 1 => by rw [growW, List.length_append, growW_length n ws k]; rfl
theorem keyW_length (key : List Nat) : (keyW key).length = 4 * keyN key + 28 := by
  rw [keyW, growW_length, firstW_length]
  omega
theorem firstW_ok {n : Nat} {key : List Nat} (h : ok n key) (j : Nat) : okW (firstW key j) := by
  intro w hw
  obtain ⟨i, _, rfl⟩ := List.mem_map.1 hw
  exact G.four_mk (h.at _) (h.at _) (h.at _) (h.at _)
theorem xorW_ok {a t : List Nat} (ha : ∀ i, a.getD i 0 < 256) (ht : ∀ i, t.getD i 0 < 256) : ok 4 (xorW a t) := by_ok fun i _ => G.xor_lt (ha i) (ht i)
theorem subW_ok (t : List Nat) : ok 4 (subW t) := by_ok fun _ _ => G.sub_lt _
theorem topW_ok {t : List Nat} {m : Nat} (hm : m < 256) : ok 4 (topW t m) := G.four_mk (G.xor_lt (G.sub_lt _) hm) (G.sub_lt _) (G.sub_lt _) (G.sub_lt _)
theorem preW_at {n i : Nat} {t : List Nat} (ht : ∀ i, t.getD i 0 < 256) (j : Nat) : (preW n i t).getD j 0 < 256 := by
  unfold preW
  split
  · exact (topW_ok (G.pow_lt256 _)).at j
  · split
    · exact (subW_ok t).at j
    · exact ht j
theorem nextW_ok {n : Nat} {ws : List (List Nat)} (h : okW ws) : ok 4 (nextW n ws) := xorW_ok (fun i => h.at _ i) (fun j => preW_at (fun i => h.at _ i) j)
theorem growW_ok {n : Nat} {ws : List (List Nat)} (h : okW ws) : ∀ k, okW (growW n ws k)
  | 0 => h
  | k + 1 => by
    intro w hw
    rw [growW] at hw
    rcases List.mem_append.1 hw with h1 | h1
    · exact growW_ok h k w h1
    · rw [List.mem_singleton.1 h1]
      exact nextW_ok (growW_ok h k)
theorem keyW_ok {n : Nat} {key : List Nat} (h : ok n key) : okW (keyW key) := growW_ok (firstW_ok h _) _
/-- The front stays. -/
theorem growW_front (n : Nat) (ws : List (List Nat)) : ∀ k, (growW n ws k).take ws.length = ws
  | 0 => List.take_of_length_le (Nat.le_refl _)
  | k + 1 => by
    rw [growW, List.take_append_of_le_length (by rw [growW_length]; omega)]
    exact growW_front n ws k
theorem keyW_front (key : List Nat) : (keyW key).take (keyN key) = firstW key (keyN key) := by
  have := growW_front (keyN key) (firstW key (keyN key)) (3 * keyN key + 28)
  rw [firstW_length] at this
  exact this
/-- Round key j: sixteen bytes of four words. -/
def rk (ws : List (List Nat)) (j : Nat) : List Nat := by_ 16 fun p => (ws.getD (4 * j + p / 4) []).getD (p % 4) 0
theorem rk_ok {ws : List (List Nat)} (h : okW ws) (j : Nat) : ok 16 (rk ws j) := by_ok fun _ _ => h.at _ _
def encS (ws : List (List Nat)) (b : List Nat) : List Nat := encR (rk ws) (ws.length / 4 - 1) b
def decS (ws : List (List Nat)) (b : List Nat) : List Nat := decR (rk ws) (ws.length / 4 - 1) b
theorem encS_ok {ws : List (List Nat)} (h : okW ws) {b : List Nat} (hb : ok 16 b) : ok 16 (encS ws b) := encR_ok (fun j _ => rk_ok h j) hb
theorem decS_ok {ws : List (List Nat)} (h : okW ws) {b : List Nat} (hb : ok 16 b) : ok 16 (decS ws b) := decR_ok (fun j _ => rk_ok h j) hb
theorem dec_encS {ws : List (List Nat)} (h : okW ws) {b : List Nat} (hb : ok 16 b) : decS ws (encS ws b) = b := dec_enc (fun j _ => rk_ok h j) hb
theorem enc_decS {ws : List (List Nat)} (h : okW ws) {b : List Nat} (hb : ok 16 b) : encS ws (decS ws b) = b := enc_dec (fun j _ => rk_ok h j) hb
theorem encS_inj {ws : List (List Nat)} (h : okW ws) {a b : List Nat} (ha : ok 16 a) (hb : ok 16 b) : encS ws a = encS ws b ↔ a = b := ⟨fun e => by rw [← dec_encS h ha, e, dec_encS h hb], fun e => by rw [e]⟩
/-- A byte of the key in its words. -/
theorem keyW_byte {key : List Nat} (h4 : key.length % 4 = 0) {i : Nat} (hi : i < key.length) : ((keyW key).getD (i / 4) []).getD (i % 4) 0 = key.getD i 0 := by
  have hn : i / 4 < keyN key := by unfold keyN; omega
  have e : (keyW key).getD (i / 4) [] = (firstW key (keyN key)).getD (i / 4) [] := by
    rw [← keyW_front, List.getD_eq_getElem?_getD, List.getD_eq_getElem?_getD, List.getElem?_take, if_pos hn]
  rw [e]
  have e2 : (firstW key (keyN key)).getD (i / 4) [] = [key.getD (4 * (i / 4)) 0, key.getD (4 * (i / 4) + 1) 0, key.getD (4 * (i / 4) + 2) 0, key.getD (4 * (i / 4) + 3) 0] := by
    simp [firstW, List.getD_eq_getElem?_getD, hn]
  rw [e2]
  have h : i = 4 * (i / 4) + i % 4 := by omega
  have h4 : i % 4 = 0 ∨ i % 4 = 1 ∨ i % 4 = 2 ∨ i % 4 = 3 := by omega
  rcases h4 with e | e | e | e <;> rw [e] at h ⊢ <;> (conv => rhs; rw [h]) <;> rfl
/-- Two keys of one length have not the same words. -/
theorem keyW_inj {a b : List Nat} (ha : a.length % 4 = 0) (hb : b.length % 4 = 0) : keyW a = keyW b ↔ a = b := by
  refine ⟨fun e => ?_, fun e => by rw [e]⟩
  have hl : a.length = b.length := by
    have h := congrArg List.length e
    rw [keyW_length, keyW_length] at h
    unfold keyN at h
    omega
  rw [← by_self (l := a) rfl, ← by_self (l := b) hl.symm]
  refine by_congr fun i hi => ?_
  rw [← keyW_byte ha hi, e, keyW_byte hb (by omega)]
end Go.Proofs.Ytejabkmhpiabnaa.A
