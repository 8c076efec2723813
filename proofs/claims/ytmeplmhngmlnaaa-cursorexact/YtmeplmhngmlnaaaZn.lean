/- begun: the table, thing by thing. -/
import Derived.Test.YtmeplmhngmlnaaaZm
namespace Go.Proofs.Ytmeplmhngmlnaaa
open Go.RowKit
set_option linter.unusedVariables false

def nl : Value := .slice none 0 0
/-- Behind k rounds: the blocks of what is there. -/
structure Beg (B : Nat) (w0 w : World) (bt k : Nat) (a c e g : Nat → Nat) (pre : List Value) : Prop where
  hi : ∀ W, W < k → InAt B w (a W) nl [] 0 false
  hr : ∀ W, W < k → RinAt B w (c W) nl [] 0 0 false
  ho : ∀ W, W < k → OutAt 67 B w (e W) nl [] (100 + W)
  hs : ∀ W, W < k → OutAt 84 B w (g W) nl [] (100 + W)
  tab : TabAt w bt pre nl nl
  at_ : ∀ W, W < k → pre[W]? = some (ptr (a W)) ∧ pre[2 + W]? = some (ptr (c W)) ∧ pre[4 + W]? = some (ptr (e W)) ∧ pre[6 + W]? = some (ptr (g W))
  bel : Below B w0 w
  lo : B ≤ bt
  ord : ∀ W, W < k → bt < a W ∧ a W < c W ∧ c W < e W ∧ e W < g W ∧ g W < w.heap.size
  ord2 : ∀ W, W + 1 < k → g W < a (W + 1)
section
variable {B bt k : Nat} {w0 w w1 w2 : World} {a c e g : Nat → Nat} {pre : List Value}
theorem fi_nl {b q : Nat} (h : FI b nl q) : q = b := fi_nil rfl h
theorem Beg.step (h : Beg B w0 w bt k a c e g pre) (hk : k < 2) {b1 b2 b3 b4 : Nat} (h1 : w.heap.size ≤ b1) (h12 : b1 < b2) (I1 : InAt w.heap.size w1 b1 nl [] 0 false) (R1 : RinAt w.heap.size w1 b2 nl [] 0 0 false) (u1 : Upd (fun q => q = bt) w w1)
    (h3 : w1.heap.size ≤ b3) (h34 : b3 < b4) (O2 : OutAt 67 w1.heap.size w2 b3 nl [] (100 + k)) (S2 : OutAt 84 w1.heap.size w2 b4 nl [] (100 + k)) (T2 : TabAt w2 bt ((((pre.set k (ptr b1)).set (2 + k) (ptr b2)).set (4 + k) (ptr b3)).set (6 + k) (ptr b4)) nl nl) (u2 : Upd (fun q => q = bt) w1 w2) :
    Beg B w0 w2 bt (k + 1) (ext a k b1) (ext c k b2) (ext e k b3) (ext g k b4) ((((pre.set k (ptr b1)).set (2 + k) (ptr b2)).set (4 + k) (ptr b3)).set (6 + k) (ptr b4)) := by
  have hbt := h.tab.2.lt
  have hB : B ≤ w.heap.size := Nat.le_trans h.lo (Nat.le_of_lt hbt)
  have z1 := R1.blk.lt
  have z2 := S2.blk.lt
  have hl := h.tab.1
  have hs1 : w.heap.size ≤ w1.heap.size := u1.size
  have hs2 : w1.heap.size ≤ w2.heap.size := u2.size
  have hB1 : B ≤ w1.heap.size := Nat.le_trans hB hs1
  have uu : Upd (fun q => q = bt) w w2 := u1.to u2
  have stay : ∀ {b q : Nat}, bt < b → FI b nl q → ¬ (q = bt) := fun hb hq e => by have := fi_nl hq; omega
  refine ⟨fun W hW => ?_, fun W hW => ?_, fun W hW => ?_, fun W hW => ?_, T2, fun W hW => ?_, h.bel.trans (uu.below B hB (fun q e => by rw [e]; exact h.lo)), h.lo, fun W hW => ?_, fun W hW => ?_⟩
  · by_cases hk : W = k
    · subst hk; rw [ext_at]; exact (I1.mono hB).upd u2 (fun q hq => stay (by omega) hq)
    · rw [ext_ne _ _ _ _ hk]; have := h.ord W (by omega); exact (h.hi W (by omega)).upd uu (fun q hq => stay (by omega) hq)
  · by_cases hk : W = k
    · subst hk; rw [ext_at]; exact (R1.mono hB).upd u2 (fun q hq => stay (by omega) hq)
    · rw [ext_ne _ _ _ _ hk]; have := h.ord W (by omega); exact (h.hr W (by omega)).upd uu (fun q hq => stay (by omega) hq)
  · by_cases hk : W = k
    · subst hk; rw [ext_at]; exact O2.mono hB1
    · rw [ext_ne _ _ _ _ hk]; have := h.ord W (by omega); exact (h.ho W (by omega)).upd uu (fun q hq => stay (by omega) hq)
  · by_cases hk : W = k
    · subst hk; rw [ext_at]; exact S2.mono hB1
    · rw [ext_ne _ _ _ _ hk]; have := h.ord W (by omega); exact (h.hs W (by omega)).upd uu (fun q hq => stay (by omega) hq)
  · by_cases hk : W = k
    · subst hk
      rw [ext_at, ext_at, ext_at, ext_at]
      simp only [List.getElem?_set, List.length_set, hl]
      refine ⟨?_, ?_, ?_, ?_⟩ <;> simp <;> omega
    · rw [ext_ne _ _ _ _ hk, ext_ne _ _ _ _ hk, ext_ne _ _ _ _ hk, ext_ne _ _ _ _ hk]
      obtain ⟨p1, p2, p3, p4⟩ := h.at_ W (by omega)
      simp only [List.getElem?_set, List.length_set, hl]
      refine ⟨?_, ?_, ?_, ?_⟩
      · rw [if_neg (by omega), if_neg (by omega), if_neg (by omega), if_neg (by omega)]; exact p1
      · rw [if_neg (by omega), if_neg (by omega), if_neg (by omega), if_neg (by omega)]; exact p2
      · rw [if_neg (by omega), if_neg (by omega), if_neg (by omega), if_neg (by omega)]; exact p3
      · rw [if_neg (by omega), if_neg (by omega), if_neg (by omega), if_neg (by omega)]; exact p4
  · by_cases hk : W = k
    · subst hk; rw [ext_at, ext_at, ext_at, ext_at]; omega
    · rw [ext_ne _ _ _ _ hk, ext_ne _ _ _ _ hk, ext_ne _ _ _ _ hk, ext_ne _ _ _ _ hk]; have := h.ord W (by omega); omega
  · rw [ext_ne _ _ _ _ (by omega)]
    by_cases hk : W + 1 = k
    · subst hk; rw [ext_at]; have := h.ord W (by omega); omega
    · rw [ext_ne _ _ _ _ hk]; exact h.ord2 W (by omega)
theorem Beg.start (w : World) : Beg w.heap.size w (w.alloc (.cells #[.pointer none, .pointer none, .pointer none, .pointer none, .pointer none, .pointer none, .pointer none, .pointer none, .slice none 0 0, .slice none 0 0] 64)) w.heap.size 0 (fun _ => 0) (fun _ => 0) (fun _ => 0) (fun _ => 0) (List.replicate 8 (.pointer none)) := by
  refine ⟨fun W h => ?_, fun W h => ?_, fun W h => ?_, fun W h => ?_, ⟨rfl, Blk.newA w _ 64⟩, fun W h => ?_, (Below.refl _ _).alloc (Nat.le_refl _) _, Nat.le_refl _, fun W h => ?_, fun W h => ?_⟩ <;> exact absurd h (Nat.not_lt_zero _)
theorem list8 {l : List Value} {x0 x1 x2 x3 x4 x5 x6 x7 : Value} (h : l.length = 8) (h0 : l[0]? = some x0) (h1 : l[1]? = some x1) (h2 : l[2]? = some x2) (h3 : l[3]? = some x3) (h4 : l[4]? = some x4) (h5 : l[5]? = some x5) (h6 : l[6]? = some x6) (h7 : l[7]? = some x7) : l = [x0, x1, x2, x3, x4, x5, x6, x7] := by
  match l, h with
  | [y0, y1, y2, y3, y4, y5, y6, y7], _ =>
    simp at h0 h1 h2 h3 h4 h5 h6 h7
    subst h0 h1 h2 h3 h4 h5 h6 h7
    rfl
theorem Beg.plays (h : Beg B w0 w bt 2 a c e g pre) (hB : B = w0.heap.size) : Plays B w0 w bt 0 := by
  obtain ⟨p0, p2, p4, p6⟩ := h.at_ 0 (by omega)
  obtain ⟨p1, p3, p5, p7⟩ := h.at_ 1 (by omega)
  obtain ⟨n0, n1, n2, n3, n4⟩ := h.ord 0 (by omega)
  obtain ⟨m0, m1, m2, m3, m4⟩ := h.ord 1 (by omega)
  have m5 : g 0 < a 1 := h.ord2 0 (by omega)
  have ht := h.tab
  have hpre : pre = [ptr (a 0), ptr (a 1), ptr (c 0), ptr (c 1), ptr (e 0), ptr (e 1), ptr (g 0), ptr (g 1)] := list8 ht.1 p0 p1 p2 p3 p4 p5 p6 p7
  rw [hpre] at ht
  refine ⟨fun W => ⟨a W, nl, [], 0, false⟩, fun W => ⟨c W, nl, [], 0, 0, false⟩, fun W => ⟨e W, nl, [], 100 + W⟩, fun W => ⟨g W, nl, [], 100 + W⟩, bkN, tb_begin _ _ _ _ h.hi h.hr h.ho h.hs (fun _ _ => rfl) (fun _ _ => rfl) (fun _ _ => rfl) (fun _ _ => rfl) (fun x y hx hy hn => ?_) ht h.bel h.lo (fun q ys hq => hq.later (by rw [← hB]; exact h.bel)), ?_⟩
  · have ex : x = 0 ∨ x = 1 ∨ x = 2 ∨ x = 3 ∨ x = 4 ∨ x = 5 ∨ x = 6 ∨ x = 7 := by omega
    have ey : y = 0 ∨ y = 1 ∨ y = 2 ∨ y = 3 ∨ y = 4 ∨ y = 5 ∨ y = 6 ∨ y = 7 := by omega
    clear hx hy h ht hpre p0 p1 p2 p3 p4 p5 p6 p7
    rcases ex with rfl | rfl | rfl | rfl | rfl | rfl | rfl | rfl <;> rcases ey with rfl | rfl | rfl | rfl | rfl | rfl | rfl | rfl <;> simp [bl] <;> omega
  · refine ⟨fun W _ => rfl, fun W _ => rfl, fun W _ => rfl, fun W _ => ⟨?_, ?_⟩, fun W _ => ?_, fun W _ => rfl, fun W _ => rfl, fun W hW => ⟨?_, ?_⟩, fun W _ => ?_, Nat.le_refl _⟩
    · show (0 : Int) ≤ 0; omega
    · show (0 : Int) ≤ 2147483647; omega
    · show 0 ≤ 1000 * 0; omega
    · show (0 : Int) ≤ 100 + W; omega
    · show (100 : Int) + W ≤ 9223372036854775807; omega
    · show 0 ≤ 1000 * 0; omega
end
end Go.Proofs.Ytmeplmhngmlnaaa
