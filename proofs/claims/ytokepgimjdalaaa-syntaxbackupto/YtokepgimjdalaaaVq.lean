import Derived.Test.YtokepgimjdalaaaVp
import Derived.Lib.AppendStr
import Derived.Deep.RegionLaw

/- What SyntaxTokens holds in memory. -/
namespace Go.Proofs.Ytokepgimjdalaaa
open Go.RowKit
set_option linter.unusedVariables false

set_option maxRecDepth 100000 in
set_option maxHeartbeats 4000000 in
theorem fill_any (k : Int) (w : World) : Calls Try.prog 16 #[.int .i64 k] w fun e w' => ∃ F : ByteArray, e = .returned (.string F) ∧ Hid (IsFill F.data.toList ∧ F.size ≤ 16) ∧ w = w' := by
  go_enter Try.func16, Try.ntmps16
  go_upto_region 2 with fail
  obtain ⟨y, hy⟩ : ∃ y, bits BinOp.and IntKind.i64 k 3 = y := ⟨_, rfl⟩
  rw [hy]
  clear hy
  by_cases h1 : y = 1
  · subst h1; go_wp2; go_ret; exact ⟨_, rfl, ⟨⟨by decide, _, _, rfl, by decide⟩, by decide⟩, rfl⟩
  by_cases h2 : y = 2
  · subst h2; go_wp2; go_ret; exact ⟨_, rfl, ⟨⟨by decide, _, _, rfl, by decide⟩, by decide⟩, rfl⟩
  by_cases h3 : y = 3
  · subst h3; go_wp2; go_ret; exact ⟨_, rfl, ⟨⟨by decide, _, _, rfl, by decide⟩, by decide⟩, rfl⟩
  go_wp2
  go_ret
  exact ⟨_, rfl, ⟨⟨by decide, _, _, rfl, by decide⟩, by decide⟩, rfl⟩
def BR (B : Nat) (w : World) (v : Value) (l : List UInt8) : Prop := w.ownsRow B 5 1 v l.length (Lib.byteCells l)
theorem byteCells_app (a b : List UInt8) : Lib.byteCells (a ++ b) = Lib.byteCells a ++ Lib.byteCells b := by simp [Lib.byteCells]
theorem E40 : Elem Try.prog 54 5 .u8 1 := ⟨Try.underlying54, Try.underlying5, by kernel_rfl⟩
section
variable {B : Nat} {w w' : World} {v : Value} {l : List UInt8}
theorem BR.nil (B : Nat) (w : World) : BR B w (.slice none 0 0) [] := World.ownsRow_nil _ _ _ _
theorem BR.form (h : BR B w v l) : ∃ a cap, v = .slice a l.length cap := by
  rcases h.2 with ⟨rfl, h0⟩ | ⟨g, cap, cur, rfl, _⟩
  · exact ⟨none, 0, by rw [h0]⟩
  · exact ⟨_, cap, rfl⟩
theorem BR.app (h : BR B w v l) (s : ByteArray) (hl : l.length ≤ 1000000000) (hs : s.size ≤ 1000000000) (hB : B ≤ w.heap.size) :
    ∃ v' w', (Builtin.append_ #[54, 9] 54 #[v, .string s]).run Try.prog w = .ok v' w' ∧ BR B w' v' (l ++ s.data.toList) ∧ Upd (fun k => v.ownBlock = some k) w w' := by
  obtain ⟨i0, hi, hz0, hz1, hz2⟩ := info_parts E40.info
  obtain ⟨v', w', h1, h2, h3, -⟩ := Lib.run_append_own_string (P := Try.prog) w B 54 9 54 5 i0 Try.underlying54 Try.underlying9 hi hz0 hz1 hz2 v l.length _ h s (by unfold maxLen; omega) (by omega) hB
  refine ⟨v', w', h1, ?_, (Upd.refl _ w).grown h3 (fun k hk => .inl hk)⟩
  unfold BR
  rw [byteCells_app, List.length_append, ← Lib.size_eq]
  exact h2
theorem cells_ints (l : List UInt8) : Lib.byteCells l = cellsL .u8 (l.map fun b => (b.toNat : Int)) := by simp [Lib.byteCells, cellsL]
theorem nums_back (l : List UInt8) : strOfNums (l.map fun b => (b.toNat : Int)) = ⟨l.toArray⟩ := by
  unfold strOfNums
  rw [List.map_map]
  have e : ((fun n : Int => UInt8.ofNat n.toNat) ∘ fun b : UInt8 => (b.toNat : Int)) = id := by funext b; simp
  rw [e, List.map_id]
theorem BR.conv (h : BR B w v l) : ∃ a cap, v = .slice a l.length cap ∧ (convert 54 9 (.slice a l.length cap)).run Try.prog w = .ok (.string ⟨l.toArray⟩) w := by
  have hr : ∃ a cap, v = .slice a l.length cap ∧ Row .u8 w a (l.map fun b => (b.toNat : Int)) := by
    rcases Nat.eq_zero_or_pos l.length with h0 | h0
    · obtain ⟨a, cap, rfl⟩ := h.form
      have : l = [] := List.eq_nil_of_length_eq_zero h0
      subst this
      refine ⟨a, cap, rfl, ?_⟩
      cases a with
      | none => exact .inl ⟨rfl, rfl⟩
      | some x => exact .inr ⟨x, rfl, fun i hi => by simp at hi⟩
    · obtain ⟨g, cap, ys, rfl, hb, hn, hm, hl, ht, hK⟩ := ownS_blk h h0
      refine ⟨_, cap, rfl, Row.mk fun i hi => ?_⟩
      rw [List.length_map] at hi
      rw [hK.cell, Nat.zero_add]
      have e : ys[i]? = (Lib.byteCells l)[i]? := by rw [← ht, List.getElem?_take, if_pos (by omega)]
      rw [e]
      simp [Lib.byteCells, List.getD, hi]
  obtain ⟨a, cap, rfl, hrow⟩ := hr
  refine ⟨a, cap, rfl, ?_⟩
  have := conv_row E40 Try.underlying9 w a l.length cap _ (by simp) hrow
  rw [nums_back] at this
  exact this
end
theorem E53 : Elem Try.prog 53 3 .i64 8 := ⟨Try.underlying53, Try.underlying3, by kernel_rfl⟩
/-- The bytes and the places that are made, and the tokens that were cut. -/
structure Ag (B : Nat) (w : World) (vb vw : Value) (b : List UInt8) (ws : List Int) (a : Option Addr) (ts : List Tk) : Prop where
  bb : BR B w vb b
  ww : w.ownsRow B 3 1 vw ws.length (cellsL .i64 ws)
  tr : TRow w a ts
  lo : ∀ x, a = some x → x.block < B
  hB : B ≤ w.heap.size
section
variable {B : Nat} {w w' : World} {vb vw : Value} {b : List UInt8} {ws : List Int} {ts : List Tk} {a : Option Addr}
theorem Ag.later (h : Ag B w vb vw b ws a ts) (hB : Below w.heap.size w w') : Ag B w' vb vw b ws a ts :=
  ⟨ownS_upd h.bb (Upd.of_below (S := fun _ => False) hB) (fun _ _ h => h), ownS_upd h.ww (Upd.of_below (S := fun _ => False) hB) (fun _ _ h => h), h.tr.later hB, h.lo, Nat.le_trans h.hB hB.size⟩
theorem Ag.drew (h : Ag B w vb vw b ws a ts) : Ag B w.drew vb vw b ws a ts := ⟨h.bb, h.ww, h.tr, h.lo, h.hB⟩
theorem Ag.app (h : Ag B w vb vw b ws a ts) (s : ByteArray) (hl : b.length ≤ 1000000000) (hs : s.size ≤ 1000000000) :
    ∃ a' c' w', (Builtin.append_ #[54, 9] 54 #[vb, .string s]).run Try.prog w = .ok (.slice a' (b ++ s.data.toList).length c') w' ∧ Ag B w' (.slice a' (b ++ s.data.toList).length c') vw (b ++ s.data.toList) ws a ts ∧ Below B w w' := by
  obtain ⟨v', w', r, hb, hu⟩ := h.bb.app s hl hs h.hB
  have hbel : Below B w w' := hu.below B h.hB (fun k hk => (h.bb.lt k hk).1)
  obtain ⟨a', c', rfl⟩ := hb.form
  refine ⟨a', c', w', r, ⟨hb, ?_, ?_, h.lo, Nat.le_trans h.hB hu.size⟩, hbel⟩
  · refine ownS_upd h.ww hu fun k hk2 e => ?_
    obtain ⟨zs, hz⟩ := ownS_type h.bb e
    obtain ⟨ys, hy⟩ := ownS_type h.ww hk2
    exact absurd (blk_type hy hz) (by decide)
  · exact h.tr.upd hu fun x hx e => by
      have h1 := h.lo x hx
      have h2 := (h.bb.lt _ e).1
      omega
theorem Ag.push (h : Ag B w vb vw b ws a ts) (x : Int) (hl : ws.length ≤ 1000000) :
    ∃ g cap w', (Builtin.append_ #[53, 53] 53 #[vw, .slice (some ⟨w.heap.size, 0, none⟩) 1 1]).run Try.prog (w.alloc (.cells #[.int .i64 x] 3)) = .ok (.slice (some ⟨g, 0, none⟩) (ws.length + 1) cap) w' ∧ Ag B w' vb (.slice (some ⟨g, 0, none⟩) (ws.length + 1) cap) b (ws ++ [x]) a ts ∧ Below B w w' := by
  obtain ⟨g, cap, w', r, ho, hu, _⟩ := run_push E53 w 53 B vw ws.length ws h.ww x (by unfold maxLen; omega) (by omega) h.hB
  refine ⟨g, cap, w', r, ⟨ownS_upd h.bb hu fun k hk e => ?_, by rw [List.length_append]; exact ho, h.tr.upd hu fun x hx e => ?_, h.lo, Nat.le_trans h.hB hu.size⟩, hu.below B h.hB (fun k hk => (h.ww.lt k hk).1)⟩
  · obtain ⟨zs, hz⟩ := ownS_type h.ww e
    obtain ⟨ys, hy⟩ := ownS_type h.bb hk
    exact absurd (blk_type hy hz) (by decide)
  · have h1 := h.lo x hx
    have h2 := (h.ww.lt _ e).1
    omega
end

theorem i64w (n : Int) (h : -9223372036854775808 ≤ n ∧ n ≤ 9223372036854775807) : IntKind.i64.wrap n = n := by rw [IntKind.wrap_i64]; omega
theorem Tw.form {w : List UInt8} (h : Tw w) : ∃ (K : Int) (X : ByteArray) (N : Int), ∀ p, tkW w p = ⟨K, X, N, p, p + w.length⟩ := by
  obtain ⟨c, r, rfl, _⟩ := h
  unfold tkW
  simp only
  cases letter c <;> cases digit c
  · exact ⟨3, _, 0, fun p => rfl⟩
  · exact ⟨2, _, _, fun p => rfl⟩
  · exact ⟨1, _, 0, fun p => rfl⟩
  · exact ⟨1, _, 0, fun p => rfl⟩
/-- One token of a text's places. -/
theorem pl_step {s : ByteArray} {q : Nat} {t : Tk} {ts : List Tk} (hs : s.size ≤ 65536) (hq : q ≤ s.size) (h : PlOk (t :: ts) (s.data.toList.drop q) q) : ∃ (K : Int) (X : ByteArray) (N : Int) (g n : Nat),
    t = ⟨K, X, N, q + g, q + g + n⟩ ∧ 0 < n ∧ q + g + n ≤ s.size ∧ gp false (s.extract q (q + g)).data.toList false = true ∧ cutT (s.extract (q + g) (q + g + n)) = ([⟨K, X, N, 0, n⟩], 0, 0) ∧ Tw (s.extract (q + g) (q + g + n)).data.toList ∧ (s.extract (q + g) (q + g + n)).size = n ∧ tkW (s.extract (q + g) (q + g + n)).data.toList (q + g) = t ∧ PlOk ts (s.data.toList.drop (q + g + n)) (q + g + n) := by
  obtain ⟨G, w, r, h1, h2, h3, h4, h5⟩ := h
  obtain ⟨K, X, N, hf⟩ := h3.form
  have hlen := congrArg List.length h1
  rw [List.length_drop, ← Lib.size_eq, List.length_append, List.length_append] at hlen
  have hpos := h3.pos
  have eG : (s.extract q (q + G.length)).data.toList = G := by
    rw [Lib.extract_data, h1, show q + G.length - q = G.length by omega, List.take_left']
    rfl
  have eD : s.data.toList.drop (q + G.length) = w ++ r := by
    rw [← List.drop_drop, h1, List.drop_left']
    rfl
  have eW : (s.extract (q + G.length) (q + G.length + w.length)).data.toList = w := by
    rw [Lib.extract_data, eD, show q + G.length + w.length - (q + G.length) = w.length by omega, List.take_left']
    rfl
  have eR : s.data.toList.drop (q + G.length + w.length) = r := by
    rw [← List.drop_drop, eD, List.drop_left']
    rfl
  have eS : (s.extract (q + G.length) (q + G.length + w.length)).size = w.length := by rw [Lib.size_eq, eW]
  refine ⟨K, X, N, G.length, w.length, by rw [h4, hf], hpos, by omega, by rw [eG]; exact h2, ?_, by rw [eW]; exact h3, eS, by rw [eW, h4], by rw [eR]; exact h5⟩
  rw [cutT, if_neg (by rw [eS]; omega), eW, cut_alone h3, hf]
  simp
theorem getD_drop {ts : List Tk} {k : Nat} (h : k < ts.length) : ts.drop k = ts.getD k tk0 :: ts.drop (k + 1) := by
  rw [List.drop_eq_getElem_cons h]
  simp [List.getD, h]
/-- Cut's answer, by its parts. -/
theorem cut_is {s : ByteArray} {ts : List Tk} {E A : Nat} (h : cutT s = (ts, E, A)) (w : World) : Calls Try.prog 12 #[.string s] w fun e w' => ∃ a cap, e = .returned (.tuple #[.slice a ts.length cap, .agg #[.int .i64 E, .int .i64 A]]) ∧ ts.length ≤ cap ∧ Hid (TRow w' a ts) ∧ Hid (w'.ownsRow w.heap.size 42 5 (.slice a ts.length cap) ts.length (cellsT ts)) ∧ Hid (Below w.heap.size w w') := by
  refine (cut_any s w).mono ?_
  rintro e w' ⟨v, rfl, HV, HB⟩
  rw [h] at HV ⊢
  obtain ⟨a, cap, rfl, hc, hr, _⟩ := own_row HV.out
  exact ⟨a, cap, rfl, hc, hr, HV, HB⟩
end Go.Proofs.Ytokepgimjdalaaa
