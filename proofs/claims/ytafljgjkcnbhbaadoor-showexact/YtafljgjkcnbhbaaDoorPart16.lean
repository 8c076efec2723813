import Derived.Test.YtafljgjkcnbhbaaDoorPart15
import Derived.Lib.AppendStr
import Derived.Deep.RegionLaw

/- What SyntaxTokens holds in memory. -/
namespace Go.Proofs.YtafljgjkcnbhbaaDoor
open Go.RowKit
set_option linter.unusedVariables false

def BR (B : Nat) (w : World) (v : Value) (l : List UInt8) : Prop := w.ownsRow B 5 1 v l.length (Lib.byteCells l)
theorem byteCells_app (a b : List UInt8) : Lib.byteCells (a ++ b) = Lib.byteCells a ++ Lib.byteCells b := by simp [Lib.byteCells]
theorem E40 : Elem Tryd.prog 44 5 .u8 1 := ⟨Tryd.underlying44, Tryd.underlying5, by kernel_rfl⟩
section
variable {B : Nat} {w w' : World} {v : Value} {l : List UInt8}
theorem BR.nil (B : Nat) (w : World) : BR B w (.slice none 0 0) [] := World.ownsRow_nil _ _ _ _
theorem BR.form (h : BR B w v l) : ∃ a cap, v = .slice a l.length cap := by
  rcases h.2 with ⟨rfl, h0⟩ | ⟨g, cap, cur, rfl, _⟩
  · exact ⟨none, 0, by rw [h0]⟩
  · exact ⟨_, cap, rfl⟩
theorem BR.app (h : BR B w v l) (s : ByteArray) (hl : l.length ≤ 1000000000) (hs : s.size ≤ 1000000000) (hB : B ≤ w.heap.size) :
    ∃ v' w', (Builtin.append_ #[44, 9] 44 #[v, .string s]).run Tryd.prog w = .ok v' w' ∧ BR B w' v' (l ++ s.data.toList) ∧ Upd (fun k => v.ownBlock = some k) w w' := by
  obtain ⟨i0, hi, hz0, hz1, hz2⟩ := info_parts E40.info
  obtain ⟨v', w', h1, h2, h3, -⟩ := Lib.run_append_own_string (P := Tryd.prog) w B 44 9 44 5 i0 Tryd.underlying44 Tryd.underlying9 hi hz0 hz1 hz2 v l.length _ h s (by unfold maxLen; omega) (by omega) hB
  refine ⟨v', w', h1, ?_, (Upd.refl _ w).grown h3 (fun k hk => .inl hk)⟩
  unfold BR
  rw [byteCells_app, List.length_append, ← Lib.size_eq]
  exact h2
theorem cells_ints (l : List UInt8) : Lib.byteCells l = cellsL .u8 (l.map fun b => (b.toNat : Int)) := by simp [Lib.byteCells, cellsL]
theorem nums_back (l : List UInt8) : strOfNums (l.map fun b => (b.toNat : Int)) = ⟨l.toArray⟩ := by
  unfold strOfNums
  rw [List.map_map]
  have e : ((fun n : Int => UInt8.ofNat n.toNat) ∘ fun b : UInt8 => (b.toNat : Int)) = id := by funext b; simp
  rw [e, List.map_id]
theorem BR.conv (h : BR B w v l) : ∃ a cap, v = .slice a l.length cap ∧ (convert 44 9 (.slice a l.length cap)).run Tryd.prog w = .ok (.string ⟨l.toArray⟩) w := by
  have hr : ∃ a cap, v = .slice a l.length cap ∧ Row .u8 w a (l.map fun b => (b.toNat : Int)) := by
    rcases Nat.eq_zero_or_pos l.length with h0 | h0
    · obtain ⟨a, cap, rfl⟩ := h.form
      have : l = [] := List.eq_nil_of_length_eq_zero h0
      subst this
      refine ⟨a, cap, rfl, ?_⟩
      cases a with
      | none => exact .inl ⟨rfl, rfl⟩
      | some x => exact .inr ⟨x, rfl, fun i hi => by simp at hi⟩
    · obtain ⟨g, cap, ys, rfl, hb, hn, hm, hl, ht, hK⟩ := ownS_blk h h0
      refine ⟨_, cap, rfl, Row.mk fun i hi => ?_⟩
      rw [List.length_map] at hi
      rw [hK.cell, Nat.zero_add]
      have e : ys[i]? = (Lib.byteCells l)[i]? := by rw [← ht, List.getElem?_take, if_pos (by omega)]
      rw [e]
      simp [Lib.byteCells, List.getD, hi]
  obtain ⟨a, cap, rfl, hrow⟩ := hr
  refine ⟨a, cap, rfl, ?_⟩
  have := conv_row E40 Tryd.underlying9 w a l.length cap _ (by simp) hrow
  rw [nums_back] at this
  exact this
end

theorem i64w (n : Int) (h : -9223372036854775808 ≤ n ∧ n ≤ 9223372036854775807) : IntKind.i64.wrap n = n := by rw [IntKind.wrap_i64]; omega
theorem Tw.form {w : List UInt8} (h : Tw w) : ∃ (K : Int) (X : ByteArray) (N : Int), ∀ p, tkW w p = ⟨K, X, N, p, p + w.length⟩ := by
  obtain ⟨c, r, rfl, _⟩ := h
  unfold tkW
  simp only
  cases letter c <;> cases digit c
  · exact ⟨3, _, 0, fun p => rfl⟩
  · exact ⟨2, _, _, fun p => rfl⟩
  · exact ⟨1, _, 0, fun p => rfl⟩
  · exact ⟨1, _, 0, fun p => rfl⟩
/-- One token of a text's places. -/
theorem pl_step {s : ByteArray} {q : Nat} {t : Tk} {ts : List Tk} (hs : s.size ≤ 65536) (hq : q ≤ s.size) (h : PlOk (t :: ts) (s.data.toList.drop q) q) : ∃ (K : Int) (X : ByteArray) (N : Int) (g n : Nat),
    t = ⟨K, X, N, q + g, q + g + n⟩ ∧ 0 < n ∧ q + g + n ≤ s.size ∧ gp false (s.extract q (q + g)).data.toList false = true ∧ cutT (s.extract (q + g) (q + g + n)) = ([⟨K, X, N, 0, n⟩], 0, 0) ∧ Tw (s.extract (q + g) (q + g + n)).data.toList ∧ (s.extract (q + g) (q + g + n)).size = n ∧ tkW (s.extract (q + g) (q + g + n)).data.toList (q + g) = t ∧ PlOk ts (s.data.toList.drop (q + g + n)) (q + g + n) := by
  obtain ⟨G, w, r, h1, h2, h3, h4, h5⟩ := h
  obtain ⟨K, X, N, hf⟩ := h3.form
  have hlen := congrArg List.length h1
  rw [List.length_drop, ← Lib.size_eq, List.length_append, List.length_append] at hlen
  have hpos := h3.pos
  have eG : (s.extract q (q + G.length)).data.toList = G := by
    rw [Lib.extract_data, h1, show q + G.length - q = G.length by omega, List.take_left']
    rfl
  have eD : s.data.toList.drop (q + G.length) = w ++ r := by
    rw [← List.drop_drop, h1, List.drop_left']
    rfl
  have eW : (s.extract (q + G.length) (q + G.length + w.length)).data.toList = w := by
    rw [Lib.extract_data, eD, show q + G.length + w.length - (q + G.length) = w.length by omega, List.take_left']
    rfl
  have eR : s.data.toList.drop (q + G.length + w.length) = r := by
    rw [← List.drop_drop, eD, List.drop_left']
    rfl
  have eS : (s.extract (q + G.length) (q + G.length + w.length)).size = w.length := by rw [Lib.size_eq, eW]
  refine ⟨K, X, N, G.length, w.length, by rw [h4, hf], hpos, by omega, by rw [eG]; exact h2, ?_, by rw [eW]; exact h3, eS, by rw [eW, h4], by rw [eR]; exact h5⟩
  rw [cutT, if_neg (by rw [eS]; omega), eW, cut_alone h3, hf]
  simp
theorem getD_drop {ts : List Tk} {k : Nat} (h : k < ts.length) : ts.drop k = ts.getD k tk0 :: ts.drop (k + 1) := by
  rw [List.drop_eq_getElem_cons h]
  simp [List.getD, h]
/-- Cut's answer, by its parts. -/
theorem cut_is {s : ByteArray} {ts : List Tk} {E A : Nat} (h : cutT s = (ts, E, A)) (w : World) : Calls Tryd.prog 20 #[.string s] w fun e w' => ∃ a cap, e = .returned (.tuple #[.slice a ts.length cap, .agg #[.int .i64 E, .int .i64 A]]) ∧ ts.length ≤ cap ∧ Hid (TRow w' a ts) ∧ Hid (w'.ownsRow w.heap.size 72 5 (.slice a ts.length cap) ts.length (cellsT ts)) ∧ Hid (Below w.heap.size w w') := by
  refine (cut_any s w).mono ?_
  rintro e w' ⟨v, rfl, HV, HB⟩
  rw [h] at HV ⊢
  obtain ⟨a, cap, rfl, hc, hr, _⟩ := own_row HV.out
  exact ⟨a, cap, rfl, hc, hr, HV, HB⟩
end Go.Proofs.YtafljgjkcnbhbaaDoor
