/- Names: digits; the new names, plain. -/
import Derived.Test.YtjeafblkmipdmaaLt
import Derived.Test.YtjeafblkmipdmaaK
namespace Go.Proofs.Ytjeafblkmipdmaa
open Go.RowKit
set_option linter.unusedVariables false

def decF : Nat → Nat → List UInt8
  | 0, _ => []
  | f + 1, n => if n < 10 then [UInt8.ofNat (48 + n)] else decF f (n / 10) ++ [UInt8.ofNat (48 + n % 10)]
theorem dig_nat {n : Nat} (h : n < 10) : (UInt8.ofNat (48 + n)).toNat = 48 + n := by
  rw [UInt8.toNat_ofNat']
  omega
def numL (w : List UInt8) : Nat := w.foldl (fun n d => n * 10 + (d.toNat - 48)) 0
theorem numL_snoc (w : List UInt8) (c : UInt8) : numL (w ++ [c]) = numL w * 10 + (c.toNat - 48) := by simp [numL]
theorem decF_ok : ∀ (f n : Nat), n < 10 ^ (f + 1) → decF (f + 1) n ≠ [] ∧ (∀ c ∈ decF (f + 1) n, digit c = true) ∧ numL (decF (f + 1) n) = n := by
  intro f
  induction f with
  | zero =>
    intro n hn
    have hn' : n < 10 := by simpa using hn
    unfold decF
    rw [if_pos hn']
    refine ⟨by simp, fun c hc => ?_, ?_⟩
    · obtain rfl := List.mem_singleton.1 hc
      unfold digit
      rw [dig_nat hn']
      exact decide_eq_true (by omega)
    · simp only [numL, List.foldl]
      rw [dig_nat hn']
      omega
  | succ f ih =>
    intro n hn
    by_cases h10 : n < 10
    · unfold decF
      rw [if_pos h10]
      refine ⟨by simp, fun c hc => ?_, ?_⟩
      · obtain rfl := List.mem_singleton.1 hc
        unfold digit
        rw [dig_nat h10]
        exact decide_eq_true (by omega)
      · simp only [numL, List.foldl]
        rw [dig_nat h10]
        omega
    · have hd : n / 10 < 10 ^ (f + 1) := by
        rw [Nat.pow_succ] at hn
        exact Nat.div_lt_of_lt_mul (by rw [Nat.mul_comm]; exact hn)
      obtain ⟨h1, h2, h3⟩ := ih (n / 10) hd
      have e : decF (f + 1 + 1) n = decF (f + 1) (n / 10) ++ [UInt8.ofNat (48 + n % 10)] := by
        rw [decF, if_neg h10]
      rw [e]
      have hm : n % 10 < 10 := Nat.mod_lt _ (by decide)
      refine ⟨by simp, fun c hc => ?_, ?_⟩
      · rcases List.mem_append.1 hc with hc | hc
        · exact h2 c hc
        · obtain rfl := List.mem_singleton.1 hc
          unfold digit
          rw [dig_nat hm]
          exact decide_eq_true (by omega)
      · rw [numL_snoc, h3, dig_nat hm]
        omega
theorem decF_len : ∀ (f n : Nat), (decF f n).length ≤ f
  | 0, n => by simp [decF]
  | f + 1, n => by
    rw [decF]
    split
    · simp
    · have := decF_len f (n / 10)
      simp
      exact this
theorem decF_step (f n : Nat) (h : ¬ n < 10) : decF (f + 1) n = decF f (n / 10) ++ [UInt8.ofNat (48 + n % 10)] := by rw [decF, if_neg h]
/-! ### The new names -/
def zqn (n : Nat) : ByteArray := (⟨#[122, 113]⟩ : ByteArray) ++ (⟨(decF 20 n).toArray⟩ : ByteArray)
theorem zqn_list (n : Nat) : (zqn n).data.toList = 122 :: 113 :: decF 20 n := by simp [zqn]
theorem zqn_inj {n m : Nat} (hn : n ≤ 4000000000) (hm : m ≤ 4000000000) (h : zqn n = zqn m) : n = m := by
  have h1 := congrArg (fun s : ByteArray => s.data.toList) h
  simp only [zqn_list, List.cons.injEq, true_and] at h1
  have h2 := (decF_ok 19 n (Nat.lt_of_le_of_lt hn (by decide))).2.2
  have h3 := (decF_ok 19 m (Nat.lt_of_le_of_lt hm (by decide))).2.2
  rw [h1, h3] at h2
  exact h2.symm
theorem zqn_size (n : Nat) : 2 ≤ (zqn n).size ∧ (zqn n).size ≤ 22 := by
  have h1 : (zqn n).size = (zqn n).data.toList.length := by rw [Lib.size_eq]
  rw [h1, zqn_list]
  have := decF_len 20 n
  simp
  omega
theorem zqn_name {n : Nat} (hn : n ≤ 4000000000) : isName (zqn n) = true := by
  have hs := zqn_size n
  have hd := (decF_ok 19 n (Nat.lt_of_le_of_lt hn (by decide))).2.1
  have hat : ∀ i (h : i < (zqn n).size), (zqn n).data.toList[i]? = some ((zqn n)[i]'h) := fun i h => by
    have h2 : i < (zqn n).data.toList.length := by rw [← Lib.size_eq]; exact h
    rw [List.getElem?_eq_getElem h2]
    rfl
  unfold isName
  refine decide_eq_true ⟨by omega, by omega, fun h => ?_, fun i h => ?_, ?_⟩
  · have := hat 0 h
    rw [zqn_list] at this
    simp at this
    rw [← this]
    decide
  · have h1 := hat i h
    rw [zqn_list] at h1
    have hm : (zqn n)[i]'h ∈ 122 :: 113 :: decF 20 n := List.mem_of_getElem? h1
    generalize (zqn n)[i]'h = c at *
    rcases List.mem_cons.1 hm with rfl | hm
    · decide
    rcases List.mem_cons.1 hm with rfl | hm
    · decide
    · unfold goes
      rw [hd c hm]
      simp
  · unfold isWord
    refine decide_eq_false (fun hw => ?_)
    have key : ∀ (l : Array UInt8), l.toList.head? ≠ some 122 → zqn n ≠ ⟨l⟩ := fun l hl e => by
      have h1 := zqn_list n
      rw [e] at h1
      have h2 : l.toList = 122 :: 113 :: decF 20 n := h1
      rw [h2] at hl
      exact hl rfl
    repeat (first | (rcases hw with hw | hw; exact key _ (by decide) hw) | exact key _ (by decide) hw)
/-! ### Where a name stands -/
def ixN (L : List ByteArray) (s : ByteArray) : Nat := L.findIdx (fun t => decide (t = s))
theorem ix_lt {L : List ByteArray} {s : ByteArray} (h : s ∈ L) : ixN L s < L.length := List.findIdx_lt_length_of_exists ⟨s, h, by simp⟩
theorem ix_app {L X : List ByteArray} {s : ByteArray} (h : s ∈ L) : ixN (L ++ X) s = ixN L s := by
  have := ix_lt h
  unfold ixN at this ⊢
  rw [List.findIdx_append, if_pos this]
theorem ix_at {L : List ByteArray} {s : ByteArray} (h : s ∈ L) : L[ixN L s]? = some s := by
  have h1 := ix_lt h
  have h2 := List.findIdx_getElem (w := h1)
  rw [List.getElem?_eq_getElem h1]
  unfold ixN at *
  rw [of_decide_eq_true h2]
theorem ix_inj {L : List ByteArray} {s t : ByteArray} (hs : s ∈ L) (ht : t ∈ L) (h : ixN L s = ixN L t) : s = t := by
  have h1 := ix_at hs
  rw [h, ix_at ht] at h1
  injection h1 with h1
  exact h1.symm
theorem ix_new {L : List ByteArray} {s : ByteArray} (h : s ∉ L) : ixN (L ++ [s]) s = L.length := by
  unfold ixN
  have h1 : L.findIdx (fun t => decide (t = s)) = L.length := List.findIdx_eq_length.2 (fun t ht => by
    simp
    intro e
    exact h (e ▸ ht))
  rw [List.findIdx_append, h1, if_neg (by omega)]
  simp
theorem ix_mem {L : List ByteArray} {s : ByteArray} (h : ixN L s < L.length) : s ∈ L := by
  have h2 := List.findIdx_getElem (w := h)
  have h3 := of_decide_eq_true h2
  rw [← h3]
  exact List.getElem_mem _
/-- A name that is there stays; another one comes behind. -/
def addN (L : List ByteArray) (s : ByteArray) : List ByteArray := if ixN L s < L.length then L else L ++ [s]
theorem addN_old {L : List ByteArray} {s : ByteArray} (h : s ∈ L) : addN L s = L := by unfold addN; rw [if_pos (ix_lt h)]
theorem addN_new {L : List ByteArray} {s : ByteArray} (h : s ∉ L) : addN L s = L ++ [s] := by unfold addN; rw [if_neg (fun h2 => h (ix_mem h2))]
theorem addN_mem (L : List ByteArray) (s : ByteArray) : s ∈ addN L s := by
  unfold addN
  split
  · rename_i h; exact ix_mem h
  · simp
theorem addN_app (L : List ByteArray) (s : ByteArray) : ∃ X, addN L s = L ++ X ∧ X.length ≤ 1 := by
  unfold addN
  split
  · exact ⟨[], by simp, by simp⟩
  · exact ⟨[s], rfl, by simp⟩
def fN (L : List ByteArray) (s : ByteArray) : ByteArray := if s.size = 0 then s else zqn (ixN L s)
def tnX (L M : List ByteArray) (x : Nd) : Nd := { x with name := fN L x.name, label := fN M x.label }
def tnD (L M : List ByteArray) (d : Df) : Df := ⟨zqn (ixN L d.name), d.a, d.ty.map (tnX L M)⟩
/-- All names of a node are in the lists. -/
def InX (L M : List ByteArray) (x : Nd) : Prop := (x.name.size ≠ 0 → x.name ∈ L) ∧ (x.label.size ≠ 0 → x.label ∈ M)
def InD (L M : List ByteArray) (d : Df) : Prop := d.name ∈ L ∧ ∀ x ∈ d.ty, InX L M x
theorem InX.app {L M X Y : List ByteArray} {x : Nd} (h : InX L M x) : InX (L ++ X) (M ++ Y) x := ⟨fun hs => List.mem_append_left _ (h.1 hs), fun hs => List.mem_append_left _ (h.2 hs)⟩
theorem InD.app {L M X Y : List ByteArray} {d : Df} (h : InD L M d) : InD (L ++ X) (M ++ Y) d := ⟨List.mem_append_left _ h.1, fun x hx => (h.2 x hx).app⟩
theorem fN_app {L X : List ByteArray} {s : ByteArray} (h : s.size ≠ 0 → s ∈ L) : fN (L ++ X) s = fN L s := by
  unfold fN
  by_cases h0 : s.size = 0
  · rw [if_pos h0, if_pos h0]
  · rw [if_neg h0, if_neg h0, ix_app (h h0)]
theorem tnX_app {L M X Y : List ByteArray} {x : Nd} (h : InX L M x) : tnX (L ++ X) (M ++ Y) x = tnX L M x := by
  unfold tnX
  rw [fN_app h.1, fN_app h.2]
theorem tnD_app {L M X Y : List ByteArray} {d : Df} (h : InD L M d) : tnD (L ++ X) (M ++ Y) d = tnD L M d := by
  unfold tnD
  rw [ix_app h.1]
  congr 1
  exact List.map_congr_left (fun x hx => tnX_app (h.2 x hx))
end Go.Proofs.Ytjeafblkmipdmaa
