/- VarintExact: the walk. -/
import Derived.Test.YtgeabhnfkkkbgaaR
namespace Go.Proofs.Ytgeabhnfkkkbgaa
open Go.RowKit
set_option linter.unusedVariables false

/-- What one call is made of. -/
structure OpF (w : World) (N : Nat) (a : Option Addr) (n cap : Nat) (C : Int) (l : List Int) : Prop where
  nc : n ≤ cap
  cm : cap ≤ 140737488351232
  N64 : N < 18446744073709551616
  len : l.length = n
  row : Row .u8 w a l
  nil : a = none → cap = 0
  bys : Bys l
  C0 : 0 ≤ C
  C1 : C ≤ 255
theorem OpF.later {w w' : World} {N : Nat} {a : Option Addr} {n cap : Nat} {C : Int} {l : List Int} (h : OpF w N a n cap C l) (hB : Below w.heap.size w w') : OpF w' N a n cap C l :=
  ⟨h.nc, h.cm, h.N64, h.len, h.row.later hB, h.nil, h.bys, h.C0, h.C1⟩
theorem plays_any (kind : Int) (two : Bool) (N : Nat) (a : Option Addr) (len cap : Nat) (C : Int) (l : List Int) (B bo bp br : Nat) (v : Value) (st : St) (w : World) (h : Hid (BothSt B w bo bp br v st)) (hF : OpF w N a len cap C l) :
    Calls Try.prog 20 #[.pointer (some ⟨bo, 0, none⟩), .agg #[.int .i64 kind, .bool two, .int .u64 N, .slice a len cap, .int .u8 C]] w fun e w' => e = .returned (.bool true) ∧ Hid (Plays B bo bp br v w w') := by
  by_cases k1 : kind = 1
  · subst k1; exact plays_1 two N a len cap C B bo bp br v st w h hF.N64
  by_cases k2 : kind = 2
  · subst k2; exact plays_2 two N a len cap C l B bo bp br v st w h hF.len hF.nc hF.cm hF.row hF.nil hF.bys
  by_cases k3 : kind = 3
  · subst k3; exact plays_3 two N a len cap C B bo bp br v st w h
  by_cases k4 : kind = 4
  · subst k4; exact plays_4 two N a len cap C l B bo bp br v st w h hF.len hF.nc hF.cm hF.row hF.nil hF.bys
  by_cases k5 : kind = 5
  · subst k5; exact plays_5 two N a len cap C B bo bp br v st w h hF.C0 hF.C1
  by_cases k6 : kind = 6
  · subst k6; exact plays_6 two N a len cap C B bo bp br v st w h
  exact plays_0 kind two N a len cap C B bo bp br v st w h k1 k2 k3 k4 k5 k6

/-- The two, apart. -/
def Duo (B : Nat) (w : World) (b1 b2 : Nat) : Prop := ∃ p1 r1 v1 s1 p2 r2 v2 s2, BothSt B w b1 p1 r1 v1 s1 ∧ BothSt B w b2 p2 r2 v2 s2 ∧ ∀ k, FB b1 p1 r1 v1 k → ¬ FB b2 p2 r2 v2 k
theorem duo_one {B b1 b2 p1 r1 p2 r2 : Nat} {v1 v2 : Value} {s2 : St} {w w' : World} (h1 : ∀ k, FB b1 p1 r1 v1 k → B ≤ k) (hb : B ≤ w.heap.size) (h2 : BothSt B w b2 p2 r2 v2 s2) (hd : ∀ k, FB b1 p1 r1 v1 k → ¬ FB b2 p2 r2 v2 k) (hp : Plays B b1 p1 r1 v1 w w') :
    Duo B w' b1 b2 ∧ Below B w w' := by
  obtain ⟨p', r', v', s', hS, hU, hF⟩ := hp
  refine ⟨⟨p', r', v', s', p2, r2, v2, s2, hS.out, h2.upd hU (fun k hk e => hd k e hk), fun k hk hk2 => ?_⟩, hU.below B hb h1⟩
  rcases hF k hk with e | e
  · exact hd k e hk2
  · have := (h2.fb k hk2).2; omega
theorem duo_two {B b1 b2 p1 r1 p2 r2 : Nat} {v1 v2 : Value} {s1 : St} {w w' : World} (h2 : ∀ k, FB b2 p2 r2 v2 k → B ≤ k) (hb : B ≤ w.heap.size) (h1 : BothSt B w b1 p1 r1 v1 s1) (hd : ∀ k, FB b1 p1 r1 v1 k → ¬ FB b2 p2 r2 v2 k) (hp : Plays B b2 p2 r2 v2 w w') :
    Duo B w' b1 b2 ∧ Below B w w' := by
  obtain ⟨p', r', v', s', hS, hU, hF⟩ := hp
  refine ⟨⟨p1, r1, v1, s1, p', r', v', s', h1.upd hU (fun k hk e => hd k hk e), hS.out, fun k hk hk2 => ?_⟩, hU.below B hb h2⟩
  rcases hF k hk2 with e | e
  · exact hd k hk e
  · have := (h1.fb k hk).2; omega
/-- A new one. -/
theorem both_new {B : Nat} {w w2 w3 : World} {p r : Nat} (hB : B ≤ w.heap.size) (hp : w.heap.size ≤ p) (hR : Rdr w2 p [] false) (h12 : w.heap.size ≤ w2.heap.size) (hr : w2.heap.size ≤ r) (hRR : RRd w2.heap.size w3 r (.slice none 0 0) [] false) (h23 : Below w2.heap.size w2 w3) :
    BothSt B (w3.alloc (.cells #[.pointer (some ⟨p, 0, none⟩), .pointer (some ⟨r, 0, none⟩)] 50)) w3.heap.size p r (.slice none 0 0) ([], false) ∧ ∀ k, FB w3.heap.size p r (.slice none 0 0) k → w.heap.size ≤ k := by
  have h3 := h23.size
  refine ⟨⟨Blk.newA w3 _ _, (Blk.later hR h23).alloc _, (hRR.mono (by omega)).later ((Below.refl _ _).alloc (Nat.le_refl _) _), TkS.start, by omega, by omega⟩, ?_⟩
  rintro k (e | e | e | e)
  · omega
  · omega
  · omega
  · cases e

def OpR (w : World) (b off i : Nat) : Prop := ∃ (kind : Int) (two : Bool) (N : Nat) (a : Option Addr) (n cap : Nat) (C : Int) (l : List Int),
  (w.cell? ⟨b, off + i * 5, none⟩ = some (.int .i64 kind) ∧ w.cell? ⟨b, off + i * 5 + 1, none⟩ = some (.bool two) ∧ w.cell? ⟨b, off + i * 5 + 2, none⟩ = some (.int .u64 N) ∧ w.cell? ⟨b, off + i * 5 + 3, none⟩ = some (.slice a n cap) ∧
    w.cell? ⟨b, off + i * 5 + 4, none⟩ = some (.int .u8 C)) ∧ OpF w N a n cap C l

set_option maxRecDepth 100000 in
set_option maxHeartbeats 4000000 in
theorem exact_any (a0 : Option Addr) (len cap : Nat) (w : World) (hl : len ≤ maxLen) (hops : Hid (∀ i, i < len → ∃ b off, a0 = some ⟨b, off, none⟩ ∧ b < w.heap.size ∧ OpR w b off i)) :
    Calls Try.prog 7 #[.slice a0 len cap] w fun e w' => e = .returned (.bool true) ∧ Below w.heap.size w w' := by
  unfold maxLen at hl
  go_enter Try.func7, Try.ntmps7
  go_wp2_with fail
  refine (awake_any w).mono ?_; rintro e w1 ⟨rfl, hB1⟩
  go_wp2_with fail
  refine (new_any _).mono ?_; rintro e w2 ⟨p1, rfl, hp1, HR2, hB2⟩
  go_wp2_with fail
  refine (rnew_any _).mono ?_; rintro e w3 ⟨r1, rfl, hr1, HR3, hB3⟩
  go_wp2_with fail
  obtain ⟨w4, hw4⟩ : ∃ w4, w4 = w3.alloc (.cells #[.pointer (some ⟨p1, 0, none⟩), .pointer (some ⟨r1, 0, none⟩)] 50) := ⟨_, rfl⟩
  have HBo := both_new hB1.size hp1 HR2 hB2.size hr1 HR3.out hB3
  rw [← hw4] at HBo
  have hB34 : Below w3.heap.size w3 w4 := by rw [hw4]; exact (Below.refl _ _).alloc (Nat.le_refl _) _
  have hBw4 := below_to (below_to (below_to hB1 hB2) hB3) hB34
  obtain ⟨b1, hb1⟩ : ∃ b1, b1 = w3.heap.size := ⟨_, rfl⟩
  rw [← hb1] at HBo ⊢
  rw [← hw4]
  have HB1 : Hid _ := HBo
  clear hw4 HBo hb1 hB1 hB2 hB3 hB34 hp1 hr1 HR2 HR3
  --1
  refine (new_any _).mono ?_; rintro e w5 ⟨p2, rfl, hp2, HR5, hB5⟩
  go_wp2_with fail
  refine (rnew_any _).mono ?_; rintro e w6 ⟨r2, rfl, hr2, HR6, hB6⟩
  go_wp2_with fail
  --2
  obtain ⟨w7, hw7⟩ : ∃ w7, w7 = w6.alloc (.cells #[.pointer (some ⟨p2, 0, none⟩), .pointer (some ⟨r2, 0, none⟩)] 50) := ⟨_, rfl⟩
  have HBo := both_new hBw4.size hp2 HR5 hB5.size hr2 HR6.out hB6
  rw [← hw7] at HBo
  have hB67 : Below w6.heap.size w6 w7 := by rw [hw7]; exact (Below.refl _ _).alloc (Nat.le_refl _) _
  have hB47 := below_to (below_to hB5 hB6) hB67
  have hBw7 := below_to hBw4 hB47
  obtain ⟨b2, hb2⟩ : ∃ b2, b2 = w6.heap.size := ⟨_, rfl⟩
  rw [← hb2] at HBo ⊢
  rw [← hw7]
  have HD : Hid (Duo w.heap.size w7 b1 b2) := by
    refine ⟨p1, r1, .slice none 0 0, ([], false), p2, r2, .slice none 0 0, ([], false), HB1.out.1.later hB47, HBo.1, fun k hk hk2 => ?_⟩
    have e1 := (HB1.out.1.fb k hk).2
    have e2 := HBo.2 k hk2
    omega
  clear hw7 HBo hb2 hBw4 hB5 hB6 hB67 hB47 hp2 hr2 HR5 HR6 HB1
  --3
  go_loopw [5] (fun i wr => ∃ k : Nat, k ≤ len ∧ k ≤ 500 ∧ i = .int .i64 k ∧ Hid (Duo w.heap.size wr b1 b2) ∧ Below w.heap.size w wr) (fun i _ => len - (intOf i).toNat)
  case atStart => exact ⟨0, Nat.zero_le _, Nat.zero_le _, rfl, HD, hBw7⟩
  case round =>
    clear HD hBw7
    obtain ⟨k, hk, hk2, rfl, HD, hBr⟩ := hrel
    obtain ⟨p1, r1, v1, s1, p2, r2, v2, s2, h1, h2, hd⟩ := HD.out
    have H1 : Hid _ := h1
    have H2 : Hid _ := h2
    have Hd : Hid _ := hd
    have L1 : Hid (∀ k, FB b1 p1 r1 v1 k → w.heap.size ≤ k) := fun k hk => (h1.fb k hk).1
    have L2 : Hid (∀ k, FB b2 p2 r2 v2 k → w.heap.size ≤ k) := fun k hk => (h2.fb k hk).1
    clear h1 h2 hd HD
    by_cases hgo : k < len ∧ k < 500
    · obtain ⟨hlt, hlt2⟩ := hgo
      obtain ⟨b, off, rfl, hb, kind, two, N, a, n, cp, C, l, ⟨c0, c1, c2, c3, c4⟩, hF⟩ := hops.out k hlt
      have hlt' : (k : Int) < len := by omega
      have hlt2' : (k : Int) < 500 := by omega
      have later : ∀ {o : Nat} {v : Value}, w.cell? ⟨b, o, none⟩ = some v → wr.cell? ⟨b, o, none⟩ = some v := fun h => (hBr.cell (p := ⟨b, _, none⟩) hb).trans h
      have d0 := later c0; have d1 := later c1; have d2 := later c2; have d3 := later c3; have d4 := later c4
      have HF : Hid (OpF wr N a n cp C l) := hF.later hBr
      clear later c0 c1 c2 c3 c4 hF
      cases two with
      | false =>
        go_wp2_with fail
        refine (plays_any kind false N a n cp C l w.heap.size b1 p1 r1 v1 s1 _ H1.out HF.out).mono ?_; rintro e w5 ⟨rfl, HP⟩
        obtain ⟨hD5, hB5⟩ := duo_one L1.out hBr.size H2.out Hd.out HP.out
        have HD5 : Hid _ := hD5
        have hBf : Below w.heap.size w w5 := hBr.trans hB5
        clear HF d0 d1 d2 d3 d4 hB5 hD5 HP
        go_wp2
        go_roundw
        case rel => exact ⟨k + 1, by omega, by omega, by go_num, HD5.out, hBf⟩
        case measure => simp [intOf]; omega
      | true =>
        go_wp2_with fail
        refine (plays_any kind true N a n cp C l w.heap.size b2 p2 r2 v2 s2 _ H2.out HF.out).mono ?_; rintro e w5 ⟨rfl, HP⟩
        obtain ⟨hD5, hB5⟩ := duo_two L2.out hBr.size H1.out Hd.out HP.out
        have HD5 : Hid _ := hD5
        have hBf : Below w.heap.size w w5 := hBr.trans hB5
        clear HF d0 d1 d2 d3 d4 hB5 hD5 HP
        go_wp2
        go_roundw
        case rel => exact ⟨k + 1, by omega, by omega, by go_num, HD5.out, hBf⟩
        case measure => simp [intOf]; omega
    · by_cases hlt : k < len
      · have hlt' : (k : Int) < len := by omega
        have hlt2' : ¬ (k : Int) < 500 := by omega
        go_wp2_with fail
        refine (tells_any _ b1 p1 r1 v1 s1 _ H1).mono ?_; rintro e w5 ⟨rfl, hB5⟩
        go_wp2_with fail
        refine (tells_any _ b2 p2 r2 v2 s2 _ (H2.out.later hB5)).mono ?_; rintro e w6 ⟨rfl, hB6⟩
        go_wp2
        go_ret
        exact ⟨rfl, below_to (below_to hBr hB5) hB6⟩
      · have hlt' : ¬ (k : Int) < len := by omega
        go_wp2_with fail
        refine (tells_any _ b1 p1 r1 v1 s1 _ H1).mono ?_; rintro e w5 ⟨rfl, hB5⟩
        go_wp2_with fail
        refine (tells_any _ b2 p2 r2 v2 s2 _ (H2.out.later hB5)).mono ?_; rintro e w6 ⟨rfl, hB6⟩
        go_wp2
        go_ret
        exact ⟨rfl, below_to (below_to hBr hB5) hB6⟩
end Go.Proofs.Ytgeabhnfkkkbgaa
