/- Any call of an output. -/
import Derived.Test.YtmeplmhngmlnaaaZj
namespace Go.Proofs.Ytmeplmhngmlnaaa
open Go.RowKit
set_option linter.unusedVariables false

theorem outputs_any (kind : Int) (wh : Bool) (N wd : Int) (V : Nat) (a : Option Addr) (len cap : Nat) (lb : List Int) (B bt : Nat) (w0 w : World) (n W : Nat) (t : Plays B w0 w bt n) (hn : n + 1 ≤ 900) (hW : W < 2)
    (hlb : lb.length = len) (hrow : ∀ w', Below B w0 w' → Row .u8 w' a lb) (hnil : a = none → cap = 0) (hlen : len ≤ 1000) (hN : N ≤ 9223372036854775807) (hV : V < 18446744073709551616) :
    Calls Try.prog 25 #[.pointer (some ⟨bt, 0, none⟩), .int .i64 W, .agg #[.int .i64 kind, .bool wh, .int .i64 N, .int .i64 wd, .int .u64 V, .slice a len cap]] w fun e w' => e = .returned (.bool true) ∧ Hid (Plays B w0 w' bt (n + 1)) := by
  obtain ⟨i, r, o, s, k, t, l⟩ := t
  by_cases k1 : kind = 7
  · subst k1; exact outputs_to wh N wd V a len cap B bt w0 w i r o s k n W t l hW hN
  by_cases k2 : kind = 8
  · subst k2; exact outputs_put wh N wd V a len cap lb B bt w0 w i r o s k n W t l hn hW hlb hrow hnil hlen
  by_cases k3 : kind = 9
  · subst k3; exact outputs_patch wh N wd V a len cap B bt w0 w i r o s k n W t l hn hW hV
  by_cases k4 : kind = 10
  · subst k4; exact outputs_bytes wh N wd V a len cap B bt w0 w i r o s k n W t l hn hW
  exact outputs_0 kind wh N wd V a len cap B bt w0 w i r o s k n W t l k1 k2 k3 k4
end Go.Proofs.Ytmeplmhngmlnaaa
