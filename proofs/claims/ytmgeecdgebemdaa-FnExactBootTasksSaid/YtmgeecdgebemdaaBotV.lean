/- Chapter 16: a boot as a value. -/
import Derived.Test.YtmgeecdgebemdaaExpr
namespace Go.Proofs.Ytmgeecdgebemdaa.bot
open Go
abbrev botV (am : Option Addr) (nm cm : Nat) (z : Int) (au : Option Addr) (nu cu : Nat) (e : Int) : Value := .agg #[.slice am nm cm, .int .i64 z, .slice au nu cu, .int .i64 e]
abbrev zero4B : Array Value := #[.slice none 0 0, .int .i64 0, .slice none 0 0, .int .i64 0]
end Go.Proofs.Ytmgeecdgebemdaa.bot
