/-
  A fact laid by.
-/
import Derived.Below
namespace Go.Proofs.YtmhamgcjmehnnaaDoor
open Go.RowKit
theorem hid {p : Prop} (h : p) : Hid p := h
end Go.Proofs.YtmhamgcjmehnnaaDoor
