/- Slices of bytes for seats that have no huff: with bits' own texts, or without. -/
import Derived.Test.YtonhcdhlinlncaaBytesB
