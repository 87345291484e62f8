"""Sums that find what's damaged: the calls are in damagesums.check."""
